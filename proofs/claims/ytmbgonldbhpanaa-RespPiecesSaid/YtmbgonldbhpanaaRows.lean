/-
  No cell of these rows narrows 'for every input' (looked for: loops, veiled, ifaces, maps, wideKeys, modest, calm, conditions, laid).
  DERIVED. THE GIVEN ROWS OF THIS SEAT. 6 by the template 'for every input the law returns true; each argument reads behind the call as it read before'; 0 by the template 'total and deterministic' (their statements: YtmbgonldbhpanaaTotals.lean).
  GIVEN WITH THE SEED: the statements are not yours to turn. If you find one false, say at which input.
  Laid BY PROGRAM, IN A SANDBOX (cutbox-rows.mjs): the forced cells as the released guide's own fill.sh prints them over the translation 0594bbe47bc52f8c… (all of the seat's roots in one cut). By AI agents, Wed Nov 11 2026. No macro, syntax, notation, axiom, sorry.
-/
import Derived.Test.YtmbgonldbhpanaaChecked
import GoSem.Claim
import GoSem.ClaimJoined
import GoSem.ClaimMapViews
import Derived.JoinedTies
import Derived.KernelRfl
namespace Go.Proofs.Ytmbgonldbhpanaa
/- THE CELL 'sum', in the pinned program and in every row, IS THE sha256 OF THE DUMP (.gsa) THAT YtmbgonldbhpanaaProg.lean LOADS. Nothing in Lean hashes anything: it is a label: what it is worth is what the hold of that sum in a sandbox is worth. -/
noncomputable def Try.pinned : Pinned := { name := "ytmbgonldbhpanaa", sum := "0594bbe47bc52f8ca2bcc1d3308c60f92e4fdf6f35683584b4690a5716cd2ae4", checked := Try.checked }
namespace Rows
def none {H : Type} : Left H := { results := [], args := [] }

/-- 'millpondlaw02.RespSplits': WHATEVER THE INPUT: true; the input reads as it did. -/
def respSplitsSpec : ChangeSpec := { name := "respSplits", fn := fun _ => fun
  | [d] => { results := [.lit (.bool true)], args := [d] }
  | _ => none }
def respSplitsRow : OpenClaim := { program := "ytmbgonldbhpanaa", sum := "0594bbe47bc52f8ca2bcc1d3308c60f92e4fdf6f35683584b4690a5716cd2ae4", func := "millpond/millpondlaw02.RespSplits", spec := "respSplits", inPlace := ["internal/bytealg.IndexByte"], unfollowed := true, recurses := true, apart := false }
def RespSplitsSaid : Prop := respSplitsRow.holds Try.pinned (OpenSpec.ofChange respSplitsSpec)

/-- ITS FALSE NEIGHBOUR: 'it returns false'. Refute it at one input. -/
def respSplitsWrong : ChangeSpec := { name := "respSplits", fn := fun _ => fun
  | [d] => { results := [.lit (.bool false)], args := [d] }
  | _ => none }
def RespSplitsWrongFalsely : Prop := respSplitsRow.holds Try.pinned (OpenSpec.ofChange respSplitsWrong)

/-- 'millpondlaw02.RespFeeds': WHATEVER THE INPUT: true; the input reads as it did. -/
def respFeedsSpec : ChangeSpec := { name := "respFeeds", fn := fun _ => fun
  | [d] => { results := [.lit (.bool true)], args := [d] }
  | _ => none }
def respFeedsRow : OpenClaim := { program := "ytmbgonldbhpanaa", sum := "0594bbe47bc52f8ca2bcc1d3308c60f92e4fdf6f35683584b4690a5716cd2ae4", func := "millpond/millpondlaw02.RespFeeds", spec := "respFeeds", inPlace := ["internal/bytealg.IndexByte"], unfollowed := true, recurses := true, apart := false }
def RespFeedsSaid : Prop := respFeedsRow.holds Try.pinned (OpenSpec.ofChange respFeedsSpec)

/-- ITS FALSE NEIGHBOUR: 'it returns false'. Refute it at one input. -/
def respFeedsWrong : ChangeSpec := { name := "respFeeds", fn := fun _ => fun
  | [d] => { results := [.lit (.bool false)], args := [d] }
  | _ => none }
def RespFeedsWrongFalsely : Prop := respFeedsRow.holds Try.pinned (OpenSpec.ofChange respFeedsWrong)

/-- 'millpondlaw02.RespPieces': WHATEVER THE INPUT: true; the input reads as it did. -/
def respPiecesSpec : ChangeSpec := { name := "respPieces", fn := fun _ => fun
  | [d1, d2] => { results := [.lit (.bool true)], args := [d1, d2] }
  | _ => none }
def respPiecesRow : OpenClaim := { program := "ytmbgonldbhpanaa", sum := "0594bbe47bc52f8ca2bcc1d3308c60f92e4fdf6f35683584b4690a5716cd2ae4", func := "millpond/millpondlaw02.RespPieces", spec := "respPieces", inPlace := ["internal/bytealg.IndexByte"], unfollowed := true, recurses := true, apart := false }
def RespPiecesSaid : Prop := respPiecesRow.holds Try.pinned (OpenSpec.ofChange respPiecesSpec)

/-- ITS FALSE NEIGHBOUR: 'it returns false'. Refute it at one input. -/
def respPiecesWrong : ChangeSpec := { name := "respPieces", fn := fun _ => fun
  | [d1, d2] => { results := [.lit (.bool false)], args := [d1, d2] }
  | _ => none }
def RespPiecesWrongFalsely : Prop := respPiecesRow.holds Try.pinned (OpenSpec.ofChange respPiecesWrong)

/-- 'millpondlaw02.RespBegins': WHATEVER THE INPUT: true; the input reads as it did. -/
def respBeginsSpec : ChangeSpec := { name := "respBegins", fn := fun _ => fun
  | [d1, d2] => { results := [.lit (.bool true)], args := [d1, d2] }
  | _ => none }
def respBeginsRow : OpenClaim := { program := "ytmbgonldbhpanaa", sum := "0594bbe47bc52f8ca2bcc1d3308c60f92e4fdf6f35683584b4690a5716cd2ae4", func := "millpond/millpondlaw02.RespBegins", spec := "respBegins", inPlace := ["internal/bytealg.IndexByte"], unfollowed := true, recurses := true, apart := false }
def RespBeginsSaid : Prop := respBeginsRow.holds Try.pinned (OpenSpec.ofChange respBeginsSpec)

/-- ITS FALSE NEIGHBOUR: 'it returns false'. Refute it at one input. -/
def respBeginsWrong : ChangeSpec := { name := "respBegins", fn := fun _ => fun
  | [d1, d2] => { results := [.lit (.bool false)], args := [d1, d2] }
  | _ => none }
def RespBeginsWrongFalsely : Prop := respBeginsRow.holds Try.pinned (OpenSpec.ofChange respBeginsWrong)

/-- 'millpondlaw02.RespWords': WHATEVER THE INPUT: true; the input reads as it did. -/
def respWordsSpec : ChangeSpec := { name := "respWords", fn := fun _ => fun
  | [d] => { results := [.lit (.bool true)], args := [d] }
  | _ => none }
def respWordsRow : OpenClaim := { program := "ytmbgonldbhpanaa", sum := "0594bbe47bc52f8ca2bcc1d3308c60f92e4fdf6f35683584b4690a5716cd2ae4", func := "millpond/millpondlaw02.RespWords", spec := "respWords", inPlace := ["internal/bytealg.IndexByte"], unfollowed := true, recurses := true, apart := false }
def RespWordsSaid : Prop := respWordsRow.holds Try.pinned (OpenSpec.ofChange respWordsSpec)

/-- ITS FALSE NEIGHBOUR: 'it returns false'. Refute it at one input. -/
def respWordsWrong : ChangeSpec := { name := "respWords", fn := fun _ => fun
  | [d] => { results := [.lit (.bool false)], args := [d] }
  | _ => none }
def RespWordsWrongFalsely : Prop := respWordsRow.holds Try.pinned (OpenSpec.ofChange respWordsWrong)

/-- 'millpondlaw02.RespNobody': WHATEVER THE INPUT: true; the input reads as it did. -/
def respNobodySpec : ChangeSpec := { name := "respNobody", fn := fun _ => fun
  | [d] => { results := [.lit (.bool true)], args := [d] }
  | _ => none }
def respNobodyRow : OpenClaim := { program := "ytmbgonldbhpanaa", sum := "0594bbe47bc52f8ca2bcc1d3308c60f92e4fdf6f35683584b4690a5716cd2ae4", func := "millpond/millpondlaw02.RespNobody", spec := "respNobody", inPlace := ["internal/bytealg.IndexByte"], unfollowed := true, recurses := true, apart := false }
def RespNobodySaid : Prop := respNobodyRow.holds Try.pinned (OpenSpec.ofChange respNobodySpec)

/-- ITS FALSE NEIGHBOUR: 'it returns false'. Refute it at one input. -/
def respNobodyWrong : ChangeSpec := { name := "respNobody", fn := fun _ => fun
  | [d] => { results := [.lit (.bool false)], args := [d] }
  | _ => none }
def RespNobodyWrongFalsely : Prop := respNobodyRow.holds Try.pinned (OpenSpec.ofChange respNobodyWrong)

/- THE SECOND FORM. 'bulk': how many values and letters a reading holds, each counted each time it is reached (what is shared counts as often as it is met; a slice's spare places count too). A statement '..UptoSaid' is the law's where the arguments, and the package variables that the reading takes, are together of bulk at most 1048576: NARROWER than '..Said'. Prove '..Said' where nothing that the law and all that it calls make is longer than what came in: it says more and counts as full. Else prove '..UptoSaid'. A law counts once. -/
mutual
def uptoBulk {H : Type} : DataW H → Nat
  | .lit (.string bytes) => bytes.length + 1
  | .lit _ => 1
  | .nil => 1
  | .ptr d => uptoBulk d + 1
  | .slice elems spare => uptoBulkAll elems + uptoBulkAll spare + 1
  | .agg parts => uptoBulkAll parts + 1
  | .iface _ d => uptoBulk d + 1
  | .map entries => uptoBulkEntries entries + 1
  | .held _ => 1
def uptoBulkAll {H : Type} : List (DataW H) → Nat
  | [] => 0
  | d :: r => uptoBulk d + uptoBulkAll r
def uptoBulkEntries {H : Type} : List (Lit × DataW H) → Nat
  | [] => 0
  | x :: r => uptoBulkEntry x + uptoBulkEntries r
def uptoBulkEntry {H : Type} : Lit × DataW H → Nat
  | (.string bytes, d) => bytes.length + uptoBulk d + 1
  | (_, d) => uptoBulk d + 1
 end
def uptoSmall : (H : Type) → List (DataW H) → Bool := fun _ ds => decide (uptoBulkAll ds ≤ 1048576)
def OpenSpec.upto (s : _root_.Go.ChangeSpec) : _root_.Go.OpenSpec := { _root_.Go.OpenSpec.ofChange s with cond := some uptoSmall }

/-- 'millpondlaw02.RespSplits', WHERE WHAT IT READS IS OF BULK AT MOST 1048576: true; the input reads as it did. -/
def respSplitsUptoRow : OpenClaim := { program := "ytmbgonldbhpanaa", sum := "0594bbe47bc52f8ca2bcc1d3308c60f92e4fdf6f35683584b4690a5716cd2ae4", func := "millpond/millpondlaw02.RespSplits", spec := "respSplits", inPlace := ["internal/bytealg.IndexByte"], unfollowed := true, recurses := true, apart := false, narrowed := true }
def RespSplitsUptoSaid : Prop := respSplitsUptoRow.holds Try.pinned (OpenSpec.upto respSplitsSpec)

/-- 'millpondlaw02.RespFeeds', WHERE WHAT IT READS IS OF BULK AT MOST 1048576: true; the input reads as it did. -/
def respFeedsUptoRow : OpenClaim := { program := "ytmbgonldbhpanaa", sum := "0594bbe47bc52f8ca2bcc1d3308c60f92e4fdf6f35683584b4690a5716cd2ae4", func := "millpond/millpondlaw02.RespFeeds", spec := "respFeeds", inPlace := ["internal/bytealg.IndexByte"], unfollowed := true, recurses := true, apart := false, narrowed := true }
def RespFeedsUptoSaid : Prop := respFeedsUptoRow.holds Try.pinned (OpenSpec.upto respFeedsSpec)

/-- 'millpondlaw02.RespPieces', WHERE WHAT IT READS IS OF BULK AT MOST 1048576: true; the input reads as it did. -/
def respPiecesUptoRow : OpenClaim := { program := "ytmbgonldbhpanaa", sum := "0594bbe47bc52f8ca2bcc1d3308c60f92e4fdf6f35683584b4690a5716cd2ae4", func := "millpond/millpondlaw02.RespPieces", spec := "respPieces", inPlace := ["internal/bytealg.IndexByte"], unfollowed := true, recurses := true, apart := false, narrowed := true }
def RespPiecesUptoSaid : Prop := respPiecesUptoRow.holds Try.pinned (OpenSpec.upto respPiecesSpec)

/-- 'millpondlaw02.RespBegins', WHERE WHAT IT READS IS OF BULK AT MOST 1048576: true; the input reads as it did. -/
def respBeginsUptoRow : OpenClaim := { program := "ytmbgonldbhpanaa", sum := "0594bbe47bc52f8ca2bcc1d3308c60f92e4fdf6f35683584b4690a5716cd2ae4", func := "millpond/millpondlaw02.RespBegins", spec := "respBegins", inPlace := ["internal/bytealg.IndexByte"], unfollowed := true, recurses := true, apart := false, narrowed := true }
def RespBeginsUptoSaid : Prop := respBeginsUptoRow.holds Try.pinned (OpenSpec.upto respBeginsSpec)

/-- 'millpondlaw02.RespWords', WHERE WHAT IT READS IS OF BULK AT MOST 1048576: true; the input reads as it did. -/
def respWordsUptoRow : OpenClaim := { program := "ytmbgonldbhpanaa", sum := "0594bbe47bc52f8ca2bcc1d3308c60f92e4fdf6f35683584b4690a5716cd2ae4", func := "millpond/millpondlaw02.RespWords", spec := "respWords", inPlace := ["internal/bytealg.IndexByte"], unfollowed := true, recurses := true, apart := false, narrowed := true }
def RespWordsUptoSaid : Prop := respWordsUptoRow.holds Try.pinned (OpenSpec.upto respWordsSpec)

/-- 'millpondlaw02.RespNobody', WHERE WHAT IT READS IS OF BULK AT MOST 1048576: true; the input reads as it did. -/
def respNobodyUptoRow : OpenClaim := { program := "ytmbgonldbhpanaa", sum := "0594bbe47bc52f8ca2bcc1d3308c60f92e4fdf6f35683584b4690a5716cd2ae4", func := "millpond/millpondlaw02.RespNobody", spec := "respNobody", inPlace := ["internal/bytealg.IndexByte"], unfollowed := true, recurses := true, apart := false, narrowed := true }
def RespNobodyUptoSaid : Prop := respNobodyUptoRow.holds Try.pinned (OpenSpec.upto respNobodySpec)

end Rows
end Go.Proofs.Ytmbgonldbhpanaa
