/-
  No cell of these rows narrows 'for every input' (looked for: loops, veiled, ifaces, maps, wideKeys, modest, calm, conditions, laid).
  DERIVED. THE GIVEN ROWS OF THIS SEAT. 4 by the template 'for every input the law returns true; each argument reads behind the call as it read before'; 0 by the template 'total and deterministic' (their statements: YtinpimejiepahaaTotals.lean).
  GIVEN WITH THE SEED: the statements are not yours to turn. If you find one false, say at which input.
  Laid BY PROGRAM, IN A SANDBOX (cutbox-rows.mjs): the forced cells as the released guide's own fill.sh prints them over the translation 42f1240b270b1e66… (all of the seat's roots in one cut). By AI agents, Wed Nov 11 2026. No macro, syntax, notation, axiom, sorry.
-/
import Derived.Test.YtinpimejiepahaaChecked
import GoSem.Claim
import GoSem.ClaimJoined
import GoSem.ClaimMapViews
import Derived.JoinedTies
import Derived.KernelRfl
namespace Go.Proofs.Ytinpimejiepahaa
/- THE CELL 'sum', in the pinned program and in every row, IS THE sha256 OF THE DUMP (.gsa) THAT YtinpimejiepahaaProg.lean LOADS. Nothing in Lean hashes anything: it is a label: what it is worth is what the hold of that sum in a sandbox is worth. -/
noncomputable def Try.pinned : Pinned := { name := "ytinpimejiepahaa", sum := "42f1240b270b1e66cfee62e1504fb173a830e02f0e0f573af44a0130c38c128a", checked := Try.checked }
namespace Rows
def none {H : Type} : Left H := { results := [], args := [] }

/-- 'millpondlaw11.CommandTables': WHATEVER THE INPUT: true; the input reads as it did. -/
def commandTablesSpec : ChangeSpec := { name := "commandTables", fn := fun _ => fun
  | [d] => { results := [.lit (.bool true)], args := [d] }
  | _ => none }
def commandTablesRow : OpenClaim := { program := "ytinpimejiepahaa", sum := "42f1240b270b1e66cfee62e1504fb173a830e02f0e0f573af44a0130c38c128a", func := "millpond/millpondlaw11.CommandTables", spec := "commandTables", inPlace := ["internal/bytealg.abigen_runtime_cmpstring"], unfollowed := true, recurses := true, apart := false }
def CommandTablesSaid : Prop := commandTablesRow.holds Try.pinned (OpenSpec.ofChange commandTablesSpec)

/-- ITS FALSE NEIGHBOUR: 'it returns false'. Refute it at one input. -/
def commandTablesWrong : ChangeSpec := { name := "commandTables", fn := fun _ => fun
  | [d] => { results := [.lit (.bool false)], args := [d] }
  | _ => none }
def CommandTablesWrongFalsely : Prop := commandTablesRow.holds Try.pinned (OpenSpec.ofChange commandTablesWrong)

/-- 'millpondlaw11.CommandChecks': WHATEVER THE INPUT: true; the input reads as it did. -/
def commandChecksSpec : ChangeSpec := { name := "commandChecks", fn := fun _ => fun
  | [d] => { results := [.lit (.bool true)], args := [d] }
  | _ => none }
def commandChecksRow : OpenClaim := { program := "ytinpimejiepahaa", sum := "42f1240b270b1e66cfee62e1504fb173a830e02f0e0f573af44a0130c38c128a", func := "millpond/millpondlaw11.CommandChecks", spec := "commandChecks", unfollowed := true, recurses := true, apart := false }
def CommandChecksSaid : Prop := commandChecksRow.holds Try.pinned (OpenSpec.ofChange commandChecksSpec)

/-- ITS FALSE NEIGHBOUR: 'it returns false'. Refute it at one input. -/
def commandChecksWrong : ChangeSpec := { name := "commandChecks", fn := fun _ => fun
  | [d] => { results := [.lit (.bool false)], args := [d] }
  | _ => none }
def CommandChecksWrongFalsely : Prop := commandChecksRow.holds Try.pinned (OpenSpec.ofChange commandChecksWrong)

/-- 'millpondlaw11.CommandKeys': WHATEVER THE INPUT: true; the input reads as it did. -/
def commandKeysSpec : ChangeSpec := { name := "commandKeys", fn := fun _ => fun
  | [d] => { results := [.lit (.bool true)], args := [d] }
  | _ => none }
def commandKeysRow : OpenClaim := { program := "ytinpimejiepahaa", sum := "42f1240b270b1e66cfee62e1504fb173a830e02f0e0f573af44a0130c38c128a", func := "millpond/millpondlaw11.CommandKeys", spec := "commandKeys", unfollowed := true, recurses := true, apart := false }
def CommandKeysSaid : Prop := commandKeysRow.holds Try.pinned (OpenSpec.ofChange commandKeysSpec)

/-- ITS FALSE NEIGHBOUR: 'it returns false'. Refute it at one input. -/
def commandKeysWrong : ChangeSpec := { name := "commandKeys", fn := fun _ => fun
  | [d] => { results := [.lit (.bool false)], args := [d] }
  | _ => none }
def CommandKeysWrongFalsely : Prop := commandKeysRow.holds Try.pinned (OpenSpec.ofChange commandKeysWrong)

/-- 'millpondlaw11.CommandNames': WHATEVER THE INPUT: true; the input reads as it did. -/
def commandNamesSpec : ChangeSpec := { name := "commandNames", fn := fun _ => fun
  | [d1, d2] => { results := [.lit (.bool true)], args := [d1, d2] }
  | _ => none }
def commandNamesRow : OpenClaim := { program := "ytinpimejiepahaa", sum := "42f1240b270b1e66cfee62e1504fb173a830e02f0e0f573af44a0130c38c128a", func := "millpond/millpondlaw11.CommandNames", spec := "commandNames", inPlace := ["internal/bytealg.abigen_runtime_cmpstring"], unfollowed := true, recurses := true, apart := false }
def CommandNamesSaid : Prop := commandNamesRow.holds Try.pinned (OpenSpec.ofChange commandNamesSpec)

/-- ITS FALSE NEIGHBOUR: 'it returns false'. Refute it at one input. -/
def commandNamesWrong : ChangeSpec := { name := "commandNames", fn := fun _ => fun
  | [d1, d2] => { results := [.lit (.bool false)], args := [d1, d2] }
  | _ => none }
def CommandNamesWrongFalsely : Prop := commandNamesRow.holds Try.pinned (OpenSpec.ofChange commandNamesWrong)

/- THE SECOND FORM. 'bulk': how many values and letters a reading holds, each counted each time it is reached (what is shared counts as often as it is met; a slice's spare places count too). A statement '..UptoSaid' is the law's where the arguments, and the package variables that the reading takes, are together of bulk at most 1048576: NARROWER than '..Said'. Prove '..Said' where nothing that the law and all that it calls make is longer than what came in: it says more and counts as full. Else prove '..UptoSaid'. A law counts once. -/
mutual
def uptoBulk {H : Type} : DataW H → Nat
  | .lit (.string bytes) => bytes.length + 1
  | .lit _ => 1
  | .nil => 1
  | .ptr d => uptoBulk d + 1
  | .slice elems spare => uptoBulkAll elems + uptoBulkAll spare + 1
  | .agg parts => uptoBulkAll parts + 1
  | .iface _ d => uptoBulk d + 1
  | .map entries => uptoBulkEntries entries + 1
  | .held _ => 1
def uptoBulkAll {H : Type} : List (DataW H) → Nat
  | [] => 0
  | d :: r => uptoBulk d + uptoBulkAll r
def uptoBulkEntries {H : Type} : List (Lit × DataW H) → Nat
  | [] => 0
  | x :: r => uptoBulkEntry x + uptoBulkEntries r
def uptoBulkEntry {H : Type} : Lit × DataW H → Nat
  | (.string bytes, d) => bytes.length + uptoBulk d + 1
  | (_, d) => uptoBulk d + 1
 end
def uptoSmall : (H : Type) → List (DataW H) → Bool := fun _ ds => decide (uptoBulkAll ds ≤ 1048576)
def OpenSpec.upto (s : _root_.Go.ChangeSpec) : _root_.Go.OpenSpec := { _root_.Go.OpenSpec.ofChange s with cond := some uptoSmall }

/-- 'millpondlaw11.CommandTables', WHERE WHAT IT READS IS OF BULK AT MOST 1048576: true; the input reads as it did. -/
def commandTablesUptoRow : OpenClaim := { program := "ytinpimejiepahaa", sum := "42f1240b270b1e66cfee62e1504fb173a830e02f0e0f573af44a0130c38c128a", func := "millpond/millpondlaw11.CommandTables", spec := "commandTables", inPlace := ["internal/bytealg.abigen_runtime_cmpstring"], unfollowed := true, recurses := true, apart := false, narrowed := true }
def CommandTablesUptoSaid : Prop := commandTablesUptoRow.holds Try.pinned (OpenSpec.upto commandTablesSpec)

/-- 'millpondlaw11.CommandChecks', WHERE WHAT IT READS IS OF BULK AT MOST 1048576: true; the input reads as it did. -/
def commandChecksUptoRow : OpenClaim := { program := "ytinpimejiepahaa", sum := "42f1240b270b1e66cfee62e1504fb173a830e02f0e0f573af44a0130c38c128a", func := "millpond/millpondlaw11.CommandChecks", spec := "commandChecks", unfollowed := true, recurses := true, apart := false, narrowed := true }
def CommandChecksUptoSaid : Prop := commandChecksUptoRow.holds Try.pinned (OpenSpec.upto commandChecksSpec)

/-- 'millpondlaw11.CommandKeys', WHERE WHAT IT READS IS OF BULK AT MOST 1048576: true; the input reads as it did. -/
def commandKeysUptoRow : OpenClaim := { program := "ytinpimejiepahaa", sum := "42f1240b270b1e66cfee62e1504fb173a830e02f0e0f573af44a0130c38c128a", func := "millpond/millpondlaw11.CommandKeys", spec := "commandKeys", unfollowed := true, recurses := true, apart := false, narrowed := true }
def CommandKeysUptoSaid : Prop := commandKeysUptoRow.holds Try.pinned (OpenSpec.upto commandKeysSpec)

/-- 'millpondlaw11.CommandNames', WHERE WHAT IT READS IS OF BULK AT MOST 1048576: true; the input reads as it did. -/
def commandNamesUptoRow : OpenClaim := { program := "ytinpimejiepahaa", sum := "42f1240b270b1e66cfee62e1504fb173a830e02f0e0f573af44a0130c38c128a", func := "millpond/millpondlaw11.CommandNames", spec := "commandNames", inPlace := ["internal/bytealg.abigen_runtime_cmpstring"], unfollowed := true, recurses := true, apart := false, narrowed := true }
def CommandNamesUptoSaid : Prop := commandNamesUptoRow.holds Try.pinned (OpenSpec.upto commandNamesSpec)

end Rows
end Go.Proofs.Ytinpimejiepahaa
