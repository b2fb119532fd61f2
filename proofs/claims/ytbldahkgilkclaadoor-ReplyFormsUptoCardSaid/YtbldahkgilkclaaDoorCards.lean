/-
  DERIVED. GIVEN WITH THE SEED: THE CARDS: each row of YtbldahkgilkclaaDoorRows.lean that lists a variable, with what it lists TIED to the program's text (the seventh form; the later family's looks); each row that meets fmt, with fmt's text TOLD by the authors' own Lean function (tested against real Go, not proved from fmt's source: count such statements apart). THE CARD IS WHAT COUNTS. Prove the row's statement (the work); the ties are given (YtbldahkgilkclaaDoorTie.lean); close each card by the builder's one call (the guide's Derived/Test/ToyasCard.lean, 'card_holds'). Laid BY PROGRAM, IN A SANDBOX (cutbox-door.mjs). By AI agents, Wed Nov 11 2026. No macro, syntax, notation, axiom, sorry.
-/
import Derived.Test.YtbldahkgilkclaaDoorRows
import GoSem.ClaimSeven
namespace Go.Proofs.YtbldahkgilkclaaDoor
namespace Rows

/-- THE TIED CARD OF 'millpondlaw03.ReplyForms'. -/
def replyFormsCard : Claim7 := { stood := { row := replyFormsRow, standIns := [], harness := (true, "62b254fbf4209a884dbf2e2009b2c862bb6855baaa6bb7840c32f3299e270e60"), looks := true }, kinds := [], alts := [], laidByText := true, laidKinds := [.data, .data, .data, .data, .pinned], laidTests := true, laidLooks := .later }
def ReplyFormsCardSaid : Prop := Claim7.holds Tryd.pinned (.plain (OpenSpec.ofChange replyFormsSpec)) replyFormsCard

/-- THE TIED CARD OF 'millpondlaw03.ReplyBack'. -/
def replyBackCard : Claim7 := { stood := { row := replyBackRow, standIns := [], harness := (true, "62b254fbf4209a884dbf2e2009b2c862bb6855baaa6bb7840c32f3299e270e60"), looks := true }, kinds := [], alts := [], laidByText := true, laidKinds := [.data, .data, .data, .data, .pinned], laidTests := true, laidLooks := .later }
def ReplyBackCardSaid : Prop := Claim7.holds Tryd.pinned (.plain (OpenSpec.ofChange replyBackSpec)) replyBackCard

/-- THE TIED CARD OF 'millpondlaw03.ReplyPieces'. -/
def replyPiecesCard : Claim7 := { stood := { row := replyPiecesRow, standIns := [], harness := (true, "62b254fbf4209a884dbf2e2009b2c862bb6855baaa6bb7840c32f3299e270e60"), looks := true }, kinds := [], alts := [], laidByText := true, laidKinds := [.data, .data, .data, .data, .pinned], laidTests := true, laidLooks := .later }
def ReplyPiecesCardSaid : Prop := Claim7.holds Tryd.pinned (.plain (OpenSpec.ofChange replyPiecesSpec)) replyPiecesCard

/-- THE SECOND FORM's CARD OF 'millpondlaw03.ReplyForms'. -/
def replyFormsUptoCard : Claim7 := { stood := { row := replyFormsUptoRow, standIns := [], harness := (true, "62b254fbf4209a884dbf2e2009b2c862bb6855baaa6bb7840c32f3299e270e60"), looks := true }, kinds := [], alts := [], laidByText := true, laidKinds := [.data, .data, .data, .data, .pinned], laidTests := true, laidLooks := .later }
def ReplyFormsUptoCardSaid : Prop := Claim7.holds Tryd.pinned (.plain (OpenSpec.upto replyFormsSpec)) replyFormsUptoCard

/-- THE SECOND FORM's CARD OF 'millpondlaw03.ReplyBack'. -/
def replyBackUptoCard : Claim7 := { stood := { row := replyBackUptoRow, standIns := [], harness := (true, "62b254fbf4209a884dbf2e2009b2c862bb6855baaa6bb7840c32f3299e270e60"), looks := true }, kinds := [], alts := [], laidByText := true, laidKinds := [.data, .data, .data, .data, .pinned], laidTests := true, laidLooks := .later }
def ReplyBackUptoCardSaid : Prop := Claim7.holds Tryd.pinned (.plain (OpenSpec.upto replyBackSpec)) replyBackUptoCard

/-- THE SECOND FORM's CARD OF 'millpondlaw03.ReplyPieces'. -/
def replyPiecesUptoCard : Claim7 := { stood := { row := replyPiecesUptoRow, standIns := [], harness := (true, "62b254fbf4209a884dbf2e2009b2c862bb6855baaa6bb7840c32f3299e270e60"), looks := true }, kinds := [], alts := [], laidByText := true, laidKinds := [.data, .data, .data, .data, .pinned], laidTests := true, laidLooks := .later }
def ReplyPiecesUptoCardSaid : Prop := Claim7.holds Tryd.pinned (.plain (OpenSpec.upto replyPiecesSpec)) replyPiecesUptoCard
end Rows
end Go.Proofs.YtbldahkgilkclaaDoor
