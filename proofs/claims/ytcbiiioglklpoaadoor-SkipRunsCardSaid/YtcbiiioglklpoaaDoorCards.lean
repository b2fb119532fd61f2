/-
  DERIVED. GIVEN WITH THE SEED: THE CARDS: each row of YtcbiiioglklpoaaDoorRows.lean that lists a variable, with what it lists TIED to the program's text (the seventh form; the later family's looks); each row that meets fmt, with fmt's text TOLD by the authors' own Lean function (tested against real Go, not proved from fmt's source: count such statements apart). THE CARD IS WHAT COUNTS. Prove the row's statement (the work); the ties are given (YtcbiiioglklpoaaDoorTie.lean); close each card by the builder's one call (the guide's Derived/Test/ToyasCard.lean, 'card_holds'). Laid BY PROGRAM, IN A SANDBOX (cutbox-door.mjs). By AI agents, Wed Nov 11 2026. No macro, syntax, notation, axiom, sorry.
-/
import Derived.Test.YtcbiiioglklpoaaDoorRows
import GoSem.ClaimSeven
namespace Go.Proofs.YtcbiiioglklpoaaDoor
namespace Rows

/-- THE TIED CARD OF 'millpondlaw07.SkipBounds'. -/
def skipBoundsCard : Claim7 := { stood := { row := skipBoundsRow, standIns := [], harness := (true, "0156a61630be2dc7c41163ecaaec5efbde498061c062cabe5b1dc0ad10988140"), looks := false }, kinds := [], alts := [], laidByText := true, laidKinds := [.data], laidTests := true, laidLooks := .later }
def SkipBoundsCardSaid : Prop := Claim7.holds Tryd.pinned (.plain (OpenSpec.ofChange skipBoundsSpec)) skipBoundsCard

/-- THE TIED CARD OF 'millpondlaw07.SkipRuns'. -/
def skipRunsCard : Claim7 := { stood := { row := skipRunsRow, standIns := [], harness := (true, "0156a61630be2dc7c41163ecaaec5efbde498061c062cabe5b1dc0ad10988140"), looks := false }, kinds := [], alts := [], laidByText := true, laidKinds := [.data], laidTests := true, laidLooks := .later }
def SkipRunsCardSaid : Prop := Claim7.holds Tryd.pinned (.plain (OpenSpec.ofChange skipRunsSpec)) skipRunsCard

/-- THE TIED CARD OF 'millpondlaw07.SkipRanges'. -/
def skipRangesCard : Claim7 := { stood := { row := skipRangesRow, standIns := [], harness := (true, "0156a61630be2dc7c41163ecaaec5efbde498061c062cabe5b1dc0ad10988140"), looks := false }, kinds := [], alts := [], laidByText := true, laidKinds := [.data], laidTests := true, laidLooks := .later }
def SkipRangesCardSaid : Prop := Claim7.holds Tryd.pinned (.plain (OpenSpec.ofChange skipRangesSpec)) skipRangesCard

/-- THE TIED CARD OF 'millpondlaw07.SkipOrder'. -/
def skipOrderCard : Claim7 := { stood := { row := skipOrderRow, standIns := [], harness := (true, "0156a61630be2dc7c41163ecaaec5efbde498061c062cabe5b1dc0ad10988140"), looks := false }, kinds := [], alts := [], laidByText := true, laidKinds := [.data], laidTests := true, laidLooks := .later }
def SkipOrderCardSaid : Prop := Claim7.holds Tryd.pinned (.plain (OpenSpec.ofChange skipOrderSpec)) skipOrderCard

/-- THE TIED CARD OF 'millpondlaw07.SkipNobody'. -/
def skipNobodyCard : Claim7 := { stood := { row := skipNobodyRow, standIns := [], harness := (true, "0156a61630be2dc7c41163ecaaec5efbde498061c062cabe5b1dc0ad10988140"), looks := false }, kinds := [], alts := [], laidByText := true, laidKinds := [.data], laidTests := true, laidLooks := .later }
def SkipNobodyCardSaid : Prop := Claim7.holds Tryd.pinned (.plain (OpenSpec.ofChange skipNobodySpec)) skipNobodyCard

/-- THE SECOND FORM's CARD OF 'millpondlaw07.SkipBounds'. -/
def skipBoundsUptoCard : Claim7 := { stood := { row := skipBoundsUptoRow, standIns := [], harness := (true, "0156a61630be2dc7c41163ecaaec5efbde498061c062cabe5b1dc0ad10988140"), looks := false }, kinds := [], alts := [], laidByText := true, laidKinds := [.data], laidTests := true, laidLooks := .later }
def SkipBoundsUptoCardSaid : Prop := Claim7.holds Tryd.pinned (.plain (OpenSpec.upto skipBoundsSpec)) skipBoundsUptoCard

/-- THE SECOND FORM's CARD OF 'millpondlaw07.SkipRuns'. -/
def skipRunsUptoCard : Claim7 := { stood := { row := skipRunsUptoRow, standIns := [], harness := (true, "0156a61630be2dc7c41163ecaaec5efbde498061c062cabe5b1dc0ad10988140"), looks := false }, kinds := [], alts := [], laidByText := true, laidKinds := [.data], laidTests := true, laidLooks := .later }
def SkipRunsUptoCardSaid : Prop := Claim7.holds Tryd.pinned (.plain (OpenSpec.upto skipRunsSpec)) skipRunsUptoCard

/-- THE SECOND FORM's CARD OF 'millpondlaw07.SkipRanges'. -/
def skipRangesUptoCard : Claim7 := { stood := { row := skipRangesUptoRow, standIns := [], harness := (true, "0156a61630be2dc7c41163ecaaec5efbde498061c062cabe5b1dc0ad10988140"), looks := false }, kinds := [], alts := [], laidByText := true, laidKinds := [.data], laidTests := true, laidLooks := .later }
def SkipRangesUptoCardSaid : Prop := Claim7.holds Tryd.pinned (.plain (OpenSpec.upto skipRangesSpec)) skipRangesUptoCard

/-- THE SECOND FORM's CARD OF 'millpondlaw07.SkipOrder'. -/
def skipOrderUptoCard : Claim7 := { stood := { row := skipOrderUptoRow, standIns := [], harness := (true, "0156a61630be2dc7c41163ecaaec5efbde498061c062cabe5b1dc0ad10988140"), looks := false }, kinds := [], alts := [], laidByText := true, laidKinds := [.data], laidTests := true, laidLooks := .later }
def SkipOrderUptoCardSaid : Prop := Claim7.holds Tryd.pinned (.plain (OpenSpec.upto skipOrderSpec)) skipOrderUptoCard

/-- THE SECOND FORM's CARD OF 'millpondlaw07.SkipNobody'. -/
def skipNobodyUptoCard : Claim7 := { stood := { row := skipNobodyUptoRow, standIns := [], harness := (true, "0156a61630be2dc7c41163ecaaec5efbde498061c062cabe5b1dc0ad10988140"), looks := false }, kinds := [], alts := [], laidByText := true, laidKinds := [.data], laidTests := true, laidLooks := .later }
def SkipNobodyUptoCardSaid : Prop := Claim7.holds Tryd.pinned (.plain (OpenSpec.upto skipNobodySpec)) skipNobodyUptoCard
end Rows
end Go.Proofs.YtcbiiioglklpoaaDoor
