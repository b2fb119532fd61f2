/-
  What the rows of this seat hand on: the table of trailing zeros as the program's own text lays it, bounds by value, numbers that are well formed. Conditions: as typed.
-/
import Derived.Test.YtcbiiioglklpoaaDoorBase
import Derived.Test.YtcbiiioglklpoaaDoorSkH
import Derived.Test.YtcbiiioglklpoaaDoorSkO
import Derived.Lib.SmallJoins
import Derived.ChangeArms
namespace Go.Proofs.YtcbiiioglklpoaaDoor
open Go.ChangeShapes Go.WideShapes Go.ChangeAt Go.RowKit

theorem gTz : Tryd.prog.globalNamed "math/bits.deBruijn64tab" = some 0 := by kernel_rfl
theorem gTzType : (Tryd.prog.globals[0]?).map (·.type) = some 116 := by kernel_rfl

theorem tz_of_list {l : List (String × DataW Unit)} {W : World} (h : laidMetH Tryd.prog l W) (hl : l = [("math/bits.deBruijn64tab", Lib.tabData .u8 (Lib.deBruijn64tab.map Int.ofNat))]) : Tz W ∧ 0 < W.heap.size := by
  subst hl
  rw [MakeChecks.laidMetH_plain _ _ _ (by kernel_rfl)] at h
  have hT := Lib.tabIs_of_head (rest := []) gTz gTzType Tryd.underlying116 Tryd.underlying5 (by kernel_rfl) (by kernel_rfl) h
  have hlen : (Lib.deBruijn64tab.map Int.ofNat).length = 64 := by decide
  have hl64 : Lib.deBruijn64tab.length = 64 := by decide
  refine ⟨fun j hj => ?_, ?_⟩
  · rw [Lib.TabIs.cell hT gTz j (by rw [hlen, ← hl64]; exact hj)]
    congr 2
    rw [List.getD_eq_getElem?_getD, List.getD_eq_getElem?_getD, List.getElem?_map, List.getElem?_eq_getElem hj]
    rfl
  · exact World.block_lt_of_cell? W _ (Lib.TabIs.cell hT gTz 0 (by rw [hlen]; decide))

theorem i64_wf {n : Int} (h : (Lit.int .i64 n).wf = true) : -9223372036854775808 ≤ n ∧ n ≤ 9223372036854775807 := by
  simp only [Lit.wf, IntKind.min, IntKind.max, IntKind.signed, IntKind.bits, Bool.and_eq_true, decide_eq_true_eq, if_true] at h
  omega

theorem u64_wf {n : Int} (h : (Lit.int .u64 n).wf = true) : 0 ≤ n ∧ n ≤ 18446744073709551615 := by
  simp only [Lit.wf, IntKind.min, IntKind.max, IntKind.signed, IntKind.bits, Bool.and_eq_true] at h
  simpa using h

theorem u64_open {n : Int} (h : (Lit.int .u64 n).wf = true) : ∃ m : Nat, n = (m : Int) ∧ m < 18446744073709551616 := by
  obtain ⟨a, b⟩ := u64_wf h
  exact ⟨n.toNat, by omega, by omega⟩

theorem no_standIn {P : Program} {ts : Array TypeId} (h : ts.all (fun t => !P.wantsStandIn t) = true) (j : Nat) (t : TypeId) (ht : ts[j]? = some t) : P.wantsStandIn t = false := by
  rw [Array.all_eq_true_iff_forall_mem] at h
  have := h t (Array.mem_of_getElem? ht)
  simpa using this

set_option maxRecDepth 100000 in
/-- A bound by value. -/
theorem open_bound {H : Type} {enc : TypeId × Value → H} {W : World} {base : Nat} {sp : Nat → Bool} {held : Bool} {r : Reach} {b0 : Nat} {v : Value} {d : DataW H} {p : List MemPlace} (hv : Value.okWide Tryd.prog W r b0 23 v) (h : DataW.Trod enc Tryd.prog W base sp held 23 v d p) :
    ∃ b : Bd, v = bdV b ∧ p = [] := by
  obtain ⟨v0, v1, v2, y0, y1, y2, n, rfl, rfl, rfl, h0, h1, h2⟩ := Go.Joins.open_agg3 Tryd.underlying23 (by kernel_rfl) (by kernel_rfl) hv h
  obtain ⟨a, ha, rfl, _⟩ := DataW.trod_int Tryd.underlying2 h0
  obtain ⟨o, ho, rfl⟩ := DataW.trod_bool Tryd.underlying4 h1
  obtain ⟨i, hi, rfl, _⟩ := DataW.trod_int Tryd.underlying3 h2
  injection ha with ha _
  injection ho with ho _
  injection hi with hi _
  subst ha ho hi
  exact ⟨⟨a, o, i⟩, rfl, rfl⟩

end Go.Proofs.YtcbiiioglklpoaaDoor
