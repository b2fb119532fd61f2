/-
  From a row's list of variables to the table of powers of ten; the bounds of numbers that are well formed. Conditions: the list.
-/
import Derived.Test.YtbldahkgilkclaaDoorBase
import Derived.Test.YtbldahkgilkclaaDoorNumX
namespace Go.Proofs.YtbldahkgilkclaaDoor
open Go.ChangeShapes Go.WideShapes Go.ChangeAt Go.RowKit

theorem gPowType : (Tryd.prog.globals[1]?).map (·.type) = some 102 := by kernel_rfl

theorem pows_of_list {l : List (String × DataW Unit)} {W : World} (h : laidMetH Tryd.prog l W) (hl : l.filter (fun x => x.1 == "internal/strconv.uint64pow10") = [("internal/strconv.uint64pow10", Lib.tabData .u64 Lib.pow10Tab)]) : Pows W := by
  have h1 := h.filter (fun x => x.1 == "internal/strconv.uint64pow10")
  rw [hl, MakeChecks.laidMetH_plain _ _ _ (by kernel_rfl)] at h1
  exact Lib.tabIs_of_head (rest := []) gPow gPowType Tryd.underlying102 Tryd.underlying84 (by kernel_rfl) (by kernel_rfl) h1

theorem pows_lt {W : World} (h : Pows W) : 1 < W.heap.size := by
  have := Lib.TabIs.cell h gPow 0 (by rw [Lib.pow10Tab_length]; decide)
  exact World.block_lt_of_cell? W _ this

theorem i64_wf {n : Int} (h : (Lit.int .i64 n).wf = true) : -9223372036854775808 ≤ n ∧ n ≤ 9223372036854775807 := by
  simp only [Lit.wf, IntKind.min, IntKind.max, IntKind.signed, IntKind.bits, Bool.and_eq_true, decide_eq_true_eq, if_true] at h
  omega

theorem wf_range {zs : List Int} (h : ∀ n ∈ zs, (Lit.int .i64 n).wf = true) : ∀ j, -9223372036854775808 ≤ zs.getD j 0 ∧ zs.getD j 0 ≤ 9223372036854775807 := by
  intro j
  by_cases hj : j < zs.length
  · rw [List.getD_eq_getElem?_getD, List.getElem?_eq_getElem hj, Option.getD_some]
    exact i64_wf (h _ (List.getElem_mem hj))
  · rw [List.getD_eq_getElem?_getD, List.getElem?_eq_none (by omega), Option.getD_none]; omega

theorem no_standIn {P : Program} {ts : Array TypeId} (h : ts.all (fun t => !P.wantsStandIn t) = true) (j : Nat) (t : TypeId) (ht : ts[j]? = some t) : P.wantsStandIn t = false := by
  rw [Array.all_eq_true_iff_forall_mem] at h
  have := h t (Array.mem_of_getElem? ht)
  simpa using this

end Go.Proofs.YtbldahkgilkclaaDoor
