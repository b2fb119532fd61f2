/-
  The document's own Ahead where it holds; where a member is found. Conditions: as typed.
-/
import Derived.Test.YtcbiiioglklpoaaDoorSkV7
import Derived.Sort.Walk0
namespace Go.Proofs.YtcbiiioglklpoaaDoor
open Go.RowKit

theorem fnd_self {L : List Mb} (h : Ord L) {i : Nat} {x : Mb} (hx : L[i]? = some x) : fndM L x.1 = some i := by
  cases hf : fndM L x.1 with
  | none => exact absurd (List.mem_map.2 ⟨x, List.mem_of_getElem? hx, rfl⟩) (fndM_none.1 hf)
  | some j =>
    obtain ⟨n, hj, hlt⟩ := fndM_some hf
    have hi := (List.getElem?_eq_some_iff.1 hx).1
    rcases Nat.lt_trichotomy i j with q | q | q
    · exact absurd rfl (fndM_first hf q hx)
    · rw [q]
    · have hp := List.pairwise_iff_getElem.1 h.2 j i (by rw [List.length_map]; exact hlt) (by rw [List.length_map]; exact hi) q
      have e1 := (List.getElem?_eq_some_iff.1 hx).2
      have e2 := (List.getElem?_eq_some_iff.1 hj).2
      rw [List.getElem_map, List.getElem_map, e1, e2] at hp
      exact absurd rfl hp

set_option maxRecDepth 100000 in
set_option maxHeartbeats 8000000 in
theorem rahead_yes (a b : Mb) (hab : ahd a b = true) (w : World) : Calls Tryd.prog 35 #[mbV a, mbV b] w fun e w' => e = .returned (.bool true) ∧ Below w.heap.size w w' := by
  rw [ahd_iff] at hab
  unfold mbV
  have hb2 : Below w.heap.size w ((w.alloc (.cells #[.string ⟨a.1.toArray⟩, .int .i64 a.2] 47)).alloc (.cells #[.string ⟨b.1.toArray⟩, .int .i64 b.2] 47)) := ((Below.refl _ _).alloc (Nat.le_refl _) _).alloc (by simp) _
  have HB := Lib.hid hb2
  clear hb2
  by_cases hlt : a.2 < b.2
  · clear hab
    go_enter Tryd.func35, Tryd.ntmps35
    go_wp2
    go_ret
    exact ⟨rfl, HB.out⟩
  · obtain ⟨he, hs⟩ : a.2 = b.2 ∧ a.1 < b.1 := by rcases hab with q | q; exact absurd q hlt; exact q
    have HS : Hid (Op.bytesLess a.1 b.1 = true) := by unfold Hid; rw [bytesLess_eq]; exact decide_eq_true hs
    clear hab hs
    go_enter Tryd.func35, Tryd.ntmps35
    go_wp2
    go_ret
    rw [he] at HB
    exact ⟨by rw [HS.out]; rfl, HB.out⟩

end Go.Proofs.YtcbiiioglklpoaaDoor
