/-
  The statements' row of four (awake). No condition.
-/
import Derived.Test.YtkjcoengijedeabGQmI
import Derived.Test.YtkjcoengijedeabDqQ
namespace Go.Proofs.Ytkjcoengijedeab
open Go.RowKit

set_option maxRecDepth 100000 in
set_option maxHeartbeats 8000000 in
theorem awake_any (w : World) : Calls Try.prog 8 #[] w fun e w' => e = .returned (.bool true) ∧ Below w.heap.size w w' := by
  obtain ⟨w0, hw0⟩ : ∃ w0, w.alloc (.cells #[.int .i64 1, .int .i64 2] 3) = w0 := ⟨_, rfl⟩
  have HB0 : Hid (Below w.heap.size w w0) := by unfold Hid; rw [← hw0]; exact (Below.refl _ _).alloc (Nat.le_refl _) _
  have HSL : Hid (SlAt w0 (some ⟨w.heap.size, 0, none⟩) 2 2 (([1, 2] : List Int).map (Value.int .i64))) := by
    refine ⟨rfl, Nat.le_refl 2, by omega, (fun e => by cases e), fun _ => ⟨w.heap.size, 0, rfl, by rw [← hw0]; simp, fun j u hu => ?_⟩⟩
    have q : w0.heap[w.heap.size]? = some (.cells #[.int .i64 1, .int .i64 2] 3 (0, 0)) := by rw [← hw0]; exact heap_alloc_new w _
    rcases (by have := (List.getElem?_eq_some_iff.1 hu).1; simp at this; omega : j = 0 ∨ j = 1) with rfl | rfl
    · simp at hu; subst hu; simp [World.cell?, q]
    · simp at hu; subst hu; simp [World.cell?, q]
  have HOF := Lib.hid (ofI_any w0 HSL.out (by omega))
  have HW0 := Lib.hid hw0
  clear hw0
  go_enter Try.func8, Try.ntmps8
  go_wp2_with fail
  rw [HW0.out]
  refine HOF.out.mono ?_
  rintro e w1 ⟨D, F, rfl, hd, hb⟩
  have HD1 := Lib.hid (hd.more (show ([1, 2] : List Int).length ≤ 1000 by decide))
  have HB1 := Lib.hid (HB0.out.trans (hb.mono HB0.out.size))
  have HS0 := Lib.hid HB0.out.size
  clear hd hb
  go_wp2_with fail
  refine (unshiftI_any w1 HD1.out 0 (by omega) (by decide)).mono ?_
  rintro e w2 ⟨rfl, F2, hd2, hc2⟩
  have HD2 : Hid (DqOn KDI w2 w0.heap.size F2 D 1000 [0, 1, 2]) := hd2
  have HB2 := Lib.hid (HB1.out.trans (hc2.below HB1.out.size (fun k hk => Nat.le_trans HS0.out (HD1.out.1 k hk).1)))
  clear hd2 hc2
  go_wp2_with fail
  refine (insI_yes (i := 1) w2 HD2.out 9 (by omega) (by decide) (by decide)).mono ?_
  rintro e w3 ⟨rfl, F3, hd3, hc3⟩
  have HD3 : Hid (DqOn KDI w3 w0.heap.size F3 D 1000 [0, 9, 1, 2]) := hd3
  have HB3 := Lib.hid (HB2.out.trans (hc3.below HB2.out.size (fun k hk => Nat.le_trans HS0.out (HD2.out.1 k hk).1)))
  clear hd3 hc3
  go_wp2_with fail
  refine (listI_any w3 HD3.out (by omega) (by decide)).mono ?_
  rintro e w4 ⟨v, rfl, hrow, hb4⟩
  have HROW := Lib.hid hrow
  have HLN : Hid (Calls Try.prog 17 #[.pointer (some ⟨D, 0, none⟩)] w4 fun e w' => e = .returned (.int .i64 4) ∧ w' = w4) := lenI_any w4 (HD3.out.below hb4)
  have HB4 := Lib.hid (HB3.out.trans (hb4.mono HB3.out.size))
  obtain ⟨A, c, rfl⟩ := own_form1 hrow
  obtain ⟨b, o, u, rfl, _, hu, hcell⟩ := (SlAt.own hrow).cell (j := 1) (by decide)
  simp at hu
  subst hu
  clear hrow hb4
  go_wp2_with fail
  refine HLN.out.mono ?_
  rintro e w5 ⟨rfl, rfl⟩
  go_wp2
  go_ret
  exact ⟨rfl, HB4.out⟩

end Go.Proofs.Ytkjcoengijedeab
