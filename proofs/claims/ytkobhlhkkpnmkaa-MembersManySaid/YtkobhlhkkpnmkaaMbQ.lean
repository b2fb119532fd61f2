/-
  What every statement of this seat asks besides: a set of three. No condition.
-/
import Derived.Test.YtkobhlhkkpnmkaaMbJ
import Derived.Test.YtkobhlhkkpnmkaaMbK
namespace Go.Proofs.Ytkobhlhkkpnmkaa
open Go.RowKit

theorem tx_lit3 (w : World) (a b c : Tx) (g : Nat) (hg : g = w.heap.size) (ha : a.length ≤ 1000) (hb : b.length ≤ 1000) (hc : c.length ≤ 1000) : TxAt (w.alloc (.cells #[.string ⟨a.toArray⟩, .string ⟨b.toArray⟩, .string ⟨c.toArray⟩] 9)) (some ⟨g, 0, none⟩) 3 3 [a, b, c] := by
  subst hg
  have r := World.rowIs_alloc w #[.string ⟨a.toArray⟩, .string ⟨b.toArray⟩, .string ⟨c.toArray⟩] 9 (fun i => if i = 0 then .string ⟨a.toArray⟩ else if i = 1 then .string ⟨b.toArray⟩ else .string ⟨c.toArray⟩) (fun i hi => by
    have hi : i < 3 := hi
    rcases (by omega : i = 0 ∨ i = 1 ∨ i = 2) with rfl | rfl | rfl <;> rfl)
  refine TxAt.row r rfl (Nat.le_refl _) (Nat.le_refl _) (by omega) (fun x hx => ?_) (fun j x hx => ?_)
  · simp only [List.mem_cons, List.not_mem_nil, or_false] at hx
    rcases hx with rfl | rfl | rfl <;> omega
  · rcases j with _ | _ | _ | j
    · simp at hx; subst hx; rfl
    · simp at hx; subst hx; rfl
    · simp at hx; subst hx; rfl
    · simp at hx

theorem aw1 : ofX [] [[98], [97], [98]] = ([[97], [98]] : List Tx) := by decide +kernel
theorem aw2 : addX [[97], [98]] [[98], [99], [99]] = ([[97], [98], [99]] : List Tx) := by decide +kernel
theorem aw3 : addN [[97], [98]] [[98], [99], [99]] = 1 := by decide +kernel
theorem aw4 : ckX [[97], [98]] = 0 := by decide +kernel
theorem aw5 : smX [[97], [98], [99]] 2 5 = ([[99], [98]] : List Tx) := by decide +kernel
theorem aw6 : smE [[97], [98], [99]] 2 = 0 := by decide +kernel

set_option maxRecDepth 100000 in
set_option maxHeartbeats 16000000 in
theorem awake_any (w : World) : Calls Try.prog 18 #[] w fun e w' => e = .returned (.bool true) ∧ Below w.heap.size w w' := by
  obtain ⟨M, hM⟩ : ∃ M, w.heap.size = M := ⟨_, rfl⟩
  have HM := Lib.hid hM
  have H1 := Lib.hid (tx_lit3 w [98] [97] [98] M hM.symm (by decide) (by decide) (by decide))
  have HB0 : Hid (Below M w (w.alloc (.cells #[.string ⟨#[98]⟩, .string ⟨#[97]⟩, .string ⟨#[98]⟩] 9))) := by unfold Hid; rw [← hM]; exact (Below.refl _ _).alloc (Nat.le_refl _) _
  have H1' : Hid (TxAt (w.alloc (.cells #[.string ⟨#[98]⟩, .string ⟨#[97]⟩, .string ⟨#[98]⟩] 9)) (some ⟨M, 0, none⟩) 3 3 [[98], [97], [98]]) := H1.out
  rw [hM]
  clear H1
  go_enter Try.func18, Try.ntmps18
  go_wp2_with fail
  refine (of_any _ H1'.out (by omega)).mono ?_
  rw [aw1]
  rintro e w2 ⟨A2, c2, rfl, h2, hb2, _⟩
  have hq2 : Below M w w2 := HB0.out.trans (hb2.mono (by have := HB0.out.size; omega))
  have hm2 : M ≤ w2.heap.size := by have := hq2.size; omega
  obtain ⟨w3, hw3⟩ : ∃ w3, w2.alloc (.cells #[.string ⟨#[98]⟩, .string ⟨#[99]⟩, .string ⟨#[99]⟩] 9) = w3 := ⟨_, rfl⟩
  have h3 : TxAt w3 (some ⟨w2.heap.size, 0, none⟩) 3 3 [[98], [99], [99]] := by rw [← hw3]; exact tx_lit3 w2 [98] [99] [99] w2.heap.size rfl (by decide) (by decide) (by decide)
  have hb3 : Below w2.heap.size w2 w3 := by rw [← hw3]; exact (Below.refl _ _).alloc (Nat.le_refl _) _
  have HW3 := Lib.hid hw3
  have H3 := Lib.hid h3
  have H2 : Hid (TxAt w3 A2 2 c2 [[97], [98]]) := h2.below hb3
  have HB3 : Hid (Below M w w3) := hq2.trans (hb3.mono hm2)
  clear hM h2 hb2 hq2 hm2 hw3 h3 hb3
  go_wp2_with fail
  rw [HW3.out]
  refine (add_any w3 H2.out H3.out (by omega) (by omega)).mono ?_
  rw [aw2, aw3, aw4]
  rintro e w4 ⟨A4, k4, c4, rfl, h4, hb4, _⟩
  have HK4 := Lib.hid h4.len
  obtain rfl : k4 = 3 := HK4.out.symm
  have H4 := Lib.hid h4
  have HB4 : Hid (Below M w w4) := HB3.out.trans (hb4.mono (by have := HB3.out.size; have := HM.out; omega))
  clear h4 hb4
  go_wp2_with fail
  refine (some_any w4 H4.out (by omega) 2 (d := 5) (by omega)).mono ?_
  rw [aw5, aw6]
  rintro e w5 ⟨A5, k5, c5, rfl, h5, hb5, _⟩
  have HK5 := Lib.hid h5.len
  obtain rfl : k5 = 2 := HK5.out.symm
  have HB5 : Hid (Below M w w5) := HB4.out.trans (hb5.mono (by have := HB4.out.size; have := HM.out; omega))
  obtain ⟨b1, o1, rfl, _, hc1⟩ := (H4.out.below hb5).at_ (by omega)
  obtain ⟨b2, o2, rfl, _, hc2⟩ := h5.at_ (by omega)
  have d1 : w5.cell? ⟨b1, o1 + 2, none⟩ = some (.string ⟨#[99]⟩) := hc1 2 _ rfl
  have d2 : w5.cell? ⟨b2, o2, none⟩ = some (.string ⟨#[99]⟩) := hc2 0 _ rfl
  clear h5 hb5 hc1 hc2
  go_wp2
  go_ret
  exact ⟨rfl, HB5.out⟩

end Go.Proofs.Ytkobhlhkkpnmkaa
