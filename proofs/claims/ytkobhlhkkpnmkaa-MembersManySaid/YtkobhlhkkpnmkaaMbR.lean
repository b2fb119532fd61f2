/-
  MembersMakes, MembersChanges walked. Conditions: the arguments lie in memory.
-/
import Derived.Test.YtkobhlhkkpnmkaaMbQ
import Derived.Test.YtkobhlhkkpnmkaaMbH
namespace Go.Proofs.Ytkobhlhkkpnmkaa
open Go.RowKit

theorem few_tx {w : World} {A : Option Addr} {n c : Nat} {L : List Tx} (h : TxAt w A n c L) : ∃ p LL, min n 200 = p ∧ p ≤ 200 ∧ TxAt w A p c LL := ⟨min n 200, L.take (min n 200), rfl, Nat.min_le_right _ _, h.first (Nat.min_le_left _ _)⟩

set_option maxRecDepth 100000 in
set_option maxHeartbeats 16000000 in
theorem makes_any {A B : Option Addr} {n m cp cq : Nat} {L K : List Tx} (w : World) (h1 : TxAt w A n cp L) (h2 : TxAt w B m cq K) (x : Tx) :
    Calls Try.prog 3 #[.slice A n cp, .slice B m cq, .string ⟨x.toArray⟩] w fun e w' => e = .returned (.bool true) ∧ Below w.heap.size w w' := by
  have HF1 := Lib.hid (few_any w h1)
  have HF2 := Lib.hid (few_any w h2)
  obtain ⟨p, LL, hp, hp2, t1⟩ := few_tx h1
  obtain ⟨q, KK, hq, hq2, t2⟩ := few_tx h2
  rw [hp] at HF1
  rw [hq] at HF2
  have T1 := Lib.hid t1
  have T2 := Lib.hid t2
  have HHA := Lib.hid (has_any w t2 (by omega) x)
  have HHB : Hid (∀ X, Below w.heap.size w X → Calls Try.prog 12 #[.slice B q cq, .string ⟨x.toArray⟩] X fun e w' => e = .returned (.tuple #[.bool (if Ris KK then decide (x ∈ KK) else false), .int .i64 (ckX KK)]) ∧ Below X.heap.size X w') := fun X hX => rhas_any X (T2.out.below hX) (by omega) x
  obtain ⟨bb, hbb⟩ : ∃ bb, (if Ris KK then decide (x ∈ KK) else false) = bb := ⟨_, rfl⟩
  rw [hbb] at HHA HHB
  obtain ⟨X, hX⟩ : ∃ X : ByteArray, (⟨x.toArray⟩ : ByteArray) = X := ⟨_, rfl⟩
  rw [hX] at HHA HHB ⊢
  obtain ⟨C, hC⟩ : ∃ C, ckX KK = C := ⟨_, rfl⟩
  have HC := Lib.hid hC
  rw [hC] at HHA HHB
  obtain ⟨M, hM⟩ : ∃ M, w.heap.size = M := ⟨_, rfl⟩
  have HM := Lib.hid hM
  rw [hM] at HHA HHB ⊢
  clear h1 h2 hp hq t1 t2 hbb hX hC hM
  go_enter Try.func3, Try.ntmps3
  go_wp2_with fail
  refine HF1.out.mono ?_
  rintro e w1 ⟨rfl, hw1⟩
  rw [hw1]
  clear hw1
  go_wp2_with fail
  refine HF2.out.mono ?_
  rintro e w1 ⟨rfl, hw1⟩
  rw [hw1]
  clear hw1
  go_wp2_with fail
  refine HHA.out.mono ?_
  rintro e w1 ⟨rfl, hb1⟩
  have HB1 := Lib.hid hb1
  clear hb1
  go_wp2_with fail
  refine (HHB.out w1 HB1.out).mono ?_
  rintro e w2 ⟨rfl, hb2⟩
  have HB2 : Hid (Below M w w2) := HB1.out.trans (hb2.mono (by have := HB1.out.size; have := HM.out; omega))
  clear hb2
  go_wp2_with fail
  refine (of_any w2 (T1.out.below (by rw [HM.out]; exact HB2.out)) (by omega)).mono ?_
  rintro e w3 ⟨A3, c3, rfl, h3, hb3, _⟩
  have H3 := Lib.hid h3
  have HB3 : Hid (Below M w w3) := HB2.out.trans (hb3.mono (by have := HB2.out.size; have := HM.out; omega))
  have hol := ofX_length [] LL
  rw [T1.out.len, List.length_nil] at hol
  obtain ⟨k3, hk3⟩ : ∃ k3, (ofX [] LL).length = k3 := ⟨_, rfl⟩
  rw [hk3] at H3 hol ⊢
  have HOL := Lib.hid hol
  clear h3 hb3 hk3 hol
  go_wp2_with fail
  refine (rof_any w3 (T1.out.below (by rw [HM.out]; exact HB3.out)) (by omega)).mono ?_
  rintro e w4 ⟨A4, k4, c4, rfl, h4, hb4⟩
  obtain rfl : k3 = k4 := H3.out.len.symm.trans h4.len
  have H4 := Lib.hid h4
  have H34 := Lib.hid (H3.out.below hb4)
  have HB4 : Hid (Below M w w4) := HB3.out.trans (hb4.mono (by have := HB3.out.size; have := HM.out; omega))
  clear h4 hb4
  go_wp2_with fail
  refine (rsame_yes w4 H34.out H4.out (by have := HOL.out; omega)).mono ?_
  rintro e w5 ⟨rfl, hb5⟩
  have HB5 : Hid (Below M w w5) := HB4.out.trans (hb5.mono (by have := HB4.out.size; have := HM.out; omega))
  clear hb5
  go_wp2_with fail
  refine (check_any w5 (T2.out.below (by rw [HM.out]; exact HB5.out)) (by omega)).mono ?_
  rw [HC.out]
  rintro e w6 ⟨rfl, hb6⟩
  have HB6 : Hid (Below M w w6) := HB5.out.trans (hb6.mono (by have := HB5.out.size; have := HM.out; omega))
  clear hb6
  go_wp2_with fail
  refine (rcheck_any w6 (T2.out.below (by rw [HM.out]; exact HB6.out)) (by omega)).mono ?_
  rw [HC.out]
  rintro e w7 ⟨rfl, hb7⟩
  have HB7 : Hid (Below M w w7) := HB6.out.trans (hb7.mono (by have := HB6.out.size; have := HM.out; omega))
  clear hb7
  go_wp2_with fail
  refine (awake_any w7).mono ?_
  rintro e w8 ⟨rfl, hb8⟩
  have HB8 : Hid (Below M w w8) := HB7.out.trans (hb8.mono (by have := HB7.out.size; have := HM.out; omega))
  clear hb8
  go_wp2
  go_ret
  exact ⟨rfl, HB8.out⟩

theorem makesB_any {A B : Option Addr} {n m cp cq : Nat} {L K : List Tx} (w : World) (h1 : TxAt w A n cp L) (h2 : TxAt w B m cq K) (X : ByteArray) :
    Calls Try.prog 3 #[.slice A n cp, .slice B m cq, .string X] w fun e w' => e = .returned (.bool true) ∧ Below w.heap.size w w' := by
  have q := makes_any w h1 h2 X.data.toList
  rw [show (⟨X.data.toList.toArray⟩ : ByteArray) = X from by apply ByteArray.ext; simp] at q
  exact q

set_option maxRecDepth 100000 in
set_option maxHeartbeats 16000000 in
theorem changes_any {A B : Option Addr} {n m cp cq : Nat} {L K : List Tx} (w : World) (h1 : TxAt w A n cp L) (h2 : TxAt w B m cq K) :
    Calls Try.prog 4 #[.slice A n cp, .slice B m cq] w fun e w' => e = .returned (.bool true) ∧ Below w.heap.size w w' := by
  have HF1 := Lib.hid (few_any w h1)
  have HF2 := Lib.hid (few_any w h2)
  obtain ⟨p, LL, hp, hp2, t1⟩ := few_tx h1
  obtain ⟨q, KK, hq, hq2, t2⟩ := few_tx h2
  rw [hp] at HF1
  rw [hq] at HF2
  have T1 := Lib.hid t1
  have T2 := Lib.hid t2
  obtain ⟨M, hM⟩ : ∃ M, w.heap.size = M := ⟨_, rfl⟩
  have HM := Lib.hid hM
  rw [hM]
  obtain ⟨Z1, hZ1⟩ : ∃ Z, addN LL KK = Z := ⟨_, rfl⟩
  obtain ⟨Z2, hZ2⟩ : ∃ Z, delN LL KK = Z := ⟨_, rfl⟩
  obtain ⟨C, hC⟩ : ∃ C, ckX LL = C := ⟨_, rfl⟩
  have HA1 : Hid (∀ X, Below M w X → Calls Try.prog 19 #[.slice A p cp, .slice B q cq] X fun e w' => ∃ A' k c', e = .returned (.tuple #[.slice A' k c', .int .i64 Z1, .int .i64 C]) ∧ TxAt w' A' k c' (addX LL KK) ∧ Below X.heap.size X w' ∧ Frh X.heap.size A') := fun X hX => by rw [← hZ1, ← hC]; rw [← hM] at hX; exact add_any X (t1.below hX) (t2.below hX) (by omega) (by omega)
  have HA2 : Hid (∀ X, Below M w X → Calls Try.prog 20 #[.slice A p cp, .slice B q cq] X fun e w' => ∃ A' k c', e = .returned (.tuple #[.slice A' k c', .int .i64 Z1, .int .i64 C]) ∧ TxAt w' A' k c' (addX LL KK) ∧ Below X.heap.size X w') := fun X hX => by rw [← hZ1, ← hC]; rw [← hM] at hX; exact radd_any X (t1.below hX) (t2.below hX) (by omega) (by omega)
  have HD1 : Hid (∀ X, Below M w X → Calls Try.prog 21 #[.slice A p cp, .slice B q cq] X fun e w' => ∃ A' k c', e = .returned (.tuple #[.slice A' k c', .int .i64 Z2, .int .i64 C]) ∧ TxAt w' A' k c' (delX LL KK) ∧ Below X.heap.size X w' ∧ Frh X.heap.size A') := fun X hX => by rw [← hZ2, ← hC]; rw [← hM] at hX; exact del_any X (t1.below hX) (t2.below hX) (by omega) (by omega)
  have HD2 : Hid (∀ X, Below M w X → Calls Try.prog 22 #[.slice A p cp, .slice B q cq] X fun e w' => ∃ A' k c', e = .returned (.tuple #[.slice A' k c', .int .i64 Z2, .int .i64 C]) ∧ TxAt w' A' k c' (delX LL KK) ∧ Below X.heap.size X w') := fun X hX => by rw [← hZ2, ← hC]; rw [← hM] at hX; exact rdel_any X (t1.below hX) (t2.below hX) (by omega) (by omega)
  have hal : (addX LL KK).length ≤ 4000000 := by
    unfold addX
    split
    · have := ofX_length LL KK; have := t1.len; have := t2.len; omega
    · simp
  have hdl : (delX LL KK).length ≤ 4000000 := by
    unfold delX
    split
    · have := List.length_filter_le (fun x => decide (x ∉ KK)) LL; have := t1.len; omega
    · simp
  have HAL := Lib.hid hal
  have HDL := Lib.hid hdl
  obtain ⟨OA, hOA⟩ : ∃ O, addX LL KK = O := ⟨_, rfl⟩
  obtain ⟨OD, hOD⟩ : ∃ O, delX LL KK = O := ⟨_, rfl⟩
  rw [hOA] at HA1 HA2 HAL
  rw [hOD] at HD1 HD2 HDL
  clear h1 h2 hp hq t1 t2 hM hZ1 hZ2 hC hal hdl hOA hOD
  go_enter Try.func4, Try.ntmps4
  go_wp2_with fail
  refine HF1.out.mono ?_
  rintro e w1 ⟨rfl, hw1⟩
  rw [hw1]
  clear hw1
  go_wp2_with fail
  refine HF2.out.mono ?_
  rintro e w1 ⟨rfl, hw1⟩
  rw [hw1]
  clear hw1
  go_wp2_with fail
  refine (HA1.out w (Below.refl _ _)).mono ?_
  rintro e w1 ⟨A1, k1, c1, rfl, h1, hb1, _⟩
  have H1 := Lib.hid h1
  have HB1 : Hid (Below M w w1) := by unfold Hid; rw [← HM.out]; exact hb1
  clear h1 hb1
  go_wp2_with fail
  refine (HA2.out w1 HB1.out).mono ?_
  rintro e w2 ⟨A2, k2, c2, rfl, h2, hb2⟩
  obtain rfl : k1 = k2 := H1.out.len.symm.trans h2.len
  have H2 := Lib.hid h2
  have H12 := Lib.hid (H1.out.below hb2)
  have HB2 : Hid (Below M w w2) := HB1.out.trans (hb2.mono (by have := HB1.out.size; have := HM.out; omega))
  clear h2 hb2
  go_wp2_with fail
  refine (HD1.out w2 HB2.out).mono ?_
  rintro e w3 ⟨A3, k3, c3, rfl, h3, hb3, _⟩
  have H3 := Lib.hid h3
  have H13 := Lib.hid (H12.out.below hb3)
  have H23 := Lib.hid (H2.out.below hb3)
  have HB3 : Hid (Below M w w3) := HB2.out.trans (hb3.mono (by have := HB2.out.size; have := HM.out; omega))
  clear h3 hb3
  go_wp2_with fail
  refine (HD2.out w3 HB3.out).mono ?_
  rintro e w4 ⟨A4, k4, c4, rfl, h4, hb4⟩
  obtain rfl : k3 = k4 := H3.out.len.symm.trans h4.len
  have H4 := Lib.hid h4
  have H34 := Lib.hid (H3.out.below hb4)
  have H14 := Lib.hid (H13.out.below hb4)
  have H24 := Lib.hid (H23.out.below hb4)
  have HB4 : Hid (Below M w w4) := HB3.out.trans (hb4.mono (by have := HB3.out.size; have := HM.out; omega))
  clear h4 hb4
  go_wp2_with fail
  refine (rsame_yes w4 H14.out H24.out (by have := HAL.out; have := H14.out.len; omega)).mono ?_
  rintro e w5 ⟨rfl, hb5⟩
  have H35 := Lib.hid (H34.out.below hb5)
  have H45 := Lib.hid (H4.out.below hb5)
  have HB5 : Hid (Below M w w5) := HB4.out.trans (hb5.mono (by have := HB4.out.size; have := HM.out; omega))
  clear hb5
  go_wp2_with fail
  refine (rsame_yes w5 H35.out H45.out (by have := HDL.out; have := H35.out.len; omega)).mono ?_
  rintro e w6 ⟨rfl, hb6⟩
  have HB6 : Hid (Below M w w6) := HB5.out.trans (hb6.mono (by have := HB5.out.size; have := HM.out; omega))
  clear hb6
  go_wp2_with fail
  refine (awake_any w6).mono ?_
  rintro e w8 ⟨rfl, hb8⟩
  have HB8 : Hid (Below M w w8) := HB6.out.trans (hb8.mono (by have := HB6.out.size; have := HM.out; omega))
  clear hb8
  go_wp2
  go_ret
  exact ⟨rfl, HB8.out⟩

end Go.Proofs.Ytkobhlhkkpnmkaa
