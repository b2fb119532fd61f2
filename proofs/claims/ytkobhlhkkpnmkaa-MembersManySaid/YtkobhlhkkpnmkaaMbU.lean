/-
  MembersOwn walked. Conditions: the arguments lie in memory.
-/
import Derived.Test.YtkobhlhkkpnmkaaMbY
import Derived.Test.YtkobhlhkkpnmkaaMbT
namespace Go.Proofs.Ytkobhlhkkpnmkaa
open Go.RowKit

theorem unX_one (A : Option Addr) (n c : Nat) (L : List Tx) : unX [⟨A, n, c, L⟩] = if Ris L then ofX [] L else [] := by
  unfold unX allT
  simp
theorem ckA_one (A : Option Addr) (n c : Nat) (L : List Tx) : ckA [⟨A, n, c, L⟩] = ckX L := by
  unfold ckA ckX
  simp
theorem addX_len {L K : List Tx} {n m : Nat} (h : L.length = n) (k : K.length = m) : (addX L K).length ≤ n + m := by
  unfold addX
  split
  · have := ofX_length L K; omega
  · simp
theorem delX_len {L K : List Tx} {n : Nat} (h : L.length = n) : (delX L K).length ≤ n := by
  unfold delX
  split
  · have := List.length_filter_le (fun x => decide (x ∉ K)) L; omega
  · simp

/-- One row of texts, laid by itself. -/
theorem TtAt.one {w : World} {A : Option Addr} {n c : Nat} {L : List Tx} (h : TxAt w A n c L) (g : Nat) (hg : g = w.heap.size) : TtAt (w.alloc (.cells #[.slice A n c] 22)) (some ⟨g, 0, none⟩) 1 1 [⟨A, n, c, L⟩] := by
  subst hg
  have r := World.rowIs_alloc w #[.slice A n c] 22 (fun _ => .slice A n c) (fun i hi => by
    have hi : i < 1 := hi
    obtain rfl : i = 0 := by omega
    rfl)
  refine ⟨rfl, Nat.le_refl _, by omega, fun e => (by cases e), fun y hy => ?_, fun _ => ⟨w.heap.size, 0, rfl, r.lt, fun j y hy => ?_⟩⟩
  · rw [List.mem_singleton] at hy
    rw [hy]
    exact h.below ((Below.refl _ _).alloc (Nat.le_refl _) _)
  · rcases j with _ | j
    · simp at hy
      subst hy
      exact r.cell (i := 0) Nat.one_pos
    · simp at hy

/-- A row that lies elsewhere than a cell that is written. -/
theorem TxAt.aside {w : World} {A : Option Addr} {n c : Nat} {L : List Tx} (h : TxAt w A n c L) {G g : Nat} (hf : Frh G A) (hg : g < G) (i : Nat) (v : Value) : TxAt (w.setCell ⟨g, i, none⟩ v) A n c L :=
  h.keep (by simp [World.setCell]) (fun b o _ e => Go.Deep.blk_setCell_other _ _ _ _ (by have := hf b o none e; show b ≠ g; omega))

set_option maxRecDepth 100000 in
set_option maxHeartbeats 32000000 in
theorem own_any {A B : Option Addr} {n m cp cq : Nat} {L K : List Tx} (w : World) (h1 : TxAt w A n cp L) (h2 : TxAt w B m cq K) :
    Calls Try.prog 9 #[.slice A n cp, .slice B m cq] w fun e w' => e = .returned (.bool true) ∧ Below w.heap.size w w' := by
  have HF1 := Lib.hid (few_any w h1)
  have HF2 := Lib.hid (few_any w h2)
  obtain ⟨p, LL, hp, hp2, t1⟩ := few_tx h1
  obtain ⟨q, KK, hq, hq2, t2⟩ := few_tx h2
  rw [hp] at HF1
  rw [hq] at HF2
  have T1 := Lib.hid t1
  have T2 := Lib.hid t2
  have HAL := Lib.hid (addX_len t1.len t2.len)
  have HDL := Lib.hid (delX_len (K := []) t1.len)
  have HSL := Lib.hid (smX_len t1.len hp2 300 7)
  have HUL : Hid ((if Ris LL then ofX [] LL else []).length ≤ 200) := by
    unfold Hid
    split
    · have := ofX_length [] LL; have := t1.len; simp only [List.length_nil] at *; omega
    · simp
  have HLLn := Lib.hid t1.len
  obtain ⟨M, hM⟩ : ∃ M, w.heap.size = M := ⟨_, rfl⟩
  have HM := Lib.hid hM
  have HEMP : Hid ((w.alloc (.cells #[] 9)).ownsRow M 9 1 (.slice (some ⟨w.heap.size, 0, none⟩) 0 0) 0 (([] : List Tx).map encStr)) := World.ownsRow_made w #[] 0 (by omega) (by decide) rfl
  have HB0 : Hid (Below M w (w.alloc (.cells #[] 9))) := (Below.refl _ _).alloc (by omega) _
  have HST := Lib.hid (t1.below (w' := w.alloc (.cells #[] 9)) (by rw [hM]; exact HB0.out))
  have hxz : M ≤ (w.alloc (.cells #[] 9)).heap.size := by rw [World.size_alloc]; omega
  rw [hM]
  clear h1 h2 hp hq t1 t2 hM
  go_enter Try.func9, Try.ntmps9
  go_wp2_with fail
  refine HF1.out.mono ?_
  rintro e w1 ⟨rfl, hw1⟩
  rw [hw1]
  clear hw1
  go_wp2_with fail
  refine HF2.out.mono ?_
  rintro e w1 ⟨rfl, hw1⟩
  rw [hw1]
  clear hw1
  go_wp2_with (at_builtin; refine wpList_append_tx rfl _ _ rfl M (.slice (some ⟨w.heap.size, 0, none⟩) 0 0) 0 [] rfl HEMP.out A p cp LL rfl HST.out (by omega) hxz ?_)
  intro v2 w2 hown hgr
  unfold TxO at hown
  have HB2 : Hid (Below M w w2) := HB0.out.grown hgr hxz (fun k e => (HEMP.out.lt k e).1)
  obtain ⟨Ax, cx, rfl⟩ := own_slice hown
  have HOX : Hid (w2.ownsRow M 9 1 (.slice Ax p cx) p (LL.map encStr)) := hown
  have HX2 := Lib.hid (TxAt.own hown T1.out.fits)
  have HEM2 : Hid ((w2.alloc (.cells #[] 9)).ownsRow w2.heap.size 9 1 (.slice (some ⟨w2.heap.size, 0, none⟩) 0 0) 0 (([] : List Tx).map encStr)) := World.ownsRow_made w2 #[] 0 (Nat.le_refl _) (by decide) rfl
  have HB2a : Hid (Below w2.heap.size w2 (w2.alloc (.cells #[] 9))) := (Below.refl _ _).alloc (Nat.le_refl _) _
  have HST2 := Lib.hid (T2.out.below (w' := w2.alloc (.cells #[] 9)) (by rw [HM.out]; exact HB2.out.trans (HB2a.out.mono (by have := HB2.out.size; have := HM.out; omega))))
  have hxz2 : w2.heap.size ≤ (w2.alloc (.cells #[] 9)).heap.size := by rw [World.size_alloc]; omega
  clear hown hgr
  go_wp2_with (at_builtin; refine wpList_append_tx rfl _ _ rfl w2.heap.size (.slice (some ⟨w2.heap.size, 0, none⟩) 0 0) 0 [] rfl HEM2.out B q cq KK rfl HST2.out (by omega) hxz2 ?_)
  intro v4 w4 hown hgr
  unfold TxO at hown
  have hb4 : Below w2.heap.size w2 w4 := HB2a.out.grown hgr hxz2 (fun k e => (HEM2.out.lt k e).1)
  obtain ⟨Ay, cy, rfl⟩ := own_slice hown
  have HY := Lib.hid (TxAt.own hown T2.out.fits)
  have HOX := Lib.hid (own_below HOX.out hb4)
  have HX := Lib.hid (HX2.out.below hb4)
  have HB4 : Hid (Below M w w4) := HB2.out.trans (hb4.mono (by have := HB2.out.size; have := HM.out; omega))
  obtain ⟨G, hG⟩ : ∃ G, w4.heap.size = G := ⟨_, rfl⟩
  have HG := Lib.hid hG
  have HGX := Lib.hid (HOX.out.lt)
  clear hown hgr hb4 hG
  go_wp2_with fail
  refine (add_any w4 HX.out HY.out (by omega) (by omega)).mono ?_
  rintro e w5 ⟨A5, k5, c5, rfl, h5, hb5, hf5⟩
  have H5 := Lib.hid h5
  have HFR5 : Hid (Frh G A5) := hf5.mono (Nat.le_of_eq HG.out.symm)
  have HB5 : Hid (Below M w w5) := HB4.out.trans (hb5.mono (by have := HB4.out.size; have := HM.out; omega))
  have HOX := Lib.hid (own_below HOX.out hb5)
  have HX := Lib.hid (HX.out.below hb5)
  have HY := Lib.hid (HY.out.below hb5)
  have HG5 : Hid (G ≤ w5.heap.size) := by have := hb5.size; have := HG.out; unfold Hid; omega
  obtain ⟨w6, hw6⟩ : ∃ w6, w5.alloc (.cells #[.slice Ax p cx] 22) = w6 := ⟨_, rfl⟩
  have hb6 : Below w5.heap.size w5 w6 := by rw [← hw6]; exact (Below.refl _ _).alloc (Nat.le_refl _) _
  have HTT : Hid (TtAt w6 (some ⟨w5.heap.size, 0, none⟩) 1 1 [⟨Ax, p, cx, LL⟩]) := by unfold Hid; rw [← hw6]; exact TtAt.one HX.out _ rfl
  have HW6 := Lib.hid hw6
  have H5 := Lib.hid (h5.below hb6)
  have HB6 : Hid (Below M w w6) := HB5.out.trans (hb6.mono (by have := HB5.out.size; have := HM.out; omega))
  have HOX := Lib.hid (own_below HOX.out hb6)
  have HX := Lib.hid (HX.out.below hb6)
  have HY := Lib.hid (HY.out.below hb6)
  have HG6 : Hid (G ≤ w6.heap.size) := by have := hb6.size; have := HG5.out; unfold Hid; omega
  clear h5 hb5 hf5 hb6 hw6
  go_wp2_with fail
  rw [HW6.out]
  refine (pUnion_any w6 HTT.out (by omega) (fun r hr => by rw [List.mem_singleton] at hr; rw [hr]; show p ≤ 1000; omega)).mono ?_
  rw [unX_one, ckA_one]
  rintro e w7 ⟨A7, k7, c7, rfl, h7, hb7, hf7⟩
  have H7 := Lib.hid h7
  have HFR7 : Hid (Frh G A7) := hf7.mono HG6.out
  have H5 := Lib.hid (H5.out.below hb7)
  have HB7 : Hid (Below M w w7) := HB6.out.trans (hb7.mono (by have := HB6.out.size; have := HM.out; omega))
  have HOX := Lib.hid (own_below HOX.out hb7)
  have HX := Lib.hid (HX.out.below hb7)
  have HY := Lib.hid (HY.out.below hb7)
  have HG7 : Hid (G ≤ w7.heap.size) := by have := hb7.size; have := HG6.out; unfold Hid; omega
  clear h7 hb7 hf7
  go_wp2_with fail
  refine (del_any w7 HX.out (TxAt.nil w7) (by omega) (by omega)).mono ?_
  rintro e w8 ⟨A8, k8, c8, rfl, h8, hb8, hf8⟩
  have H8 := Lib.hid h8
  have HFR8 : Hid (Frh G A8) := hf8.mono HG7.out
  have H5 := Lib.hid (H5.out.below hb8)
  have H7 := Lib.hid (H7.out.below hb8)
  have HB8 : Hid (Below M w w8) := HB7.out.trans (hb8.mono (by have := HB7.out.size; have := HM.out; omega))
  have HOX := Lib.hid (own_below HOX.out hb8)
  have HX := Lib.hid (HX.out.below hb8)
  have HY := Lib.hid (HY.out.below hb8)
  have HG8 : Hid (G ≤ w8.heap.size) := by have := hb8.size; have := HG7.out; unfold Hid; omega
  clear h8 hb8 hf8
  go_wp2_with fail
  refine (some_any w8 HX.out (by omega) 300 (d := 7) (by omega)).mono ?_
  rintro e w9 ⟨A9, k9, c9, rfl, h9, hb9, hf9⟩
  have H9 := Lib.hid h9
  have HFR9 : Hid (Frh G A9) := hf9.mono HG8.out
  have H5 := Lib.hid (H5.out.below hb9)
  have H7 := Lib.hid (H7.out.below hb9)
  have H8 := Lib.hid (H8.out.below hb9)
  have HB9 : Hid (Below M w w9) := HB8.out.trans (hb9.mono (by have := HB8.out.size; have := HM.out; omega))
  have HOX := Lib.hid (own_below HOX.out hb9)
  have HX := Lib.hid (HX.out.below hb9)
  have HY := Lib.hid (HY.out.below hb9)
  clear h9 hb9 hf9
  go_wp2_with fail
  refine (rsame_yes w9 HX.out (T1.out.below (by rw [HM.out]; exact HB9.out)) (by omega)).mono ?_
  rintro e w10 ⟨rfl, hb10⟩
  have H5 := Lib.hid (H5.out.below hb10)
  have H7 := Lib.hid (H7.out.below hb10)
  have H8 := Lib.hid (H8.out.below hb10)
  have H9 := Lib.hid (H9.out.below hb10)
  have HB10 : Hid (Below M w w10) := HB9.out.trans (hb10.mono (by have := HB9.out.size; have := HM.out; omega))
  have HOX := Lib.hid (own_below HOX.out hb10)
  have HY := Lib.hid (HY.out.below hb10)
  clear hb10
  go_wp2_with fail
  refine (rsame_yes w10 HY.out (T2.out.below (by rw [HM.out]; exact HB10.out)) (by omega)).mono ?_
  rintro e w11 ⟨rfl, hb11⟩
  have H5 := Lib.hid (H5.out.below hb11)
  have H7 := Lib.hid (H7.out.below hb11)
  have H8 := Lib.hid (H8.out.below hb11)
  have H9 := Lib.hid (H9.out.below hb11)
  have HB11 : Hid (Below M w w11) := HB10.out.trans (hb11.mono (by have := HB10.out.size; have := HM.out; omega))
  have HOX := Lib.hid (own_below HOX.out hb11)
  have HOW : Hid (0 < p → ∃ g f, Ax = some ⟨g, 0, none⟩ ∧ M ≤ g ∧ g < G ∧ p ≤ cx ∧ cx ≤ 9223372036854775807 ∧ w11.rowIs g 9 cx f) := fun h0 => by
    obtain ⟨g, f, rfl, q1, q2, q3, q4, _⟩ := own_row HOX.out h0
    have := HGX.out g rfl
    have := HG.out
    exact ⟨g, f, rfl, q1, by omega, q2, q3, q4⟩
  clear hb11
  go_wp2_with fail
  go_loopw [17] (fun iv wr => ∃ i : Nat, iv = .int .i64 i ∧ i ≤ p ∧ Below M w wr ∧ TxAt wr A5 k5 c5 (addX LL KK) ∧ TxAt wr A7 k7 c7 (if Ris LL then ofX [] LL else []) ∧ TxAt wr A8 k8 c8 (delX LL []) ∧ TxAt wr A9 k9 c9 (smX LL 300 7) ∧ (0 < p → ∃ g f, Ax = some ⟨g, 0, none⟩ ∧ M ≤ g ∧ g < G ∧ p ≤ cx ∧ cx ≤ 9223372036854775807 ∧ wr.rowIs g 9 cx f)) (fun iv _ => p - (intOf iv).toNat)
  case atStart => exact ⟨0, rfl, Nat.zero_le _, HB11.out, H5.out, H7.out, H8.out, H9.out, HOW.out⟩
  case round =>
    obtain ⟨i, rfl, hi, hb, r5, r7, r8, r9, hw⟩ := hrel
    have HB := Lib.hid hb
    have H5 := Lib.hid r5
    have H7 := Lib.hid r7
    have H8 := Lib.hid r8
    have H9 := Lib.hid r9
    by_cases hlt : i < p
    · obtain ⟨g, f, rfl, q1, q2, q3, q4, hr⟩ := hw (by omega)
      have hlt' : (i : Int) < (p : Int) := by omega
      have d0 := hr.cell (i := i) (by omega)
      have d1 := hr.frozen i
      have HR := Lib.hid hr
      clear hb r5 r7 r8 r9 hw hr
      go_wp2
      go_roundw
      case rel => exact ⟨i + 1, by go_num, hlt, HB.out.setCell q1 _, H5.out.aside HFR5.out q2 _ _, H7.out.aside HFR7.out q2 _ _, H8.out.aside HFR8.out q2 _ _, H9.out.aside HFR9.out q2 _ _, fun _ => ⟨g, _, rfl, q1, q2, q3, q4, HR.out.set i _⟩⟩
      case measure => simp only [intOf]; omega
    · have hge : ¬ (i : Int) < (p : Int) := by omega
      clear hb r5 r7 r8 r9 hw
      go_wp2_with fail
      refine (radd_any wr (T1.out.below (by rw [HM.out]; exact HB.out)) (T2.out.below (by rw [HM.out]; exact HB.out)) (by omega) (by omega)).mono ?_
      rintro e w12 ⟨A12, k12, c12, rfl, h12, hb12⟩
      obtain rfl : k5 = k12 := H5.out.len.symm.trans h12.len
      have H5 := Lib.hid (H5.out.below hb12)
      have H7 := Lib.hid (H7.out.below hb12)
      have H8 := Lib.hid (H8.out.below hb12)
      have H9 := Lib.hid (H9.out.below hb12)
      have HB12 : Hid (Below M w w12) := HB.out.trans (hb12.mono (by have := HB.out.size; have := HM.out; omega))
      obtain ⟨w13, hw13⟩ : ∃ w13, w12.alloc (.cells #[.slice A p cp] 22) = w13 := ⟨_, rfl⟩
      have hb13 : Below w12.heap.size w12 w13 := by rw [← hw13]; exact (Below.refl _ _).alloc (Nat.le_refl _) _
      have HTT2 : Hid (TtAt w13 (some ⟨w12.heap.size, 0, none⟩) 1 1 [⟨A, p, cp, LL⟩]) := by unfold Hid; rw [← hw13]; exact TtAt.one (T1.out.below (by rw [HM.out]; exact HB12.out)) _ rfl
      have HW13 := Lib.hid hw13
      have H5 := Lib.hid (H5.out.below hb13)
      have H7 := Lib.hid (H7.out.below hb13)
      have H8 := Lib.hid (H8.out.below hb13)
      have H9 := Lib.hid (H9.out.below hb13)
      have H12 := Lib.hid (h12.below hb13)
      have HB13 : Hid (Below M w w13) := HB12.out.trans (hb13.mono (by have := HB12.out.size; have := HM.out; omega))
      clear h12 hb12 hb13 hw13
      go_wp2_with fail
      rw [HW13.out]
      refine (rUnion_any w13 HTT2.out (by omega) (fun r hr => by rw [List.mem_singleton] at hr; rw [hr]; show p ≤ 1000; omega)).mono ?_
      rw [unX_one, ckA_one]
      rintro e w14 ⟨A14, k14, c14, rfl, h14, hb14⟩
      obtain rfl : k7 = k14 := H7.out.len.symm.trans h14.len
      have H5 := Lib.hid (H5.out.below hb14)
      have H7 := Lib.hid (H7.out.below hb14)
      have H8 := Lib.hid (H8.out.below hb14)
      have H9 := Lib.hid (H9.out.below hb14)
      have H12 := Lib.hid (H12.out.below hb14)
      have H14 := Lib.hid h14
      have HB14 : Hid (Below M w w14) := HB13.out.trans (hb14.mono (by have := HB13.out.size; have := HM.out; omega))
      clear h14 hb14
      go_wp2_with fail
      refine (rdel_any w14 (T1.out.below (by rw [HM.out]; exact HB14.out)) (TxAt.nil w14) (by omega) (by omega)).mono ?_
      rintro e w15 ⟨A15, k15, c15, rfl, h15, hb15⟩
      obtain rfl : k8 = k15 := H8.out.len.symm.trans h15.len
      have H5 := Lib.hid (H5.out.below hb15)
      have H7 := Lib.hid (H7.out.below hb15)
      have H8 := Lib.hid (H8.out.below hb15)
      have H9 := Lib.hid (H9.out.below hb15)
      have H12 := Lib.hid (H12.out.below hb15)
      have H14 := Lib.hid (H14.out.below hb15)
      have H15 := Lib.hid h15
      have HB15 : Hid (Below M w w15) := HB14.out.trans (hb15.mono (by have := HB14.out.size; have := HM.out; omega))
      clear h15 hb15
      go_wp2_with fail
      refine (rsome_any w15 (T1.out.below (by rw [HM.out]; exact HB15.out)) (by omega) 300 (d := 7) (by omega)).mono ?_
      rintro e w16 ⟨A16, k16, c16, rfl, h16, hb16⟩
      obtain rfl : k9 = k16 := H9.out.len.symm.trans h16.len
      have H5 := Lib.hid (H5.out.below hb16)
      have H7 := Lib.hid (H7.out.below hb16)
      have H8 := Lib.hid (H8.out.below hb16)
      have H9 := Lib.hid (H9.out.below hb16)
      have H12 := Lib.hid (H12.out.below hb16)
      have H14 := Lib.hid (H14.out.below hb16)
      have H15 := Lib.hid (H15.out.below hb16)
      have H16 := Lib.hid h16
      have HB16 : Hid (Below M w w16) := HB15.out.trans (hb16.mono (by have := HB15.out.size; have := HM.out; omega))
      clear h16 hb16
      go_wp2_with fail
      refine (rsame_yes w16 H5.out H12.out (by have := HAL.out; have := H5.out.len; omega)).mono ?_
      rintro e w17 ⟨rfl, hb17⟩
      have H7 := Lib.hid (H7.out.below hb17)
      have H8 := Lib.hid (H8.out.below hb17)
      have H9 := Lib.hid (H9.out.below hb17)
      have H14 := Lib.hid (H14.out.below hb17)
      have H15 := Lib.hid (H15.out.below hb17)
      have H16 := Lib.hid (H16.out.below hb17)
      have HB17 : Hid (Below M w w17) := HB16.out.trans (hb17.mono (by have := HB16.out.size; have := HM.out; omega))
      clear hb17
      go_wp2_with fail
      refine (rsame_yes w17 H7.out H14.out (by have := HUL.out; have := H7.out.len; omega)).mono ?_
      rintro e w18 ⟨rfl, hb18⟩
      have H8 := Lib.hid (H8.out.below hb18)
      have H9 := Lib.hid (H9.out.below hb18)
      have H15 := Lib.hid (H15.out.below hb18)
      have H16 := Lib.hid (H16.out.below hb18)
      have HB18 : Hid (Below M w w18) := HB17.out.trans (hb18.mono (by have := HB17.out.size; have := HM.out; omega))
      clear hb18
      go_wp2_with fail
      refine (rsame_yes w18 H8.out H15.out (by have := HDL.out; have := H8.out.len; omega)).mono ?_
      rintro e w19 ⟨rfl, hb19⟩
      have H9 := Lib.hid (H9.out.below hb19)
      have H16 := Lib.hid (H16.out.below hb19)
      have HB19 : Hid (Below M w w19) := HB18.out.trans (hb19.mono (by have := HB18.out.size; have := HM.out; omega))
      clear hb19
      go_wp2_with fail
      refine (rsame_yes w19 H9.out H16.out (by have := HSL.out; have := H9.out.len; omega)).mono ?_
      rintro e w20 ⟨rfl, hb20⟩
      have HB20 : Hid (Below M w w20) := HB19.out.trans (hb20.mono (by have := HB19.out.size; have := HM.out; omega))
      clear hb20
      go_wp2_with fail
      refine (awake_any w20).mono ?_
      rintro e w21 ⟨rfl, hb21⟩
      have HB21 : Hid (Below M w w21) := HB20.out.trans (hb21.mono (by have := HB20.out.size; have := HM.out; omega))
      clear hb21
      go_wp2
      go_ret
      exact ⟨rfl, HB21.out⟩

end Go.Proofs.Ytkobhlhkkpnmkaa
