/-
  The walks of the document's own bytes and Encode at any tree. Conditions: the tree lies in memory, of bulk at most 1048576.
-/
import Derived.Test.YtbldahkgilkclaaDoorRiM
import Derived.Test.YtbldahkgilkclaaDoorRrA
import Derived.Lib.SlBytesConst
namespace Go.Proofs.YtbldahkgilkclaaDoor
open Go.RowKit

def BytesTells (v : Value) (y : List UInt8) (w : World) : Prop := Calls Tryd.prog 16 #[v] w (RowedT w y)

set_option maxRecDepth 100000 in
set_option maxHeartbeats 4000000 in
theorem rbytes_line (k : Int) (m : UInt8) (hk : k = 1 ∧ m = 43 ∨ k = 2 ∧ m = 45) (T : ByteArray) (t : List UInt8) (n : Int) (LA : Option Addr) (j cap : Nat) (w : World) (hx : T.data.toList = t) (ht : t.length ≤ 1048576) :
    BytesTells (.agg #[.int .i64 k, .string T, .int .i64 n, .slice LA j cap]) (m :: (t ++ [13, 10])) w := by
  have hTs : T.size = t.length := by rw [← hx, Array.length_toList]; rfl
  obtain ⟨S1, hS1⟩ : ∃ S1 : ByteArray, { data := #[m] } ++ T = S1 := ⟨_, rfl⟩
  have hz1 : S1.size ≤ 1048577 := by rw [← hS1, ByteArray.size_append]; show 1 + T.size ≤ _; omega
  obtain ⟨S2, hS2⟩ : ∃ S2 : ByteArray, S1 ++ { data := #[13, 10] } = S2 := ⟨_, rfl⟩
  have hA1 : ∀ w, (Op.stringOp .add { data := #[m] } T).run Tryd.prog w = .ok (.string S1) w := fun w => by rw [← hS1]; exact run_string_add_sum _ _ _ (by show 1 + T.size ≤ _; omega)
  have hA2 : ∀ w, (Op.stringOp .add S1 { data := #[13, 10] }).run Tryd.prog w = .ok (.string S2) w := fun w => by rw [← hS2]; exact run_string_add_sum _ _ _ (by show S1.size + 2 ≤ _; omega)
  have hx1 : S2.data.toList = m :: (t ++ [13, 10]) := by rw [← hS2, ← hS1]; simp [hx]
  have hyl : (m :: (t ++ [13, 10])).length ≤ 9223372036854775807 := by simp only [List.length_cons, List.length_append, List.length_nil]; omega
  obtain ⟨Y, hY⟩ : ∃ Y, m :: (t ++ [13, 10]) = Y := ⟨_, rfl⟩
  rw [hY] at hx1 hyl ⊢
  obtain ⟨C, W1, hcv, hbw1, hown1⟩ := text_bytes (w.alloc (.cells #[.int .i64 k, .string T, .int .i64 n, .slice LA j cap] 25)) S2 Y hx1 hyl
  rw [World.size_alloc] at hcv hown1
  have HO1 := Lib.hid hown1
  have HB1 := Lib.hid (((Below.refl w.heap.size w).alloc (Nat.le_refl _) (.cells #[.int .i64 k, .string T, .int .i64 n, .slice LA j cap] 25)).trans (hbw1.mono (by simp)))
  clear hx hTs hS1 hS2 hY hx1 hbw1 hown1
  unfold BytesTells
  rcases hk with ⟨rfl, rfl⟩ | ⟨rfl, rfl⟩
  all_goals
    go_enter Tryd.func16, Tryd.ntmps16
    go_wp2
    go_ret
    exact ⟨_, rfl, HO1.out.base (by omega), HB1.out⟩

set_option maxRecDepth 100000 in
set_option maxHeartbeats 4000000 in
theorem rbytes_int (T : ByteArray) (n : Int) (LA : Option Addr) (j cap : Nat) (w : World) (h0 : -9223372036854775808 ≤ n) (h1 : n ≤ 9223372036854775807) :
    BytesTells (.agg #[.int .i64 3, .string T, .int .i64 n, .slice LA j cap]) (58 :: (Lib.itoa n ++ [13, 10])) w := by
  have hd := digits_le h0 h1
  have HTX := Lib.hid (fun w5 => refText_any n w5 h0 h1)
  obtain ⟨S0, hS0⟩ : ∃ S0 : ByteArray, ⟨(Lib.itoa n).toArray⟩ = S0 := ⟨_, rfl⟩
  have hz0 : S0.size ≤ 21 := by rw [← hS0]; exact hd
  rw [hS0] at HTX
  obtain ⟨S1, hS1⟩ : ∃ S1 : ByteArray, { data := #[58] } ++ S0 = S1 := ⟨_, rfl⟩
  have hz1 : S1.size ≤ 22 := by rw [← hS1, ByteArray.size_append]; show 1 + S0.size ≤ _; omega
  obtain ⟨S2, hS2⟩ : ∃ S2 : ByteArray, S1 ++ { data := #[13, 10] } = S2 := ⟨_, rfl⟩
  have hA1 : ∀ w, (Op.stringOp .add { data := #[58] } S0).run Tryd.prog w = .ok (.string S1) w := fun w => by rw [← hS1]; exact run_string_add_sum _ _ _ (by show 1 + S0.size ≤ _; omega)
  have hA2 : ∀ w, (Op.stringOp .add S1 { data := #[13, 10] }).run Tryd.prog w = .ok (.string S2) w := fun w => by rw [← hS2]; exact run_string_add_sum _ _ _ (by show S1.size + 2 ≤ _; omega)
  have hx1 : S2.data.toList = 58 :: (Lib.itoa n ++ [13, 10]) := by rw [← hS2, ← hS1, ← hS0]; simp
  have hyl : (58 :: (Lib.itoa n ++ [13, 10])).length ≤ 9223372036854775807 := by simp only [List.length_cons, List.length_append, List.length_nil]; omega
  obtain ⟨Y, hY⟩ : ∃ Y, 58 :: (Lib.itoa n ++ [13, 10]) = Y := ⟨_, rfl⟩
  rw [hY] at hx1 hyl ⊢
  have HTB := Lib.hid (fun w1 => text_bytes w1 S2 Y hx1 hyl)
  clear hS0 hS1 hS2 hY hx1 hd
  unfold BytesTells
  go_enter Tryd.func16, Tryd.ntmps16
  go_wp2_with fail
  refine (HTX.out _).mono ?_
  rintro e w1 ⟨rfl, hb1⟩
  obtain ⟨C, W1, hcv, hbw1, hown1⟩ := HTB.out w1
  have hbw : Below w.heap.size w w1 := ((Below.refl w.heap.size w).alloc (Nat.le_refl _) _).trans (hb1.mono (by simp))
  have hz := hbw.size
  have HO1 := Lib.hid hown1
  have HB1 := Lib.hid (hbw.trans (hbw1.mono hz))
  clear hb1 hbw1 hown1 hbw
  go_wp2
  go_ret
  exact ⟨_, rfl, HO1.out.base (by omega), HB1.out⟩

set_option maxRecDepth 100000 in
set_option maxHeartbeats 4000000 in
theorem rbytes_bulkI (t : List UInt8) (T : ByteArray) (n : Int) (LA : Option Addr) (j cap : Nat) (w : World) (hx : T.data.toList = t) (ht : t.length ≤ 1048576) :
    BytesTells (.agg #[.int .i64 4, .string T, .int .i64 n, .slice LA j cap]) (bulkW t) w := by
  have hTs : T.size = t.length := by rw [← hx, Array.length_toList]; rfl
  have hts : T.size ≤ 1048576 := by omega
  have hi22 := itoa_le T.size (by omega)
  obtain ⟨S0, hS0⟩ : ∃ S0 : ByteArray, ⟨(Lib.itoa (T.size : Int)).toArray⟩ = S0 := ⟨_, rfl⟩
  have hz0 : S0.size ≤ 20 := by rw [← hS0]; exact hi22
  have HTX := Lib.hid (fun w5 => refText_any T.size w5 (by omega) (by omega))
  rw [hS0] at HTX
  obtain ⟨S1, hS1⟩ : ∃ S1 : ByteArray, { data := #[36] } ++ S0 = S1 := ⟨_, rfl⟩
  have hz1 : S1.size ≤ 21 := by rw [← hS1, ByteArray.size_append]; show 1 + S0.size ≤ 21; omega
  obtain ⟨S2, hS2⟩ : ∃ S2 : ByteArray, S1 ++ { data := #[13, 10] } = S2 := ⟨_, rfl⟩
  have hz2 : S2.size ≤ 23 := by rw [← hS2, ByteArray.size_append]; show S1.size + 2 ≤ 23; omega
  obtain ⟨S3, hS3⟩ : ∃ S3 : ByteArray, S2 ++ T = S3 := ⟨_, rfl⟩
  have hz3 : S3.size ≤ 1048599 := by rw [← hS3, ByteArray.size_append]; omega
  obtain ⟨S4, hS4⟩ : ∃ S4 : ByteArray, S3 ++ { data := #[13, 10] } = S4 := ⟨_, rfl⟩
  have hA1 : ∀ w, (Op.stringOp .add { data := #[36] } S0).run Tryd.prog w = .ok (.string S1) w := fun w => by rw [← hS1]; exact run_string_add_sum _ _ _ (by show 1 + S0.size ≤ _; omega)
  have hA2 : ∀ w, (Op.stringOp .add S1 { data := #[13, 10] }).run Tryd.prog w = .ok (.string S2) w := fun w => by rw [← hS2]; exact run_string_add_sum _ _ _ (by show S1.size + 2 ≤ _; omega)
  have hA3 : ∀ w, (Op.stringOp .add S2 T).run Tryd.prog w = .ok (.string S3) w := fun w => by rw [← hS3]; exact run_string_add_sum _ _ _ (by omega)
  have hA4 : ∀ w, (Op.stringOp .add S3 { data := #[13, 10] }).run Tryd.prog w = .ok (.string S4) w := fun w => by rw [← hS4]; exact run_string_add_sum _ _ _ (by show S3.size + 2 ≤ _; omega)
  have hx1 : S4.data.toList = bulkW t := by
    rw [bulkW_eq, ← hS4, ← hS3, ← hS2, ← hS1, ← hS0, hTs]; simp [hx]
  have hbl : (bulkW t).length ≤ 1048700 := by rw [← hx1, Array.length_toList]; show S4.size ≤ _; rw [← hS4, ByteArray.size_append]; show S3.size + 2 ≤ _; omega
  obtain ⟨Y, hY⟩ : ∃ Y, bulkW t = Y := ⟨_, rfl⟩
  rw [hY] at hx1 hbl ⊢
  have HX1 := Lib.hid hx1
  have hyl : Y.length ≤ 9223372036854775807 := by omega
  clear hx hTs hS0 hS1 hS2 hS3 hS4 hY hi22 hx1
  unfold BytesTells
  go_enter Tryd.func16, Tryd.ntmps16
  go_wp2
  obtain ⟨wb, hwb⟩ : ∃ wb, w.alloc (.cells #[.int .i64 4, .string T, .int .i64 n, .slice LA j cap] 25) = wb := ⟨_, rfl⟩
  have hcw : wb.cell? ⟨w.heap.size, 1, none⟩ = some (.string T) := by rw [← hwb]; exact (cell_in (World.alloc_heap_new w _)).trans rfl
  have hbw : Below w.heap.size w wb := by rw [← hwb]; exact (Below.refl _ _).alloc (Nat.le_refl _) _
  have hlw : w.heap.size < wb.heap.size := by rw [← hwb]; simp
  rw [hwb]
  have HBW := Lib.hid hbw
  clear hwb hbw
  go_region_with (go_at_call 25; refine (HTX.out _).mono ?_; rintro e w6 ⟨rfl, hb6⟩; obtain ⟨C, W1, hcv, hbw1, hown1⟩ := text_bytes w6 S4 Y HX1.out hyl; have HB6 := Lib.hid (show Below wb.heap.size wb w6 from (by first | exact ((Below.refl wb.heap.size wb).drew).trans hb6 | exact hb6)); have hcw6 := (HB6.out.cell (p := ⟨w.heap.size, 1, none⟩) hlw).trans hcw; have HBW1 := Lib.hid hbw1; have HO1 := Lib.hid hown1; clear hb6 hbw1 hown1)
  all_goals
    go_wp2
    go_ret
    exact ⟨_, rfl, HO1.out.base (by have := HB6.out.size; omega), HBW.out.trans ((HB6.out.trans (HBW1.out.mono HB6.out.size)).mono (by omega))⟩

/-- A row of five bytes that was laid just so. -/
theorem five_own (w : World) (B : Nat) (hB : B ≤ w.heap.size) (a b c d e : UInt8) (a' b' c' d' e' : Int) (ha : (a.toNat : Int) = a') (hb : (b.toNat : Int) = b') (hc : (c.toNat : Int) = c') (hd : (d.toNat : Int) = d') (he : (e.toNat : Int) = e') : OwnsT (w.alloc (.cells #[.int .u8 a', .int .u8 b', .int .u8 c', .int .u8 d', .int .u8 e'] 5 (5, 6))) B (.slice (some ⟨w.heap.size, 0, none⟩) 5 5) [a, b, c, d, e] := by
  subst ha hb hc hd he
  have hn := World.alloc_heap_new w (.cells #[.int .u8 a.toNat, .int .u8 b.toNat, .int .u8 c.toNat, .int .u8 d.toNat, .int .u8 e.toNat] 5 (5, 6))
  have hcell : ∀ j, (w.alloc (.cells #[.int .u8 a.toNat, .int .u8 b.toNat, .int .u8 c.toNat, .int .u8 d.toNat, .int .u8 e.toNat] 5 (5, 6))).cell? ⟨w.heap.size, j, none⟩ = (#[Value.int .u8 a.toNat, .int .u8 b.toNat, .int .u8 c.toNat, .int .u8 d.toNat, .int .u8 e.toNat])[j]? := fun j => by
    unfold World.cell?
    simp only [hn]
    rfl
  have hfive : ∀ j, j < 5 → j = 0 ∨ j = 1 ∨ j = 2 ∨ j = 3 ∨ j = 4 := fun j hj => by omega
  refine ⟨w.heap.size, 5, rfl, hB, by simp, Nat.le_refl _, by unfold maxLen; omega, fun j hj => ⟨?_, ?_⟩, fun j hj => ?_⟩
  · rcases hfive j hj with rfl | rfl | rfl | rfl | rfl <;> (rw [hcell]; rfl)
  · unfold World.frozen?
    simp only [hn]
    rcases hfive j hj with rfl | rfl | rfl | rfl | rfl <;> rfl
  · rcases hfive j hj with rfl | rfl | rfl | rfl | rfl <;> (rw [hcell]; rfl)

set_option maxRecDepth 100000 in
set_option maxHeartbeats 4000000 in
theorem rbytes_nils (k : Int) (m : UInt8) (hk : k = 5 ∧ m = 36 ∨ k = 7 ∧ m = 42) (T : ByteArray) (n : Int) (LA : Option Addr) (j cap : Nat) (w : World) :
    BytesTells (.agg #[.int .i64 k, .string T, .int .i64 n, .slice LA j cap]) [m, 45, 49, 13, 10] w := by
  have HO := Lib.hid (fun m' hm' => five_own (w.alloc (.cells #[.int .i64 k, .string T, .int .i64 n, .slice LA j cap] 25)) w.heap.size (by simp) m 45 49 13 10 m' 45 49 13 10 hm' rfl rfl rfl rfl)
  have HB := Lib.hid (fun o => ((Below.refl w.heap.size w).alloc (Nat.le_refl _) (.cells #[.int .i64 k, .string T, .int .i64 n, .slice LA j cap] 25)).alloc (by simp) o)
  have hcv := fun (w : World) (C : Array Value) (n c : Nat) => Lib.run_convert_bytes_const (P := Tryd.prog) w 26 5 C n c Tryd.underlying26 Tryd.underlying5
  have hcv1 := hcv (w.alloc (.cells #[.int .i64 k, .string T, .int .i64 n, .slice LA j cap] 25))
  simp only [World.size_alloc] at hcv1
  clear hcv
  unfold BytesTells
  rcases hk with ⟨rfl, rfl⟩ | ⟨rfl, rfl⟩
  all_goals
    go_enter Tryd.func16, Tryd.ntmps16
    go_wp2
    go_ret
    have := HO.out _ rfl
    rw [World.size_alloc] at this
    exact ⟨_, rfl, this, HB.out _⟩

set_option maxRecDepth 100000 in
set_option maxHeartbeats 8000000 in
theorem rbytes_arrayI (k : Int) (hk : ¬ (k = 1 ∨ k = 2 ∨ k = 3 ∨ k = 4 ∨ k = 5 ∨ k = 7)) (T : ByteArray) (num : Int) (LA : Option Addr) (b o n cap : Nat) (p : Parts) (ys : Nat → List UInt8) (w : World) (hLA : 0 < n → LA = some ⟨b, o, none⟩) (hc : p.At w b o n) (hbig : n ≤ 1048576) (hle : (catN ys n).length ≤ 100000000)
    (hM : ∀ i, i < n → ∀ w', Below w.heap.size w w' → BytesTells (p.val i) (ys i) w') : BytesTells (.agg #[.int .i64 k, .string T, .int .i64 num, .slice LA n cap]) (42 :: (Lib.itoa (n : Int) ++ 13 :: 10 :: catN ys n)) w := by
  have HC := Lib.hid hc
  have HLA := Lib.hid hLA
  have HMM := Lib.hid hM
  have k1 : (k == 1) = false := by rw [beq_eq_false_iff_ne]; omega
  have k2 : (k == 2) = false := by rw [beq_eq_false_iff_ne]; omega
  have k3 : (k == 3) = false := by rw [beq_eq_false_iff_ne]; omega
  have k4 : (k == 4) = false := by rw [beq_eq_false_iff_ne]; omega
  have k5 : (k == 5) = false := by rw [beq_eq_false_iff_ne]; omega
  have k7 : (k == 7) = false := by rw [beq_eq_false_iff_ne]; omega
  have hi22 := itoa_le n (by omega)
  obtain ⟨S0, hS0⟩ : ∃ S0 : ByteArray, ⟨(Lib.itoa (n : Int)).toArray⟩ = S0 := ⟨_, rfl⟩
  have hz0 : S0.size ≤ 20 := by rw [← hS0]; exact hi22
  have HTX := Lib.hid (fun w5 => refText_any n w5 (by omega) (by omega))
  rw [hS0] at HTX
  obtain ⟨S1, hS1⟩ : ∃ S1 : ByteArray, { data := #[42] } ++ S0 = S1 := ⟨_, rfl⟩
  have hz1 : S1.size ≤ 21 := by rw [← hS1, ByteArray.size_append]; show 1 + S0.size ≤ 21; omega
  obtain ⟨S2, hS2⟩ : ∃ S2 : ByteArray, S1 ++ { data := #[13, 10] } = S2 := ⟨_, rfl⟩
  have hA1 : ∀ w, (Op.stringOp .add { data := #[42] } S0).run Tryd.prog w = .ok (.string S1) w := fun w => by rw [← hS1]; exact run_string_add_sum _ _ _ (by show 1 + S0.size ≤ _; omega)
  have hA2 : ∀ w, (Op.stringOp .add S1 { data := #[13, 10] }).run Tryd.prog w = .ok (.string S2) w := fun w => by rw [← hS2]; exact run_string_add_sum _ _ _ (by show S1.size + 2 ≤ _; omega)
  obtain ⟨W, hW⟩ : ∃ W : Nat → List UInt8, ∀ k, 42 :: (Lib.itoa (n : Int) ++ 13 :: 10 :: catN ys k) = W k := ⟨fun k => 42 :: (Lib.itoa (n : Int) ++ 13 :: 10 :: catN ys k), fun _ => rfl⟩
  have hx1 : S2.data.toList = W 0 := by rw [← hW 0, ← hS2, ← hS1, ← hS0]; simp [catN]
  have HLW : Hid (∀ k, k ≤ n → (W k).length ≤ 100000100) := fun k hk => by
    rw [← hW k]
    have h2 := catN_le ys hk
    simp only [List.length_append, List.length_cons]
    omega
  have hl0 := HLW.out 0 (by omega)
  have HST : Hid (∀ k, W (k + 1) = W k ++ ys k) := fun k => by rw [← hW, ← hW, catN]; simp
  have HTB := Lib.hid (fun w1 => text_bytes w1 S2 _ hx1 (by omega))
  rw [hW n]
  clear hc hLA hM hS0 hS1 hS2 hx1 hi22 hW hle
  unfold BytesTells
  go_enter Tryd.func16, Tryd.ntmps16
  go_wp2_with fail
  refine (HTX.out _).mono ?_
  obtain ⟨wb, hwb⟩ : ∃ wb, w.alloc (.cells #[.int .i64 k, .string T, .int .i64 num, .slice LA n cap] 25) = wb := ⟨_, rfl⟩
  have hcw : wb.cell? ⟨w.heap.size, 3, none⟩ = some (.slice LA n cap) := by rw [← hwb]; exact (cell_in (World.alloc_heap_new w _)).trans rfl
  have hbw : Below w.heap.size w wb := by rw [← hwb]; exact (Below.refl _ _).alloc (Nat.le_refl _) _
  have hzb : wb.heap.size = w.heap.size + 1 := by rw [← hwb]; simp
  rw [hwb]
  clear hwb
  rintro e w1 ⟨rfl, hb1⟩
  obtain ⟨C, W1, hcv, hbw1, hown1⟩ := HTB.out w1
  have hz1 := hb1.size
  have HB1 := Lib.hid (show Below (w.heap.size + 1) wb W1 from by rw [← hzb]; exact hb1.trans (hbw1.mono hz1))
  have HO1 := Lib.hid (hown1.base (show w.heap.size + 1 ≤ w1.heap.size by omega))
  have HBW := Lib.hid hbw
  have HCW := Lib.hid hcw
  have hlb : w.heap.size < wb.heap.size := by omega
  clear hb1 hbw1 hown1 hbw hcw hzb hz1
  go_wp2
  clear hA1 hA2 hcv k1 k2 k3 k4 k5 k7
  go_loopw [3, 4] (fun v i wr => ∃ k : Nat, i = .int .i64 k ∧ k ≤ n ∧ OwnsT wr (w.heap.size + 1) v (W k) ∧ Below (w.heap.size + 1) wb wr) (fun _ i _ => n - (intOf i).toNat)
  case atStart => exact ⟨0, rfl, by omega, HO1.out, HB1.out⟩
  case round =>
    obtain ⟨q, rfl, hq, hown, hbl⟩ := hrel
    have hbox := (hbl.cell (p := ⟨w.heap.size, 3, none⟩) (by simp)).trans HCW.out
    have HBL := Lib.hid hbl
    have HOW := Lib.hid hown
    have hzr := hbl.size
    obtain ⟨g0, c0, rfl, _⟩ := hown
    clear hbl HO1 HB1
    by_cases hlt : q < n
    · obtain rfl : LA = some ⟨b, o, none⟩ := HLA.out (by omega)
      have hbw : b < w.heap.size := World.block_lt_of_cell? w _ (HC.out q hlt).1
      have hwr : Below w.heap.size w wr := HBW.out.trans (HBL.out.mono (by omega))
      obtain ⟨d0, d1, d2, d3⟩ := (HC.out.below hwr hbw) q hlt
      have hle := HLW.out q (by omega)
      have hle2 := HLW.out (q + 1) (by omega)
      have HSQ := Lib.hid (HST.out q)
      have HRB := Lib.hid (HMM.out q hlt wr hwr)
      have hyq : (W q).length + (ys q).length ≤ 100000100 := by rw [HSQ.out, List.length_append] at hle2; exact hle2
      unfold Parts.val BytesTells at HRB
      generalize p.k q = k0 at d0 HRB
      generalize p.t q = t0 at d1 HRB
      generalize p.n q = n0 at d2 HRB
      generalize p.a q = a0 at d3 HRB
      generalize p.m q = m0 at d3 HRB
      generalize p.c q = cc0 at d3 HRB
      clear hwr
      go_wp2_with fail
      refine HRB.out.mono ?_
      rintro e w3 ⟨v3, rfl, hown3, hb3⟩
      have HO3 := Lib.hid hown3
      have HOW3 := Lib.hid (HOW.out.below hb3)
      have HB3 := Lib.hid (HBL.out.trans (hb3.mono (by omega)))
      have hboxw := (hb3.cell (p := ⟨w.heap.size, 3, none⟩) (by simp; omega)).trans hbox
      obtain ⟨g3, c3, rfl, _⟩ := hown3
      clear hb3 hbox d0 d1 d2 d3
      go_wp2_with (at_builtin; refine wpList_append_TS rfl _ _ rfl (w.heap.size + 1) _ (W q) rfl HOW3.out wr.heap.size _ (ys q) rfl HO3.out ?c1 ?_)
      case c1 => omega
      intro v4 w4 hown4 hb4 hz4
      rw [← HSQ.out] at hown4
      have HO4 := Lib.hid hown4
      have HB4 := Lib.hid (HB3.out.trans hb4)
      obtain ⟨g4, c4, rfl, _⟩ := hown4
      clear hb4
      go_wp2
      go_roundw
      case rel => exact ⟨q + 1, by go_num, by omega, HO4.out, HB4.out⟩
      case measure => simp only [intOf]; omega
    · obtain rfl : q = n := by omega
      go_wp2
      go_ret
      exact ⟨_, rfl, HOW.out.base (by omega), HBW.out.trans (HBL.out.mono (by omega))⟩

theorem rbytes_I : ∀ (N : Nat) (x : RI), bulkI x ≤ N → N ≤ 1048576 → ∀ (w0 : World) (cs : List Value), RepI w0 x cs → ∀ w, Below w0.heap.size w0 w → BytesTells (.agg cs.toArray) (writeI x) w := by
  intro N
  induction N with
  | zero => intro x hx; have := bulkI_pos x; omega
  | succ N ih =>
    intro x hx hN w0 cs h w hb
    have hwl := writeI_le h (by omega)
    obtain ⟨k, t, n, l⟩ := x
    obtain ⟨T, A, g, o, c, p, rfl, hT, hl, hm, hn, hA, hAt, hc⟩ := h.row
    rw [bulkI] at hx hwl
    rw [writeI] at hwl ⊢
    by_cases h1 : k = 1
    · rw [if_pos h1]; exact rbytes_line k 43 (Or.inl ⟨h1, rfl⟩) T t n A _ c w hT (by omega)
    · rw [if_neg h1] at hwl ⊢
      by_cases h2 : k = 2
      · rw [if_pos h2]; exact rbytes_line k 45 (Or.inr ⟨h2, rfl⟩) T t n A _ c w hT (by omega)
      · rw [if_neg h2] at hwl ⊢
        by_cases h3 : k = 3
        · subst h3; rw [if_pos rfl]; exact rbytes_int T n A _ c w hn.1 hn.2
        · rw [if_neg h3] at hwl ⊢
          by_cases h4 : k = 4
          · subst h4; rw [if_pos rfl]; exact rbytes_bulkI t T n A _ c w hT (by omega)
          · rw [if_neg h4] at hwl ⊢
            by_cases h5 : k = 5
            · rw [if_pos h5]; exact rbytes_nils k 36 (Or.inl ⟨h5, rfl⟩) T n A _ c w
            · rw [if_neg h5] at hwl ⊢
              by_cases h7 : k = 7
              · rw [if_pos h7]; exact rbytes_nils k 42 (Or.inr ⟨h7, rfl⟩) T n A _ c w
              · rw [if_neg h7] at hwl ⊢
                have hx : ∀ j, j < l.length → ∃ x, l[j]? = some x := fun j hj => ⟨_, List.getElem?_eq_getElem hj⟩
                have hcat := writeIs_get l (fun j => match l[j]? with | some x => writeI x | none => []) (fun j x hx => by simp only [hx])
                have hq := rbytes_arrayI k (by omega) T n A g o l.length c p (fun j => match l[j]? with | some x => writeI x | none => []) w (fun q => (hA q).1) (fun i hi => (hAt.below hb (hA (by omega)).2) i hi) (by have := bulkIs_len l; omega)
                  (by rw [hcat]; simp only [List.length_cons, List.length_append] at hwl; omega)
                  (fun j hj w2 hb2 => by
                    obtain ⟨x, hx⟩ := hx j hj
                    have h2 := ih x (by have := bulkIs_mem (List.mem_of_getElem? hx); omega) (by omega) w0 _ (hc j x hx) w2 (hb.trans (hb2.mono hb.size))
                    unfold Parts.val
                    simp only [hx]
                    exact h2)
                rw [hcat] at hq
                exact hq

set_option maxRecDepth 100000 in
set_option maxHeartbeats 2000000 in
theorem rencode_of (k : Int) (T : ByteArray) (n : Int) (A : Option Addr) (m c : Nat) (E : Int) (Y : List UInt8) (w : World)
    (HC : ∀ w', Below w.heap.size w w' → Calls Tryd.prog 9 #[.agg #[.int .i64 k, .string T, .int .i64 n, .slice A m c]] w' fun e w2 => e = .returned (.int .i64 E) ∧ Below w'.heap.size w' w2)
    (HP : ∀ w', Below w.heap.size w w' → BytesTells (.agg #[.int .i64 k, .string T, .int .i64 n, .slice A m c]) Y w') :
    Calls Tryd.prog 7 #[.agg #[.int .i64 k, .string T, .int .i64 n, .slice A m c]] w fun e w' => Below w.heap.size w w' ∧
      (E ≠ 0 ∧ e = .returned (.tuple #[.slice none 0 0, .int .i64 E]) ∨ E = 0 ∧ ∃ v, e = .returned (.tuple #[v, .int .i64 0]) ∧ OwnsT w' w.heap.size v Y) := by
  obtain ⟨wb, hwb⟩ : ∃ wb, w.alloc (.cells #[.int .i64 k, .string T, .int .i64 n, .slice A m c] 25) = wb := ⟨_, rfl⟩
  have hnew : wb.heap[w.heap.size]? = some (.cells #[.int .i64 k, .string T, .int .i64 n, .slice A m c] 25) := by rw [← hwb]; exact World.alloc_heap_new w _
  have hbw : Below w.heap.size w wb := by rw [← hwb]; exact (Below.refl _ _).alloc (Nat.le_refl _) _
  have hlt : w.heap.size < wb.heap.size := by rw [← hwb]; simp
  have HW := Lib.hid hwb
  have HNEW := Lib.hid hnew
  have HBW := Lib.hid hbw
  have HHC := Lib.hid HC
  have HHP := Lib.hid HP
  clear hwb hnew hbw HC HP
  go_enter Tryd.func7, Tryd.ntmps7
  go_wp2_with fail
  rw [HW.out]
  refine Calls.mono (HHC.out wb HBW.out) ?_
  rintro e w2 ⟨rfl, hb2⟩
  have HB2 := Lib.hid (HBW.out.trans (hb2.mono (by omega)))
  have r0 : w2.cell? ⟨w.heap.size, 0, none⟩ = some (.int .i64 k) := (hb2.cell (p := ⟨w.heap.size, 0, none⟩) hlt).trans (cell_in HNEW.out)
  have r1 : w2.cell? ⟨w.heap.size, 1, none⟩ = some (.string T) := (hb2.cell (p := ⟨w.heap.size, 1, none⟩) hlt).trans (cell_in HNEW.out)
  have r2 : w2.cell? ⟨w.heap.size, 2, none⟩ = some (.int .i64 n) := (hb2.cell (p := ⟨w.heap.size, 2, none⟩) hlt).trans (cell_in HNEW.out)
  have r3 : w2.cell? ⟨w.heap.size, 3, none⟩ = some (.slice A m c) := (hb2.cell (p := ⟨w.heap.size, 3, none⟩) hlt).trans (cell_in HNEW.out)
  have hz2 := hb2.size
  clear hb2
  by_cases hE : E = 0
  · subst hE
    have HR := Lib.hid (HHP.out w2 HB2.out)
    unfold BytesTells at HR
    go_wp2_with fail
    refine HR.out.mono ?_
    rintro e w3 ⟨v3, rfl, hown3, hb3⟩
    have HB3 := Lib.hid (HB2.out.trans (hb3.mono (by omega)))
    have HO3 := Lib.hid (hown3.base (show w.heap.size ≤ w2.heap.size by omega))
    obtain ⟨g3, c3, rfl, _⟩ := hown3
    clear hb3 r0 r1 r2 r3
    go_wp2
    go_ret2
    exact ⟨HB3.out, _, rfl, HO3.out⟩
  · have hE' : (E != 0) = true := by simp [hE]
    go_wp2
    go_ret2
    exact ⟨HB2.out, Or.inl ⟨hE, rfl⟩⟩

theorem rencode_I (x : RI) (hbk : bulkI x ≤ 1048576) (w : World) (cs : List Value) (h : RepI w x cs) :
    Calls Tryd.prog 7 #[.agg cs.toArray] w fun e w' => Below w.heap.size w w' ∧
      (checkI x ≠ 0 ∧ e = .returned (.tuple #[.slice none 0 0, .int .i64 (checkI x)]) ∨ checkI x = 0 ∧ ∃ v, e = .returned (.tuple #[v, .int .i64 0]) ∧ OwnsT w' w.heap.size v (writeI x)) := by
  have h1 := fun w' (hb : Below w.heap.size w w') => rcheck_I x hbk w cs h w' hb
  have h2 := fun w' (hb : Below w.heap.size w w') => rbytes_I _ x hbk (Nat.le_refl _) w cs h w' hb
  obtain ⟨k, T, n, A, m, c, rfl⟩ := h.parts
  exact rencode_of k T n A m c (checkI x) (writeI x) w h1 h2

end Go.Proofs.YtbldahkgilkclaaDoor
