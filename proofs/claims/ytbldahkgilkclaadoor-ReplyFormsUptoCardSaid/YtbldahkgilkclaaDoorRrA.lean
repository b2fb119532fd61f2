/-
  The walks of the document's own bytes at bulks and at arrays of bulks. Conditions: the row lies in memory as it reads.
-/
import Derived.Test.YtbldahkgilkclaaDoorRyC
import Derived.Deep.RegionHeld3
import Derived.Deep.RegionWith
import Derived.StillTactics
namespace Go.Proofs.YtbldahkgilkclaaDoor
open Go.RowKit

/-- A row of the call's own, all of whose cells may be written. -/
def RowedT (w : World) (y : List UInt8) (e : Ending) (w' : World) : Prop := ∃ v, e = .returned v ∧ OwnsT w' w.heap.size v y ∧ Below w.heap.size w w'

set_option maxRecDepth 100000 in
set_option maxHeartbeats 4000000 in
theorem rbytes_bulk (t : List UInt8) (T : ByteArray) (w : World) (hx : T.data.toList = t) (ht : t.length ≤ 65536) :
    Calls Tryd.prog 16 #[.agg #[.int .i64 4, .string T, .int .i64 0, .slice none 0 0]] w (RowedT w (bulkW t)) := by
  have hTs : T.size = t.length := by rw [← hx, Array.length_toList]; rfl
  have hts : T.size ≤ 65536 := by omega
  have hi22 := itoa_le T.size (by omega)
  obtain ⟨S0, hS0⟩ : ∃ S0 : ByteArray, ⟨(Lib.itoa (T.size : Int)).toArray⟩ = S0 := ⟨_, rfl⟩
  have hz0 : S0.size ≤ 20 := by rw [← hS0]; exact hi22
  have HTX := Lib.hid (fun w5 => refText_any T.size w5 (by omega) (by omega))
  rw [hS0] at HTX
  obtain ⟨S1, hS1⟩ : ∃ S1 : ByteArray, { data := #[36] } ++ S0 = S1 := ⟨_, rfl⟩
  have hz1 : S1.size ≤ 21 := by rw [← hS1, ByteArray.size_append]; show 1 + S0.size ≤ 21; omega
  obtain ⟨S2, hS2⟩ : ∃ S2 : ByteArray, S1 ++ { data := #[13, 10] } = S2 := ⟨_, rfl⟩
  have hz2 : S2.size ≤ 23 := by rw [← hS2, ByteArray.size_append]; show S1.size + 2 ≤ 23; omega
  obtain ⟨S3, hS3⟩ : ∃ S3 : ByteArray, S2 ++ T = S3 := ⟨_, rfl⟩
  have hz3 : S3.size ≤ 65559 := by rw [← hS3, ByteArray.size_append]; omega
  obtain ⟨S4, hS4⟩ : ∃ S4 : ByteArray, S3 ++ { data := #[13, 10] } = S4 := ⟨_, rfl⟩
  have hA1 : ∀ w, (Op.stringOp .add { data := #[36] } S0).run Tryd.prog w = .ok (.string S1) w := fun w => by rw [← hS1]; exact run_string_add_sum _ _ _ (by show 1 + S0.size ≤ _; omega)
  have hA2 : ∀ w, (Op.stringOp .add S1 { data := #[13, 10] }).run Tryd.prog w = .ok (.string S2) w := fun w => by rw [← hS2]; exact run_string_add_sum _ _ _ (by show S1.size + 2 ≤ _; omega)
  have hA3 : ∀ w, (Op.stringOp .add S2 T).run Tryd.prog w = .ok (.string S3) w := fun w => by rw [← hS3]; exact run_string_add_sum _ _ _ (by omega)
  have hA4 : ∀ w, (Op.stringOp .add S3 { data := #[13, 10] }).run Tryd.prog w = .ok (.string S4) w := fun w => by rw [← hS4]; exact run_string_add_sum _ _ _ (by show S3.size + 2 ≤ _; omega)
  have hx1 : S4.data.toList = bulkW t := by
    rw [bulkW_eq, ← hS4, ← hS3, ← hS2, ← hS1, ← hS0, hTs]; simp [hx]
  have hbl := bulkW_le t ht
  obtain ⟨Y, hY⟩ : ∃ Y, bulkW t = Y := ⟨_, rfl⟩
  rw [hY] at hx1 hbl ⊢
  have HX1 := Lib.hid hx1
  have hyl : Y.length ≤ 9223372036854775807 := by omega
  clear hx hTs hS0 hS1 hS2 hS3 hS4 hY hi22 hx1
  go_enter Tryd.func16, Tryd.ntmps16
  go_wp2
  obtain ⟨wb, hwb⟩ : ∃ wb, w.alloc (.cells #[.int .i64 4, .string T, .int .i64 0, .slice none 0 0] 25) = wb := ⟨_, rfl⟩
  have hcw : wb.cell? ⟨w.heap.size, 1, none⟩ = some (.string T) := by rw [← hwb]; exact (cell_in (World.alloc_heap_new w _)).trans rfl
  have hbw : Below w.heap.size w wb := by rw [← hwb]; exact (Below.refl _ _).alloc (Nat.le_refl _) _
  have hlw : w.heap.size < wb.heap.size := by rw [← hwb]; simp
  rw [hwb]
  have HBW := Lib.hid hbw
  clear hwb hbw
  go_region_with (go_at_call 25; refine (HTX.out _).mono ?_; rintro e w6 ⟨rfl, hb6⟩; obtain ⟨C, W1, hcv, hbw1, hown1⟩ := text_bytes w6 S4 Y HX1.out hyl; have HB6 := Lib.hid (show Below wb.heap.size wb w6 from (by first | exact ((Below.refl wb.heap.size wb).drew).trans hb6 | exact hb6)); have hcw6 := (HB6.out.cell (p := ⟨w.heap.size, 1, none⟩) hlw).trans hcw; have HBW1 := Lib.hid hbw1; have HO1 := Lib.hid hown1; clear hb6 hbw1 hown1)
  all_goals
    go_wp2
    go_ret
    exact ⟨_, rfl, HO1.out.base (by have := HB6.out.size; omega), HBW.out.trans ((HB6.out.trans (HBW1.out.mono HB6.out.size)).mono (by omega))⟩

set_option maxRecDepth 100000 in
set_option maxHeartbeats 8000000 in
theorem rbytes_array (LA : Option Addr) (b o n cap : Nat) (ws : List (List UInt8)) (w : World) (hn : ws.length = n) (hLA : 0 < n → LA = some ⟨b, o, none⟩) (hc : BulksAt w b o ws) (hbig : n ≤ 1024) (hsz : ∀ t ∈ ws, t.length ≤ 65536) :
    Calls Tryd.prog 16 #[.agg #[.int .i64 6, .string ⟨#[]⟩, .int .i64 0, .slice LA n cap]] w (RowedT w (writeB ws)) := by
  have HC := Lib.hid hc
  have HN := Lib.hid hn
  have HLA := Lib.hid hLA
  have HSZ := Lib.hid hsz
  have HLE := Lib.hid (fun k hk => writeK_le ws hsz (by omega) k hk)
  have hi22 := itoa_le n (by omega)
  obtain ⟨S0, hS0⟩ : ∃ S0 : ByteArray, ⟨(Lib.itoa (n : Int)).toArray⟩ = S0 := ⟨_, rfl⟩
  have hz0 : S0.size ≤ 20 := by rw [← hS0]; exact hi22
  have HTX := Lib.hid (fun w5 => refText_any n w5 (by omega) (by omega))
  rw [hS0] at HTX
  obtain ⟨S1, hS1⟩ : ∃ S1 : ByteArray, { data := #[42] } ++ S0 = S1 := ⟨_, rfl⟩
  have hz1 : S1.size ≤ 21 := by rw [← hS1, ByteArray.size_append]; show 1 + S0.size ≤ 21; omega
  obtain ⟨S2, hS2⟩ : ∃ S2 : ByteArray, S1 ++ { data := #[13, 10] } = S2 := ⟨_, rfl⟩
  have hA1 : ∀ w, (Op.stringOp .add { data := #[42] } S0).run Tryd.prog w = .ok (.string S1) w := fun w => by rw [← hS1]; exact run_string_add_sum _ _ _ (by show 1 + S0.size ≤ _; omega)
  have hA2 : ∀ w, (Op.stringOp .add S1 { data := #[13, 10] }).run Tryd.prog w = .ok (.string S2) w := fun w => by rw [← hS2]; exact run_string_add_sum _ _ _ (by show S1.size + 2 ≤ _; omega)
  have hx1 : S2.data.toList = writeK ws 0 := by rw [writeK_zero, ← hS2, ← hS1, ← hS0, hn]; simp
  have hl0 := HLE.out 0 (by omega)
  have HTB := Lib.hid (fun w1 => text_bytes w1 S2 _ hx1 (by omega))
  clear hc hn hLA hsz hS0 hS1 hS2 hx1 hi22
  go_enter Tryd.func16, Tryd.ntmps16
  go_wp2_with fail
  refine (HTX.out _).mono ?_
  obtain ⟨wb, hwb⟩ : ∃ wb, w.alloc (.cells #[.int .i64 6, .string ⟨#[]⟩, .int .i64 0, .slice LA n cap] 25) = wb := ⟨_, rfl⟩
  have hcw : wb.cell? ⟨w.heap.size, 3, none⟩ = some (.slice LA n cap) := by rw [← hwb]; exact (cell_in (World.alloc_heap_new w _)).trans rfl
  have hbw : Below w.heap.size w wb := by rw [← hwb]; exact (Below.refl _ _).alloc (Nat.le_refl _) _
  have hzb : wb.heap.size = w.heap.size + 1 := by rw [← hwb]; simp
  rw [hwb]
  clear hwb
  rintro e w1 ⟨rfl, hb1⟩
  obtain ⟨C, W1, hcv, hbw1, hown1⟩ := HTB.out w1
  have hz1 := hb1.size
  have HB1 := Lib.hid (show Below (w.heap.size + 1) wb W1 from by rw [← hzb]; exact hb1.trans (hbw1.mono hz1))
  have HO1 := Lib.hid (hown1.base (show w.heap.size + 1 ≤ w1.heap.size by omega))
  have HBW := Lib.hid hbw
  have HCW := Lib.hid hcw
  have hlb : w.heap.size < wb.heap.size := by omega
  clear hb1 hbw1 hown1 hbw hcw hzb hz1
  go_wp2
  clear hA1 hA2 hcv
  go_loopw [3, 4] (fun v i wr => ∃ k : Nat, i = .int .i64 k ∧ k ≤ n ∧ OwnsT wr (w.heap.size + 1) v (writeK ws k) ∧ Below (w.heap.size + 1) wb wr) (fun _ i _ => n - (intOf i).toNat)
  case atStart => exact ⟨0, rfl, by omega, HO1.out, HB1.out⟩
  case round =>
    obtain ⟨k, rfl, hk, hown, hbl⟩ := hrel
    have hbox := (hbl.cell (p := ⟨w.heap.size, 3, none⟩) (by simp)).trans HCW.out
    have HBL := Lib.hid hbl
    have HOW := Lib.hid hown
    have hzr := hbl.size
    obtain ⟨g0, c0, rfl, _⟩ := hown
    clear hbl HO1 HB1
    by_cases hlt : k < n
    · obtain rfl : LA = some ⟨b, o, none⟩ := HLA.out (by omega)
      obtain ⟨t, ht⟩ : ∃ t, ws[k]? = some t := ⟨_, List.getElem?_eq_getElem (by rw [HN.out]; exact hlt)⟩
      have hbw : b < w.heap.size := World.block_lt_of_cell? w _ (HC.out k t ht).1
      obtain ⟨d0, d1, d2, d3⟩ := ((HC.out.below HBW.out hbw).below HBL.out (by omega)) k t ht
      obtain ⟨T, hT⟩ : ∃ T : ByteArray, ⟨t.toArray⟩ = T := ⟨_, rfl⟩
      have hTl : T.data.toList = t := by rw [← hT]
      have htl := HSZ.out t (List.mem_of_getElem? ht)
      unfold strV at d1
      rw [hT] at d1
      have hle := HLE.out k (by rw [HN.out]; omega)
      have hle2 := HLE.out (k + 1) (by rw [HN.out]; omega)
      have HST : Hid (writeK ws (k + 1) = writeK ws k ++ bulkW t) := by unfold Hid; rw [writeK_step ws k t ht, bulkW_eq]; simp
      have HRB := Lib.hid (rbytes_bulk t T wr hTl htl)
      have hbwl := bulkW_le t htl
      clear ht hT hTl
      go_wp2_with fail
      refine HRB.out.mono ?_
      rintro e w3 ⟨v3, rfl, hown3, hb3⟩
      have HO3 := Lib.hid hown3
      have HOW3 := Lib.hid (HOW.out.below hb3)
      have HB3 := Lib.hid (HBL.out.trans (hb3.mono (by omega)))
      have hboxw := (hb3.cell (p := ⟨w.heap.size, 3, none⟩) (by simp; omega)).trans hbox
      obtain ⟨g3, c3, rfl, _⟩ := hown3
      clear hb3 hbox d0 d1 d2 d3
      go_wp2_with (at_builtin; refine wpList_append_TS rfl _ _ rfl (w.heap.size + 1) _ (writeK ws k) rfl HOW3.out wr.heap.size _ (bulkW t) rfl HO3.out ?c1 ?_)
      case c1 => omega
      intro v4 w4 hown4 hb4 hz4
      rw [← HST.out] at hown4
      have HO4 := Lib.hid hown4
      have HB4 := Lib.hid (HB3.out.trans hb4)
      obtain ⟨g4, c4, rfl, _⟩ := hown4
      clear hb4
      go_wp2
      go_roundw
      case rel => exact ⟨k + 1, by go_num, by omega, HO4.out, HB4.out⟩
      case measure => simp only [intOf]; omega
    · obtain rfl : k = n := by omega
      have HOF := Lib.hid (show OwnsT wr (w.heap.size + 1) (.slice (some ⟨g0, 0, none⟩) (writeK ws k).length c0) (writeB ws) from by
        have := HOW.out
        have hw := writeK_all ws
        rw [HN.out] at hw
        rwa [hw] at this ⊢)
      go_wp2
      go_ret
      exact ⟨_, rfl, HOF.out.base (by omega), HBW.out.trans (HBL.out.mono (by omega))⟩

end Go.Proofs.YtbldahkgilkclaaDoor
