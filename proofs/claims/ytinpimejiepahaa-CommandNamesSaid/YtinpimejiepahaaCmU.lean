/-
  CommandTables' walk. No condition.
-/
import Derived.Test.YtinpimejiepahaaCmQ
import Derived.Test.YtinpimejiepahaaCmJ
namespace Go.Proofs.Ytinpimejiepahaa
open Go.RowKit

theorem agg_eq (X : World) (T : ByteArray) (g ar f la st : Int) (wr : Bool) : (binOp .eql 27 (.agg #[.string T, .int .i64 g, .int .i64 ar, .bool wr, .int .i64 f, .int .i64 la, .int .i64 st]) (.agg #[.string T, .int .i64 g, .int .i64 ar, .bool wr, .int .i64 f, .int .i64 la, .int .i64 st])).run Try.prog X = .ok (.bool true) X := by
  have k0 : (T.toList == T.toList) = true := by simp
  go_simp
theorem agg_ne (X : World) (T : ByteArray) (g ar f la st : Int) (wr : Bool) : (binOp .neq 27 (.agg #[.string T, .int .i64 g, .int .i64 ar, .bool wr, .int .i64 f, .int .i64 la, .int .i64 st]) (.agg #[.string T, .int .i64 g, .int .i64 ar, .bool wr, .int .i64 f, .int .i64 la, .int .i64 st])).run Try.prog X = .ok (.bool false) X := by
  have k0 : (T.toList == T.toList) = true := by simp
  go_simp

set_option maxRecDepth 100000 in
set_option maxHeartbeats 16000000 in
theorem tables_any (w : World) (s : ByteArray) :
    Calls Try.prog 3 #[.string s] w fun e w' => e = .returned (.bool true) ∧ Below w.heap.size w w' := by
  obtain ⟨x, rfl⟩ : ∃ x : Tx, s = ⟨x.toArray⟩ := ⟨s.data.toList, by cases s; simp⟩
  have HCU := Lib.hid (cut_any x)
  obtain ⟨y, hy⟩ : ∃ y, x.take 1000 = y := ⟨_, rfl⟩
  have hyl : y.length ≤ 1000 := by rw [← hy, List.length_take]; omega
  rw [hy] at HCU
  have HAL := Lib.hid alive_any
  have HA := Lib.hid all_any
  have HRA := Lib.hid rall_any
  have HLK := Lib.hid (fun X => look_any y (by omega) X)
  have HRK := Lib.hid (fun X => rlook_any y (by omega) X)
  have HLO := Lib.hid (fun X => lower_any y (by omega) X)
  have HRO := Lib.hid (fun X => rlower_any y (by omega) X)
  have HPL := Lib.hid (fun X => plain_any y (by omega) X)
  have HRP := Lib.hid (fun X => rplain_any y (by omega) X)
  obtain ⟨⟨nm, g, ar, f7_, la, st⟩, hsp⟩ : ∃ p : Tx × Int × Int × (Bool × Int) × Int × Int, lkS y = (p.1, p.2.1, p.2.2.1, p.2.2.2.1.1, p.2.2.2.1.2, p.2.2.2.2.1, p.2.2.2.2.2) := by
    obtain ⟨a, b, c, d, e, f, g⟩ := lkS y
    exact ⟨(a, b, c, (d, e), f, g), rfl⟩
  obtain ⟨wr_, f⟩ := f7_
  dsimp only at hsp
  obtain ⟨bb, hbb⟩ : ∃ bb, lkB y = bb := ⟨_, rfl⟩
  rw [hsp, hbb] at HLK HRK
  unfold aggS encS at HLK HRK
  dsimp only at HLK HRK
  obtain ⟨T, hT⟩ : ∃ T : ByteArray, (⟨nm.toArray⟩ : ByteArray) = T := ⟨_, rfl⟩
  obtain ⟨YS, hYS⟩ : ∃ T : ByteArray, (⟨y.toArray⟩ : ByteArray) = T := ⟨_, rfl⟩
  obtain ⟨LO, hLO⟩ : ∃ T : ByteArray, (⟨(lowL y).toArray⟩ : ByteArray) = T := ⟨_, rfl⟩
  obtain ⟨PO, hPO⟩ : ∃ T : ByteArray, (⟨(plnL y).toArray⟩ : ByteArray) = T := ⟨_, rfl⟩
  obtain ⟨XS, hXS⟩ : ∃ T : ByteArray, (⟨x.toArray⟩ : ByteArray) = T := ⟨_, rfl⟩
  rw [hT, hYS] at HLK HRK
  rw [hYS, hLO] at HLO HRO
  rw [hYS, hPO] at HPL HRP
  rw [hXS, hYS] at HCU
  rw [hXS]
  have hLL : (LO.toList == LO.toList) = true := by simp
  have hPP : (PO.toList == PO.toList) = true := by simp
  have hEqS := agg_eq
  obtain ⟨B, hB⟩ : ∃ B, w.heap.size = B := ⟨_, rfl⟩
  have HBW := Lib.hid hB
  rw [hB]
  clear hy hsp hbb hT hYS hLO hPO hXS hB hyl
  go_enter Try.func3, Try.ntmps3
  go_wp2_with fail
  refine (HCU.out _).mono ?_
  rintro e w0 ⟨rfl, rfl⟩
  go_wp2_with fail
  refine (HA.out _).mono ?_
  rintro e w1 ⟨A1, c1, rfl, h1, hb1, -⟩
  have HT1 := Lib.hid h1
  have HB1 : Hid (Below B w0 w1) := by unfold Hid; rw [← HBW.out]; exact hb1
  clear h1 hb1
  go_wp2_with fail
  refine (HRA.out _).mono ?_
  rintro e w2 ⟨A2, c2, rfl, h2, hb2, -⟩
  have HT2 := Lib.hid h2
  have HT12 := Lib.hid (HT1.out.below hb2)
  have HB2 : Hid (Below B w0 w2) := HB1.out.trans (hb2.mono (by have := HB1.out.size; have := HBW.out; omega))
  have hl1 := HT12.out.le
  have hl2 := h2.le
  have hm1 := HT12.out.max
  have hm2 := h2.max
  clear h2 hb2
  go_wp2_with fail
  go_loopw [5] (fun iv wr => ∃ i : Nat, iv = .int .i64 (i : Nat) ∧ i ≤ 99 ∧ Below w2.heap.size w2 wr) (fun iv _ => 99 - (intOf iv).toNat)
  case atStart => exact ⟨0, rfl, by omega, Below.refl _ _⟩
  case round =>
    obtain ⟨i, rfl, hi, hb⟩ := hrel
    have HB := Lib.hid hb
    by_cases hlt : i < 99
    · have hlt' : (i : Int) < 99 := by omega
      have hi0 : (0 : Int) ≤ (i : Int) := by omega
      obtain ⟨⟨nm2, g2, ar2, wr2, f2, la2, st2⟩, hx⟩ := HT2.out.get hlt
      obtain ⟨b1, o1, rfl, _, hc1⟩ := (HT12.out.below hb).at_ (by omega)
      obtain ⟨b2, o2, rfl, _, hc2⟩ := (HT2.out.below hb).at_ (by omega)
      obtain ⟨T2, hT2⟩ : ∃ T : ByteArray, (⟨nm2.toArray⟩ : ByteArray) = T := ⟨_, rfl⟩
      obtain ⟨x0, x1, x2, x3, x4, x5, x6⟩ := SpAt.seven hc1 hx
      obtain ⟨y0, y1, y2, y3, y4, y5, y6⟩ := SpAt.seven hc2 hx
      dsimp only at x0 x1 x2 x3 x4 x5 x6 y0 y1 y2 y3 y4 y5 y6
      rw [hT2] at x0 y0
      have hne := agg_ne
      clear hx hc1 hc2 hT2 hb
      go_wp2_with fail
      go_quiet (fail)
      all_goals
        go_wp2
        go_roundw
        case rel => exact ⟨i + 1, by go_num, hlt, HB.out.trans (below_drewN _ _ _)⟩
        case measure => simp only [intOf]; omega
    · obtain rfl : i = 99 := by omega
      have HB3 : Hid (Below B w0 wr) := HB2.out.trans (hb.mono (by have := HB2.out.size; have := HBW.out; omega))
      clear hb
      go_wp2_with fail
      refine (HLK.out _).mono ?_
      rintro e w4 ⟨rfl, hb4⟩
      have HB4 : Hid (Below B w0 w4) := HB3.out.trans (hb4.mono (by have := HB3.out.size; have := HBW.out; omega))
      obtain ⟨Q, hQ⟩ : ∃ Q, w4.heap.size = Q := ⟨_, rfl⟩
      obtain ⟨w5, hw5⟩ : ∃ w5, w4.alloc (.cells #[.string T, .int .i64 g, .int .i64 ar, .bool wr_, .int .i64 f, .int .i64 la, .int .i64 st] 27) = w5 := ⟨_, rfl⟩
      have HX5 : Hid (Box7 w5 Q (.string T) (.int .i64 g) (.int .i64 ar) (.bool wr_) (.int .i64 f) (.int .i64 la) (.int .i64 st)) := by unfold Hid; rw [← hw5, ← hQ]; exact Box7.new ..
      have hb5 : Below w4.heap.size w4 w5 := by rw [← hw5]; exact (Below.refl _ _).alloc (Nat.le_refl _) _
      have HB5 : Hid (Below B w0 w5) := HB4.out.trans (hb5.mono (by have := HB4.out.size; have := HBW.out; omega))
      have HW5 := Lib.hid hw5
      clear hb4 hb5 hw5
      go_wp2_with fail
      rw [HW5.out]
      refine (HRK.out _).mono ?_
      rintro e w6 ⟨rfl, hb6⟩
      have HB6 : Hid (Below B w0 w6) := HB5.out.trans (hb6.mono (by have := HB5.out.size; have := HBW.out; omega))
      have hb7 : Below w5.heap.size w5 (w6.alloc (.cells #[.string T, .int .i64 g, .int .i64 ar, .bool wr_, .int .i64 f, .int .i64 la, .int .i64 st] 27)) := hb6.alloc hb6.size _
      obtain ⟨-, d0, d1, d2, d3, d4, d5, d6, -⟩ := HX5.out.below hb7
      have HB7 : Hid (Below B w0 (w6.alloc (.cells #[.string T, .int .i64 g, .int .i64 ar, .bool wr_, .int .i64 f, .int .i64 la, .int .i64 st] 27))) := HB6.out.alloc (by have := HB6.out.size; have := HBW.out; omega) _
      clear hb6 hb7
      go_wp2_with fail
      refine (HLO.out _).mono ?_
      rintro e w8 ⟨rfl, hb8⟩
      have HB8 : Hid (Below B w0 w8) := HB7.out.trans (hb8.mono (by have := HB7.out.size; have := HBW.out; omega))
      clear hb8 d0 d1 d2 d3 d4 d5 d6
      go_wp2_with fail
      refine (HRO.out _).mono ?_
      rintro e w9 ⟨rfl, hb9⟩
      have HB9 : Hid (Below B w0 w9) := HB8.out.trans (hb9.mono (by have := HB8.out.size; have := HBW.out; omega))
      clear hb9
      go_wp2_with fail
      refine (HPL.out _).mono ?_
      rintro e w10 ⟨rfl, hb10⟩
      have HB10 : Hid (Below B w0 w10) := HB9.out.trans (hb10.mono (by have := HB9.out.size; have := HBW.out; omega))
      clear hb10
      go_wp2_with fail
      refine (HRP.out _).mono ?_
      rintro e w11 ⟨rfl, hb11⟩
      have HB11 : Hid (Below B w0 w11) := HB10.out.trans (hb11.mono (by have := HB10.out.size; have := HBW.out; omega))
      clear hb11
      go_wp2_with fail
      refine (HAL.out _).mono ?_
      rintro e w12 ⟨rfl, hb12⟩
      have HB12 : Hid (Below B w0 w12) := HB11.out.trans (hb12.mono (by have := HB11.out.size; have := HBW.out; omega))
      clear hb12
      go_wp2
      go_ret
      exact ⟨rfl, HB12.out⟩

end Go.Proofs.Ytinpimejiepahaa
