/-
  RingStream: its walk. Condition: the slices read as bytes.
-/
import Derived.Test.YtbecjaamheibmaaRbC
namespace Go.Proofs.Ytbecjaamheibmaa
open Go.RowKit

/-- Behind feeding the first bytes of a text: the ring, its base. -/
structure StrAt (W : World) (base p s : Nat) (b : Tx) (k : Nat) (wr : World) (F : Nat → Prop) : Prop where
  ring : RgOn wr base F p s ⟨3, k, 0, 0⟩ (b.take k)
  low : Below base W wr

set_option maxRecDepth 100000 in
set_option maxHeartbeats 16000000 in
theorem stream_any {A : Option Addr} {n c : Nat} {l : Tx} {A2 : Option Addr} {n2 c2 : Nat} {l2 : Tx} (w : World) (size : Int) (s1 : -9223372036854775808 ≤ size) (s2 : size ≤ 9223372036854775807) (hb : ByAt w A n c l) (hb2 : ByAt w A2 n2 c2 l2) (o : Int) (o1 : -9223372036854775808 ≤ o) (o2 : o ≤ 9223372036854775807) :
    Calls Try.prog 6 #[.int .i64 size, .slice A n c, .slice A2 n2 c2, .int .i64 o] w fun e w' => e = .returned (.bool true) ∧ Below w.heap.size w w' := by
  have HAL := Lib.hid alive_any
  by_cases hok : size < 1 ∨ 16777216 < size
  · have HN := Lib.hid (new_no w size 3 (by omega))
    clear hok hb hb2 s1 s2 o1 o2
    go_enter Try.func6, Try.ntmps6
    go_wp2_with fail
    refine HN.out.mono ?_
    rintro e w1 ⟨rfl, rfl⟩
    go_wp2_with fail
    refine (HAL.out _).mono ?_
    rintro e w1 ⟨rfl, hb1⟩
    have HB1 := Lib.hid hb1
    clear hb1
    go_wp2
    go_ret
    exact ⟨rfl, HB1.out⟩
  · obtain ⟨s, rfl⟩ : ∃ s : Nat, size = (s : Int) := ⟨size.toNat, by omega⟩
    have hs0 : 0 < s := by omega
    have hs2 : s ≤ 16777216 := by omega
    obtain ⟨m, hm5, hmn, hbm, hcut⟩ := cut_any hb
    have HCUT := Lib.hid hcut
    obtain ⟨b, hbe⟩ : ∃ b, l.take 500 = b := ⟨_, rfl⟩
    rw [hbe] at hbm
    have HBM := Lib.hid hbm
    have hbl := hbm.len
    have hmc := hbm.le
    have hmx := hbm.max
    have hn2c := hb2.le
    have hc2x := hb2.max
    have HN : Hid (Calls Try.prog 9 #[.int .i64 s, .int .u64 3] w fun e w' => e = .returned (.tuple #[.pointer (some ⟨w.heap.size, 0, none⟩), .int .i64 0]) ∧ RgOn w' w.heap.size (· = w.heap.size) w.heap.size s ⟨3, 0, 0, 0⟩ [] ∧ Below w.heap.size w w') := new_yes w s 3 hs0 hs2 (by omega) (by omega)
    have HB2 := Lib.hid hb2
    have HBL := Lib.hid hbl
    obtain ⟨M, hM⟩ : ∃ M, w.heap.size = M := ⟨_, rfl⟩
    rw [hM] at HN ⊢
    have HM := Lib.hid hM
    clear hcut hbm hb hb2 hbl hbe hM hok s1 s2
    go_enter Try.func6, Try.ntmps6
    go_wp2_with fail
    refine HN.out.mono ?_
    rintro e w1 ⟨rfl, hr1, hb1⟩
    have HR1 := Lib.hid hr1
    have HB1 := Lib.hid hb1
    clear hr1 hb1
    go_wp2_with fail
    refine (HCUT.out _).mono ?_
    rintro e w2 ⟨rfl, rfl⟩
    go_wp2_with fail
    go_loopw [11, 12] (fun av iv wr => ∃ (i k : Nat) (F : Nat → Prop), iv = .int .i64 i ∧ i ≤ 2001 ∧ av = .int .i64 k ∧ k ≤ m ∧ StrAt w M M s b k wr F) (fun _ iv _ => 2002 - (intOf iv).toNat)
    case atStart => exact ⟨0, 0, _, rfl, by omega, rfl, by omega, ⟨HR1.out, HB1.out⟩⟩
    case round =>
      obtain ⟨i, k, F, rfl, hi, rfl, hk, hr, hlow⟩ := hrel
      have HR := Lib.hid hr
      have HL := Lib.hid hlow
      clear hr hlow
      by_cases hlt : k < m
      · obtain ⟨d, hd⟩ : ∃ d, m - k = d := ⟨_, rfl⟩
        have hwd : IntKind.i64.wrap ((m : Int) - (k : Int)) = (d : Int) := by rw [IntWalk.i64_in _ (by omega)]; omega
        have hltI : (k : Int) < (m : Int) := by omega
        have hi0 : (0 : Int) ≤ (i : Int) := by omega
        have hk0 : (0 : Int) ≤ (k : Int) := by omega
        have HFEED : Hid (∀ kk at2 c1 A1, k + kk = at2 → at2 ≤ m → c - k = c1 → (if c = k then A else A.map (fun x => x.add k)) = A1 → Calls Try.prog 26 #[.pointer (some ⟨M, 0, none⟩), .slice A1 kk c1] wr fun e w' => e = .returned (.int .i64 0) ∧ ∃ F', RgOn w' M F' M s ⟨3, at2, 0, 0⟩ (b.take at2) ∧ Below M wr w') := fun kk at2 c1 A1 e1 e2 e3 e4 => by
          have hbr : ByAt wr A m c b := HBM.out.below (by rw [HM.out]; exact HL.out)
          have hbk : ByAt wr A1 kk c1 ((b.drop k).take kk) := by
            have := (hbr.rest (i := k) (by omega)).first (m := kk) (by omega)
            rwa [e3, e4] at this
          refine (feed_any wr HR.out hbk (fun g o h0 e hF => ?_)).mono ?_
          · have h1 := (HR.out.ls.1 g hF).1
            rw [← e4] at e
            obtain ⟨g', o', e', hlt', _⟩ := HBM.out.cell (j := 0) (by omega)
            rw [HM.out] at hlt'
            rw [e'] at e
            split at e
            · injection e with e; injection e with q1 q2; omega
            · rw [Option.map_some, Go.WideShapes.add_plain] at e
              injection e with e; injection e with q1 q2; omega
          · rintro e w' ⟨rfl, ht⟩
            have q1 : fdE ⟨3, k, 0, 0⟩ kk = 0 := by unfold fdE; rw [if_neg (by show ¬ (1125899906842624 - (k : Int) < (kk : Int)); omega)]
            have q2 : fdH ⟨3, k, 0, 0⟩ kk = ⟨3, at2, 0, 0⟩ := by
              unfold fdH
              rw [if_neg (by show ¬ (1125899906842624 - (k : Int) < (kk : Int)); omega)]
              show Hst.mk 3 ((k : Int) + (kk : Int)) 0 0 = _
              rw [show (k : Int) + (kk : Int) = (at2 : Int) by omega]
            have q3 : fdX ⟨3, k, 0, 0⟩ (b.take k) ((b.drop k).take kk) = b.take at2 := by
              unfold fdX
              rw [if_neg (by rw [hbk.len]; show ¬ (1125899906842624 - (k : Int) < (kk : Int)); omega), ← List.take_add, e1]
            rw [q2, q3] at ht
            obtain ⟨F', h1, _, h3⟩ := RgTo.out HR.out ht
            exact ⟨by rw [q1], F', h1, h3⟩
        obtain ⟨kk, hkk, hsp⟩ : ∃ kk, k + kk ≤ m ∧ ((i < n2 ∧ ∃ (g o : Nat) (v : Nat) (t : Nat), A2 = some ⟨g, o, none⟩ ∧ wr.cell? ⟨g, o + i, none⟩ = some (.int .u8 (v : Int)) ∧ v < 256 ∧ v % 9 = t ∧ min d t = kk) ∨ (¬ i < n2 ∧ d = kk)) := by
          by_cases h : i < n2
          · obtain ⟨g, o', e, hg, hcell⟩ := HB2.out.cell h
            refine ⟨min d ((l2.getD i 0).toNat % 9), by omega, Or.inl ⟨h, g, o', (l2.getD i 0).toNat, (l2.getD i 0).toNat % 9, e, ?_, (l2.getD i 0).toNat_lt, rfl, rfl⟩⟩
            rw [HL.out.cell (p := ⟨g, o' + i, none⟩) (by rw [← HM.out]; exact hg)]
            exact hcell
          · exact ⟨d, by omega, Or.inr ⟨h, rfl⟩⟩
        obtain ⟨at2, hat⟩ : ∃ at2, k + kk = at2 := ⟨_, rfl⟩
        obtain ⟨c1, hc1⟩ : ∃ c1, c - k = c1 := ⟨_, rfl⟩
        obtain ⟨A1, hA1⟩ : ∃ A1, Option.map (fun x => x.add k) A = A1 := ⟨_, rfl⟩
        have HFD := Lib.hid (HFEED.out kk at2 c1 A1 hat (by omega) hc1 (by rw [if_neg (by omega)]; exact hA1))
        have hwa : IntKind.i64.wrap ((k : Int) + (kk : Int)) = (at2 : Int) := by rw [IntWalk.i64_in _ (by omega)]; omega
        have hak : at2 - k = kk := by omega
        have hsum : (k : Int) + (kk : Int) = (at2 : Int) := by omega
        have hkat : (k : Int) ≤ (at2 : Int) := by omega
        have hatc : (at2 : Int) ≤ (c : Int) := by omega
        have hatm : at2 ≤ m := by omega
        clear hd hat HFEED
        rcases hsp with ⟨hin, g, o', v, t, rfl, hcell, hv, ht, hmin⟩ | ⟨hin, rfl⟩
        case' inl =>
          have htm : Int.tmod (v : Int) 9 = (t : Int) := by rw [← ht]; rfl
          have htm2 : (v : Int) % 9 = (t : Int) := by rw [← ht]; rfl
          have hv0 : (v : Int) ≤ 255 := by omega
          have hv1 : (0 : Int) ≤ (v : Int) := by omega
          have hinI : (i : Int) < (n2 : Int) := by omega
          have hmn2 : Builtin.min_ #[3, 3] 3 #[.int .i64 (d : Int), .int .i64 (t : Int)] = pure (.int .i64 (kk : Int)) := by rw [min_nat, hmin]
          have hin2 : (i : Int) < (c2 : Int) := by omega
          clear hmin ht
        case' inr =>
          have hinI : decide ((i : Int) < (n2 : Int)) = false := by simp; omega
        all_goals
          go_wp2_with fail
          refine HFD.out.mono ?_
          rintro e w3 ⟨rfl, F3, hr3, hb3⟩
          have HST : Hid (StrAt w M M s b at2 w3 F3) := ⟨hr3, HL.out.trans hb3⟩
          clear hr3 hb3
          by_cases hbig : 2000 < i
          · have hbigI : (2000 : Int) < (i : Int) := by omega
            go_wp2_with fail
            refine (HAL.out _).mono ?_
            rintro e w4 ⟨rfl, hb4⟩
            have HE : Hid (Below M w w4) := HST.out.low.trans (hb4.mono (by have := HST.out.low.size; have := HM.out; omega))
            clear hb4
            go_wp2
            go_ret
            exact ⟨rfl, HE.out⟩
          · have hbigI : decide ((2000 : Int) < (i : Int)) = false := by simp; omega
            go_wp2
            go_roundw
            case rel => exact ⟨i + 1, at2, F3, by go_num, by omega, rfl, hatm, HST.out⟩
            case measure => simp only [intOf]; omega
      · obtain rfl : k = m := by omega
        have hbt : b.take k = b := List.take_of_length_le (by rw [HBL.out]; exact Nat.le_refl _)
        rw [hbt] at HR
        obtain ⟨q, hq⟩ : ∃ q, min k s = q := ⟨_, rfl⟩
        obtain ⟨fr, hfr⟩ : ∃ fr, k - q = fr := ⟨_, rfl⟩
        have hF : frstO s ⟨3, k, 0, 0⟩ b = (fr : Int) := by
          unfold frstO
          rw [HBL.out, hq]
          show (k : Int) - (q : Int) = _
          omega
        have HW : Hid (Calls Try.prog 13 #[.pointer (some ⟨M, 0, none⟩)] wr fun e w' => e = .returned (.tuple #[.int .i64 (fr : Int), .int .i64 (k : Int)]) ∧ ∃ n, w' = wr.drewN n) := by
          have := window_any wr HR.out
          rw [hF] at this
          exact this
        have HFM : Hid (∀ X, Below wr.heap.size wr X → Calls Try.prog 14 #[.pointer (some ⟨M, 0, none⟩), .int .i64 o] X (Told X (frmX s ⟨3, k, 0, 0⟩ b o) (frmE s ⟨3, k, 0, 0⟩ b o))) := fun X hX => from_any X (HR.out.below hX) o o1 o2
        have hhas : hasB s ⟨3, k, 0, 0⟩ b o = decide ((fr : Int) ≤ o ∧ o ≤ (k : Int)) := by unfold hasB; rw [hF]
        have hwq : IntKind.i64.wrap ((k : Int) - (fr : Int)) = (q : Int) := by rw [IntWalk.i64_in _ (by omega)]; omega
        have hwq2 : (k : Int) - (fr : Int) = (q : Int) := by omega
        have hkk : ((k : Int) != (k : Int)) = false := by simp
        have hqsN : decide (s < q) = false := by simp; omega
        have hqs : decide ((s : Int) < (q : Int)) = false := by simp; omega
        have hcs : ¬ 0 < fr ∨ (0 < fr ∧ q = s) := by omega
        have hkm : (k : Int) ≤ 500 := by omega
        have hfk : (fr : Int) ≤ (k : Int) := by omega
        obtain ⟨T, y, er, hfX, hfE, hcase⟩ : ∃ (T : Nat) (y : Tx) (er : Int), frmX s ⟨3, k, 0, 0⟩ b o = y ∧ frmE s ⟨3, k, 0, 0⟩ b o = er ∧ ((o < (fr : Int) ∧ y = [] ∧ er = 191) ∨ (¬ o < (fr : Int) ∧ (k : Int) < o ∧ y = [] ∧ er = 191) ∨ (o = (T : Int) ∧ fr ≤ T ∧ T ≤ k ∧ y = b.drop T ∧ er = 0)) := by
          by_cases h1 : o < (fr : Int)
          · obtain ⟨e1, e2⟩ := frm_no (show hasB s ⟨3, k, 0, 0⟩ b o = false by rw [hhas]; simp; omega)
            exact ⟨0, _, _, e1, e2, Or.inl ⟨h1, rfl, rfl⟩⟩
          · by_cases h2 : (k : Int) < o
            · obtain ⟨e1, e2⟩ := frm_no (show hasB s ⟨3, k, 0, 0⟩ b o = false by rw [hhas]; simp; omega)
              exact ⟨0, _, _, e1, e2, Or.inr (Or.inl ⟨h1, h2, rfl, rfl⟩)⟩
            · obtain ⟨e1, e2⟩ := frm_yes (show hasB s ⟨3, k, 0, 0⟩ b o = true by rw [hhas]; simp; omega)
              refine ⟨o.toNat, _, _, e1, e2, Or.inr (Or.inr ⟨by omega, by omega, by omega, ?_, rfl⟩)⟩
              rw [HBL.out]
              show b.drop (k - ((k : Int) - o).toNat) = _
              congr 1
              omega
        rw [hfX, hfE] at HFM
        clear hq hfr hF hhas hfX hfE hbt
        rcases hcs with hfp | ⟨hfp, rfl⟩
        case' inl =>
          have hfrI : decide ((0 : Int) < (fr : Int)) = false := by simp; omega
          have hfrN : decide (0 < fr) = false := by simp; omega
        case' inr =>
          have hfrI : (0 : Int) < (fr : Int) := by omega
          have hqq : ((q : Int) != (q : Int)) = false := by simp
        all_goals
          rcases hcase with ⟨ho, rfl, rfl⟩ | ⟨ho1, ho2, rfl, rfl⟩ | ⟨rfl, hT1, hT2, hy, rfl⟩
          · go_wp2_with fail
            refine HW.out.mono ?_
            rintro e w2 ⟨rfl, nq, rfl⟩
            go_wp2_with fail
            refine (HFM.out _ (below_drewN _ _ _)).mono ?_
            rintro e w3 ⟨A3, n3, c3, rfl, hy3, hb3, -⟩
            have hn3 := hy3.len
            obtain rfl : n3 = 0 := hn3.symm
            have HB3 : Hid (Below M w w3) := HL.out.trans ((below_drewN M wr nq).trans (hb3.mono (by have := HL.out.size; have := HM.out; show M ≤ wr.heap.size; omega)))
            clear hy3 hb3 hn3
            go_wp2_with fail
            refine (HAL.out _).mono ?_
            rintro e w4 ⟨rfl, hb4⟩
            have HE : Hid (Below M w w4) := HB3.out.trans (hb4.mono (by have := HB3.out.size; have := HM.out; omega))
            clear hb4
            go_wp2
            go_ret
            exact ⟨rfl, HE.out⟩
          · go_wp2_with fail
            refine HW.out.mono ?_
            rintro e w2 ⟨rfl, nq, rfl⟩
            go_wp2_with fail
            refine (HFM.out _ (below_drewN _ _ _)).mono ?_
            rintro e w3 ⟨A3, n3, c3, rfl, hy3, hb3, -⟩
            have hn3 := hy3.len
            obtain rfl : n3 = 0 := hn3.symm
            have HB3 : Hid (Below M w w3) := HL.out.trans ((below_drewN M wr nq).trans (hb3.mono (by have := HL.out.size; have := HM.out; show M ≤ wr.heap.size; omega)))
            clear hy3 hb3 hn3
            go_wp2_with fail
            refine (HAL.out _).mono ?_
            rintro e w4 ⟨rfl, hb4⟩
            have HE : Hid (Below M w w4) := HB3.out.trans (hb4.mono (by have := HB3.out.size; have := HM.out; omega))
            clear hb4
            go_wp2
            go_ret
            exact ⟨rfl, HE.out⟩
          · go_wp2_with fail
            refine HW.out.mono ?_
            rintro e w2 ⟨rfl, nq, rfl⟩
            go_wp2_with fail
            refine (HFM.out _ (below_drewN _ _ _)).mono ?_
            rintro e w3 ⟨A3, n3, c3, rfl, hy3, hb3, -⟩
            have HB3 : Hid (Below M w w3) := HL.out.trans ((below_drewN M wr nq).trans (hb3.mono (by have := HL.out.size; have := HM.out; show M ≤ wr.heap.size; omega)))
            obtain ⟨A5, hA5⟩ : ∃ A5, (if c = T then A else Option.map (fun x => x.add T) A) = A5 := ⟨_, rfl⟩
            obtain ⟨k5, hk5⟩ : ∃ k5, k - T = k5 := ⟨_, rfl⟩
            obtain ⟨c5, hc5⟩ : ∃ c5, c - T = c5 := ⟨_, rfl⟩
            have hb5 : ByAt w3 A5 k5 c5 (b.drop T) := by
              have := (HBM.out.below (by rw [HM.out]; exact HB3.out)).rest (i := T) hT2
              rwa [hA5, hk5, hc5] at this
            obtain ⟨Z, hZ⟩ : ∃ Z : ByteArray, ⟨(b.drop T).toArray⟩ = Z := ⟨_, rfl⟩
            rw [hy] at hy3
            have HCV : Hid (∀ X, Below w3.heap.size w3 X → (convert 33 9 (.slice A3 n3 c3)).run Try.prog X = .ok (.string Z) X ∧ (convert 33 9 (.slice A5 k5 c5)).run Try.prog X = .ok (.string Z) X) := fun X hX => by
              rw [← hZ]
              exact ⟨conv_by (hy3.below hX), conv_by (hb5.below hX)⟩
            have HALB : Hid (∀ X, Below w3.heap.size w3 X → Calls Try.prog 11 #[] X fun e w' => e = .returned (.bool true) ∧ Below w3.heap.size w3 w') := fun X hX => by
              refine (HAL.out X).mono ?_
              rintro e w' ⟨rfl, h⟩
              exact ⟨rfl, below_then hX h⟩
            have hT0 : (0 : Int) ≤ (T : Int) := by omega
            have hTk : (T : Int) ≤ (k : Int) := by omega
            have hTc : (T : Int) ≤ (c : Int) := by omega
            have hTf : decide ((T : Int) < (fr : Int)) = false := by simp; omega
            have hTk2 : decide ((k : Int) < (T : Int)) = false := by simp; omega
            clear hy3 hb3 hb5 hZ hy
            go_wp2_with fail
            go_region_held3 (fun X => (convert 33 9 (.slice A3 n3 c3)).run Try.prog X = .ok (.string Z) X ∧ (convert 33 9 (.slice A5 k5 c5)).run Try.prog X = .ok (.string Z) X) (first | exact HCV.out _ (Below.refl _ _) | exact HCV.out _ (Below.refl _ _).drew | exact HCV.out _ (below_drewN _ _ _) | exact HCV.out _ HB4.out) ((go_at_call 11; refine Calls.mono (HALB.out _ (by first | exact (Below.refl _ _).drew | exact below_drewN _ _ _ | exact Below.refl _ _)) ?_; rintro en w4 ⟨rfl, hb4⟩; have HB4 := Lib.hid hb4; clear hb4))
            go_wp2
            go_ret
            exact ⟨rfl, HB3.out.trans (HB4.out.mono (by have := HB3.out.size; have := HM.out; omega))⟩

end Go.Proofs.Ytbecjaamheibmaa
