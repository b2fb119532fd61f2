/-
  RingPieces: its walk. Condition: the script reads as its acts.
-/
import Derived.Test.YtbecjaamheibmaaRbD
import Derived.Test.YtbecjaamheibmaaRbR
namespace Go.Proofs.Ytbecjaamheibmaa
open Go.RowKit

theorem frm_or (s : Nat) (h : Hst) (X : Tx) (o : Int) : frmE s h X o = 0 ∨ (frmE s h X o = 191 ∧ frmX s h X o = []) := by
  cases hq : hasB s h X o with
  | true => exact Or.inl (frm_yes hq).2
  | false => exact Or.inr ⟨(frm_no hq).2, (frm_no hq).1⟩

/-- The count of pieces as the statement says it. -/
theorem Cnt.div {L t J : Nat} (h : Cnt L t J) (ht : 0 < t) (hL : 0 < L) : (L - 1) / t + 1 = J := by
  rcases h with ⟨h, _⟩ | ⟨h1, h2, h3⟩
  · omega
  · have e : J * t = (J - 1) * t + t := by
      obtain ⟨i, rfl⟩ : ∃ i, J = i + 1 := ⟨J - 1, by omega⟩
      rw [Nat.add_sub_cancel, Nat.add_mul, Nat.one_mul]
    have : (L - 1) / t = J - 1 := by
      rw [Nat.div_eq_iff ht]
      omega
    omega

set_option maxRecDepth 100000 in
set_option maxHeartbeats 32000000 in
theorem piecesL_any {A : Option Addr} {n cap g o : Nat} {L : List Op19} (w : World) (size : Int) (s1 : -9223372036854775808 ≤ size) (s2 : size ≤ 9223372036854775807) (hS : Scr19 w A n cap g o L) (of : Int) (o1 : -9223372036854775808 ≤ of) (o2 : of ≤ 9223372036854775807) (most : Int) (m1 : -9223372036854775808 ≤ most) (m2 : most ≤ 9223372036854775807) :
    Calls Try.prog 4 #[.int .i64 size, .slice A n cap, .int .i64 of, .int .i64 most] w fun e w' => e = .returned (.bool true) ∧ Below w.heap.size w w' := by
  have HAL := Lib.hid alive_any
  by_cases hok : size < 1 ∨ 16777216 < size
  · have HN := Lib.hid (new_no w size 9 (by omega))
    have HRN := Lib.hid (rnew_no w size 9 (by omega))
    clear hok hS s1 s2 o1 o2 m1 m2
    go_enter Try.func4, Try.ntmps4
    go_wp2_with fail
    refine HN.out.mono ?_
    rintro e w1 ⟨rfl, rfl⟩
    go_wp2_with fail
    refine HRN.out.mono ?_
    rintro e w1 ⟨rfl, rfl⟩
    go_wp2_with fail
    refine (HAL.out _).mono ?_
    rintro e w1 ⟨rfl, hb1⟩
    have HB1 := Lib.hid hb1
    clear hb1
    go_wp2
    go_ret
    exact ⟨rfl, HB1.out⟩
  · obtain ⟨s, rfl⟩ : ∃ s : Nat, size = (s : Int) := ⟨size.toNat, by omega⟩
    have hs0 : 0 < s := by omega
    have hs2 : s ≤ 16777216 := by omega
    have HN := Lib.hid (new_yes w s 9 hs0 hs2 (by omega) (by omega))
    have HRN : Hid (∀ X, Calls Try.prog 10 #[.int .i64 s, .int .u64 9] X fun e w' => e = .returned (.tuple #[.pointer (some ⟨X.heap.size, 0, none⟩), .int .i64 0]) ∧ RfOn w' X.heap.size (· = X.heap.size) X.heap.size s ⟨9, 0, 0, 0⟩ [] ∧ Below X.heap.size X w') := fun X => rnew_yes X s 9 hs0 hs2 (by omega) (by omega)
    have HMB : Hid (∀ w1 w2, RgOn w1 w.heap.size (· = w.heap.size) w.heap.size s ⟨9, 0, 0, 0⟩ [] → Below w.heap.size w w1 → RfOn w2 w1.heap.size (· = w1.heap.size) w1.heap.size s ⟨9, 0, 0, 0⟩ [] → Below w1.heap.size w1 w2 → Pr19 w2 w.heap.size (· = w.heap.size) w.heap.size (· = w1.heap.size) w1.heap.size s ⟨9, 0, 0, 0⟩ [] ⟨9, 0, 0, 0⟩ []) := fun w1 w2 k1 k2 k3 k4 => made_both w s 9 k1 k2 k3 k4
    have HSC := Lib.hid hS
    have hncap := hS.le
    have hcapx := hS.max
    clear hok hS s1 s2
    go_enter Try.func4, Try.ntmps4
    go_wp2_with fail
    refine HN.out.mono ?_
    rintro e w1 ⟨rfl, hr1, hb1⟩
    have HR1 := Lib.hid hr1
    have HB1 := Lib.hid hb1
    clear hr1 hb1
    go_wp2_with fail
    refine (HRN.out _).mono ?_
    rintro e w2 ⟨rfl, hr2, hb2⟩
    have HP2 := Lib.hid (HMB.out w1 w2 HR1.out HB1.out hr2 hb2)
    have HB2 : Hid (Below w.heap.size w w2) := below_then HB1.out hb2
    obtain ⟨Q, hQ⟩ : ∃ Q, w1.heap.size = Q := ⟨_, rfl⟩
    rw [hQ] at HP2
    obtain ⟨G2, hG2⟩ : ∃ G : Nat → Prop, (· = Q) = G := ⟨_, rfl⟩
    rw [hG2] at HP2
    have HQ := Lib.hid hQ
    obtain ⟨M, hM⟩ : ∃ M, w.heap.size = M := ⟨_, rfl⟩
    rw [hM] at HP2 HB2
    have HM := Lib.hid hM
    clear hr2 hb2 hQ hG2 hM
    go_wp2_with (first | rw [HQ.out] | rw [HM.out])
    go_loopw [13] (fun iv wr => ∃ (i : Nat) (F5 G5 : Nat → Prop) (h5 : Hst) (X5 : Tx), iv = .int .i64 i ∧ i ≤ n ∧ i ≤ 100 ∧ Pr19 wr M F5 M G5 Q s h5 X5 h5 X5 ∧ Below M w wr) (fun iv _ => n - (intOf iv).toNat)
    case atStart => exact ⟨0, _, G2, _, _, rfl, Nat.zero_le _, by omega, HP2.out, HB2.out⟩
    case round =>
      obtain ⟨i, F5, G5, h5, X5, rfl, hi, hi3, hpr, hbr⟩ := hrel
      have HP5 := Lib.hid hpr
      have HBR := Lib.hid hbr
      clear hpr hbr
      by_cases hgo : i < n ∧ i < 100
      · obtain ⟨hlt, h100⟩ := hgo
        obtain ⟨x, hx⟩ : ∃ x, L[i]? = some x := ⟨_, List.getElem?_eq_getElem (by rw [HSC.out.len]; exact hlt)⟩
        obtain ⟨rfl, hg⟩ := HSC.out.at_ (by omega)
        obtain ⟨⟨x0, x1, x2, x3⟩, hxo⟩ := HSC.out.cells i x hx
        have hgM : g < M := by rw [← HM.out]; exact hg
        have HSX5 : Hid (wr.cell? ⟨g, o + i * 4, none⟩ = some (.int .i64 x.kind) ∧ wr.cell? ⟨g, o + i * 4 + 1, none⟩ = some (.slice x.A x.n x.c) ∧ wr.cell? ⟨g, o + i * 4 + 2, none⟩ = some (.int .u64 x.id) ∧ wr.cell? ⟨g, o + i * 4 + 3, none⟩ = some (.int .i64 x.off)) :=
          ⟨(HBR.out.cell (p := ⟨g, o + i * 4, none⟩) hgM).trans x0, (HBR.out.cell (p := ⟨g, o + i * 4 + 1, none⟩) hgM).trans x1, (HBR.out.cell (p := ⟨g, o + i * 4 + 2, none⟩) hgM).trans x2, (HBR.out.cell (p := ⟨g, o + i * 4 + 3, none⟩) hgM).trans x3⟩
        have HACT := Lib.hid (act_any HM.out HBR.out HP5.out x hxo)
        have h100i : (i : Int) < 100 := by omega
        have him : (i : Int) < (n : Int) := by omega
        have hi0 : (0 : Int) ≤ (i : Int) := by omega
        obtain ⟨kd, xA, xn, xc, xid, xof, xb⟩ := x
        dsimp only at HSX5 HACT
        obtain ⟨y0, y1, y2, y3⟩ := HSX5.out
        clear hx x0 x1 x2 x3 hxo hg
        go_wp2_with fail
        refine HACT.out.mono ?_
        rintro e w3 ⟨rfl, F6, G6, h6, X6, hp6, hb6⟩
        have HP6 := Lib.hid hp6
        have HB6 := Lib.hid (HBR.out.trans hb6)
        clear hp6 hb6 y0 y1 y2 y3
        go_wp2
        go_roundw
        case rel => exact ⟨i + 1, F6, G6, _, X6, by go_num, by omega, by omega, HP6.out, HB6.out⟩
        case measure => simp only [intOf]; omega
      · have hx : (i < n ∧ ¬ i < 100) ∨ ¬ i < n := by omega
        have HRM := Lib.hid (rfrom_any wr HP5.out.r of o1 o2)
        obtain ⟨Y, hY⟩ : ∃ Y, frmX s h5 X5 of = Y := ⟨_, rfl⟩
        obtain ⟨er, her⟩ : ∃ Y, frmE s h5 X5 of = Y := ⟨_, rfl⟩
        have hor := frm_or s h5 X5 of
        rw [hY, her] at HRM
        have HPN : Hid (∀ w5, Below wr.heap.size wr w5 → er ≠ 0 ∨ most < 1 → Calls Try.prog 20 #[.pointer (some ⟨M, 0, none⟩), .int .i64 of, .int .i64 most] w5 (PcTold w5 [] (· = 0))) := fun w5 hb hno => pieces_no w5 (HP5.out.below hb).d of most o1 o2 (by rw [her]; exact hno)
        have HPY : Hid (∀ w5, Below wr.heap.size wr w5 → ∀ m : Nat, most = (m : Int) → 0 < m → er = 0 → Y.length / 1000 ≤ m → Calls Try.prog 20 #[.pointer (some ⟨M, 0, none⟩), .int .i64 of, .int .i64 most] w5 (PcTold w5 Y (Cnt Y.length m))) := fun w5 hb m hm hm0 he hd => by
          have h1 := pieces_yes w5 (HP5.out.below hb).d of m o1 o2 hm0 (by omega) (by rw [her]; exact he) (by rw [hY]; exact hd)
          rw [hY, ← hm] at h1
          exact h1
        rw [hY, her] at hor
        have hMr : M ≤ wr.heap.size := by have := HBR.out.size; have := HM.out; omega
        clear hgo hY her
        rcases hx with ⟨hlt, h100⟩ | hlt
        all_goals first
          | have h100n : ¬ (i : Int) < 100 := by omega
            have h100b : decide ((i : Int) < 100) = false := by simpa using h100n
            have hin : (i : Int) < n := by omega
            go_wp2_with fail
          | have hin : ¬ (i : Int) < n := by omega
            go_wp2_with fail
        all_goals
          refine HRM.out.mono ?_
          rintro e w5 ⟨A9, n9, c9, rfl, hy9, hb9, -⟩
          have HB9 := Lib.hid hb9
          have HY9 := Lib.hid hy9
          have hl9 : Y.length = n9 := hy9.len
          have hnc9 := hy9.le
          have hcx9 := hy9.max
          have HB5 : Hid (Below M w w5) := HBR.out.trans (hb9.mono hMr)
          have hM5 : M ≤ w5.heap.size := by have := hb9.size; omega
          clear hy9 hb9
          have hcase : (0 < most ∧ most < ((n9 / 1000 : Nat) : Int)) ∨ (er = 191 ∧ 0 < most ∧ n9 = 0) ∨ most < 1 ∨ (er = 0 ∧ 0 < most ∧ ¬ most < ((n9 / 1000 : Nat) : Int)) := by
            rcases hor with h | ⟨h, h'⟩
            · omega
            · rw [h', List.length_nil] at hl9
              omega
          obtain ⟨D, hD⟩ : ∃ D : Nat, n9 / 1000 = D := ⟨_, rfl⟩
          have hD1 : Int.tdiv (n9 : Int) 1000 = D := by rw [← hD]; rfl
          have hD2 : (n9 : Int) / 1000 = D := by rw [← hD]; rfl
          rw [hD] at hcase
          rcases hcase with ⟨hm, hd⟩ | ⟨rfl, hm, hn⟩ | hm | ⟨rfl, hm, hd⟩
          · clear hor
            go_wp2_with fail
            refine (HAL.out _).mono ?_
            rintro e w7 ⟨rfl, hb7⟩
            have HB7 : Hid (Below M w w7) := HB5.out.trans (hb7.mono hM5)
            clear hb7
            go_wp2
            go_ret
            exact ⟨rfl, by rw [HM.out]; exact HB7.out⟩
          · have hDz : D = 0 := by omega
            subst hDz
            have hd : ¬ most < ((0 : Nat) : Int) := by omega
            have hd' : ¬ most < 0 := by omega
            have HP := Lib.hid (HPN.out w5 HB9.out (Or.inl (by omega)))
            subst hn
            clear hor hD hD1 hD2 hl9
            go_wp2_with fail
            refine HP.out.mono ?_
            rintro e w6 ⟨A6, k6, c6, J, rfl, rfl, -, hb6⟩
            have HB6 : Hid (Below M w w6) := HB5.out.trans (hb6.mono hM5)
            have hM6 : M ≤ w6.heap.size := by have := hb6.size; omega
            clear hb6
            go_wp2_with fail
            refine (HAL.out _).mono ?_
            rintro e w7 ⟨rfl, hb7⟩
            have HB7 : Hid (Below M w w7) := HB6.out.trans (hb7.mono hM6)
            clear hb7
            go_wp2
            go_ret
            exact ⟨rfl, by rw [HM.out]; exact HB7.out⟩
          · have hm0 : ¬ 0 < most := by omega
            have HP := Lib.hid (HPN.out w5 HB9.out (Or.inr hm))
            obtain ⟨gb, hgb⟩ : ∃ b, decide (er = 0) = b := ⟨_, rfl⟩
            rcases hor with rfl | ⟨rfl, -⟩
            all_goals
              clear hgb gb
              go_wp2_with fail
              refine HP.out.mono ?_
              rintro e w6 ⟨A6, k6, c6, J, rfl, rfl, -, hb6⟩
              have HB6 : Hid (Below M w w6) := HB5.out.trans (hb6.mono hM5)
              have hM6 : M ≤ w6.heap.size := by have := hb6.size; omega
              clear hb6
              go_wp2_with fail
              refine (HAL.out _).mono ?_
              rintro e w7 ⟨rfl, hb7⟩
              have HB7 : Hid (Below M w w7) := HB6.out.trans (hb7.mono hM6)
              clear hb7
              go_wp2
              go_ret
              exact ⟨rfl, by rw [HM.out]; exact HB7.out⟩
          · obtain ⟨m, rfl⟩ : ∃ m : Nat, most = (m : Int) := ⟨most.toNat, by omega⟩
            have hm0 : 0 < m := by omega
            have HP := Lib.hid (HPY.out w5 HB9.out m rfl hm0 rfl (by omega))
            rw [hl9] at HP
            obtain ⟨Z, hZ⟩ : ∃ Z : ByteArray, ⟨Y.toArray⟩ = Z := ⟨_, rfl⟩
            have hnm1 : ¬ (m : Int) < 1 := by omega
            clear hor
            go_wp2_with fail
            refine HP.out.mono ?_
            rintro e w6 ⟨A6, k6, c6, J, rfl, hcnt, hy6, hb6⟩
            have HB6 : Hid (Below M w w6) := HB5.out.trans (hb6.mono hM5)
            have hM6 : M ≤ w6.heap.size := by have := hb6.size; omega
            have HCV : Hid ((convert 33 9 (.slice A6 k6 c6)).run Try.prog w6 = .ok (.string Z) w6 ∧ (convert 33 9 (.slice A9 n9 c9)).run Try.prog w6 = .ok (.string Z) w6) := by
              rw [← hZ]
              exact ⟨conv_by hy6, conv_by (HY9.out.below hb6)⟩
            obtain ⟨cv1, cv2⟩ := HCV.out
            clear hb6 hy6 hZ
            by_cases h0 : n9 = 0
            · have hJ : J = 0 := by
                rcases hcnt with h | h
                · exact h.2
                · omega
              subst hJ
              subst h0
              clear hcnt hl9 hD hD1 hD2 hd
              go_wp2_with fail
              refine (HAL.out _).mono ?_
              rintro e w7 ⟨rfl, hb7⟩
              have HB7 : Hid (Below M w w7) := HB6.out.trans (hb7.mono hM6)
              clear hb7
              go_wp2
              go_ret
              exact ⟨rfl, by rw [HM.out]; exact HB7.out⟩
            · have hdv := hcnt.div hm0 (by omega)
              obtain ⟨u, rfl⟩ : ∃ u, n9 = u + 1 := ⟨n9 - 1, by omega⟩
              rw [Nat.add_sub_cancel] at hdv
              have hu0 : (0 : Int) < ((u + 1 : Nat) : Int) := by omega
              have hu1 : ((u + 1 : Nat) : Int) - 1 = (u : Int) := by omega
              obtain ⟨v, hv⟩ : ∃ v : Nat, u / m = v := ⟨_, rfl⟩
              have hv1 : Int.tdiv (u : Int) (m : Int) = v := by rw [← hv]; rfl
              have hv2 : (u : Int) / (m : Int) = v := by rw [← hv]; rfl
              have hvu : v ≤ u := by rw [← hv]; exact Nat.div_le_self _ _
              rw [hv] at hdv
              have hv3 : (v : Int) + 1 = (J : Int) := by omega
              have hJ2 : (J : Int) ≤ 9223372036854775807 := by omega
              have hmne : (m : Int) ≠ 0 := by omega
              clear hcnt hl9 hD hD1 hD2 hd hv h0
              go_wp2_with fail
              refine (HAL.out _).mono ?_
              rintro e w7 ⟨rfl, hb7⟩
              have HB7 : Hid (Below M w w7) := HB6.out.trans (hb7.mono hM6)
              clear hb7
              go_wp2
              go_ret
              exact ⟨rfl, by rw [HM.out]; exact HB7.out⟩

end Go.Proofs.Ytbecjaamheibmaa
