/-
  RingRuns: its walk. Condition: the script reads as its acts.
-/
import Derived.Test.YtbecjaamheibmaaRbH
namespace Go.Proofs.Ytbecjaamheibmaa
open Go.RowKit

section
variable {w w' : World} {base q s : Nat} {G : Nat → Prop} {h : Hst} {X : Tx}
theorem RfOn.base_le {base' : Nat} (H : RfOn w base G q s h X) (hb : base' ≤ base) : RfOn w base' G q s h X := { H with own := fun k hk => ⟨Nat.le_trans hb (H.own k hk).1, (H.own k hk).2⟩ }
end

theorem hst_ne (X : World) (a b c d : Int) : (binOp .neq 43 (.agg #[.int .u64 a, .int .i64 b, .int .u64 c, .int .i64 d]) (.agg #[.int .u64 a, .int .i64 b, .int .u64 c, .int .i64 d])).run Try.prog X = .ok (.bool false) X := by
  go_simp

/-- Both rings of a statement, made. -/
theorem made_both (w : World) (s : Nat) (id : Int) {w1 w2 : World} (hr : RgOn w1 w.heap.size (· = w.heap.size) w.heap.size s ⟨id, 0, 0, 0⟩ []) (hb : Below w.heap.size w w1) (hq : RfOn w2 w1.heap.size (· = w1.heap.size) w1.heap.size s ⟨id, 0, 0, 0⟩ []) (hb2 : Below w1.heap.size w1 w2) : Pr19 w2 w.heap.size (· = w.heap.size) w.heap.size (· = w1.heap.size) w1.heap.size s ⟨id, 0, 0, 0⟩ [] ⟨id, 0, 0, 0⟩ [] :=
  ⟨hr.below hb2, hq.base_le hb.size, fun k e1 e2 => by have := hr.lt; omega⟩

set_option maxRecDepth 100000 in
set_option maxHeartbeats 32000000 in
theorem runs_any {A : Option Addr} {n cap g o : Nat} {L : List Op19} (w : World) (size : Int) (s1 : -9223372036854775808 ≤ size) (s2 : size ≤ 9223372036854775807) (id : Int) (i1 : 0 ≤ id) (i2 : id ≤ 18446744073709551615) (hS : Scr19 w A n cap g o L) (ask of : Int) (o1 : -9223372036854775808 ≤ of) (o2 : of ≤ 9223372036854775807) :
    Calls Try.prog 3 #[.int .i64 size, .int .u64 id, .slice A n cap, .int .u64 ask, .int .i64 of] w fun e w' => e = .returned (.bool true) ∧ Below w.heap.size w w' := by
  have HAL := Lib.hid alive_any
  by_cases hok : size < 1 ∨ 16777216 < size ∨ id = 0
  · have HN := Lib.hid (new_no w size id hok)
    have HRN := Lib.hid (rnew_no w size id hok)
    clear hok hS s1 s2 i1 i2 o1 o2
    go_enter Try.func3, Try.ntmps3
    go_wp2_with fail
    refine HN.out.mono ?_
    rintro e w1 ⟨rfl, rfl⟩
    go_wp2_with fail
    refine HRN.out.mono ?_
    rintro e w1 ⟨rfl, rfl⟩
    go_wp2_with fail
    refine (HAL.out _).mono ?_
    rintro e w1 ⟨rfl, hb1⟩
    have HB1 := Lib.hid hb1
    clear hb1
    go_wp2
    go_ret
    exact ⟨rfl, HB1.out⟩
  · obtain ⟨s, rfl⟩ : ∃ s : Nat, size = (s : Int) := ⟨size.toNat, by omega⟩
    have hs0 : 0 < s := by omega
    have hs2 : s ≤ 16777216 := by omega
    have HN := Lib.hid (new_yes w s id hs0 hs2 (by omega) i2)
    have HRN : Hid (∀ X, Calls Try.prog 10 #[.int .i64 s, .int .u64 id] X fun e w' => e = .returned (.tuple #[.pointer (some ⟨X.heap.size, 0, none⟩), .int .i64 0]) ∧ RfOn w' X.heap.size (· = X.heap.size) X.heap.size s ⟨id, 0, 0, 0⟩ [] ∧ Below X.heap.size X w') := fun X => rnew_yes X s id hs0 hs2 (by omega) i2
    have HMB : Hid (∀ w1 w2, RgOn w1 w.heap.size (· = w.heap.size) w.heap.size s ⟨id, 0, 0, 0⟩ [] → Below w.heap.size w w1 → RfOn w2 w1.heap.size (· = w1.heap.size) w1.heap.size s ⟨id, 0, 0, 0⟩ [] → Below w1.heap.size w1 w2 → Pr19 w2 w.heap.size (· = w.heap.size) w.heap.size (· = w1.heap.size) w1.heap.size s ⟨id, 0, 0, 0⟩ [] ⟨id, 0, 0, 0⟩ []) := fun w1 w2 k1 k2 k3 k4 => made_both w s id k1 k2 k3 k4
    have HSC := Lib.hid hS
    have hncap := hS.le
    have hcapx := hS.max
    clear hok hS s1 s2
    go_enter Try.func3, Try.ntmps3
    go_wp2_with fail
    refine HN.out.mono ?_
    rintro e w1 ⟨rfl, hr1, hb1⟩
    have HR1 := Lib.hid hr1
    have HB1 := Lib.hid hb1
    clear hr1 hb1
    go_wp2_with fail
    refine (HRN.out _).mono ?_
    rintro e w2 ⟨rfl, hr2, hb2⟩
    have HP2 := Lib.hid (HMB.out w1 w2 HR1.out HB1.out hr2 hb2)
    have HB2 : Hid (Below w.heap.size w w2) := below_then HB1.out hb2
    obtain ⟨Q, hQ⟩ : ∃ Q, w1.heap.size = Q := ⟨_, rfl⟩
    rw [hQ] at HP2
    obtain ⟨G2, hG2⟩ : ∃ G : Nat → Prop, (· = Q) = G := ⟨_, rfl⟩
    rw [hG2] at HP2
    have HQ := Lib.hid hQ
    obtain ⟨M, hM⟩ : ∃ M, w.heap.size = M := ⟨_, rfl⟩
    rw [hM] at HP2 HB2
    have HM := Lib.hid hM
    clear hr2 hb2 hQ hG2 hM
    go_wp2_with (first | rw [HQ.out] | rw [HM.out])
    go_loopw [15] (fun iv wr => ∃ (i : Nat) (F5 G5 : Nat → Prop) (h5 : Hst) (X5 : Tx), iv = .int .i64 i ∧ i ≤ n ∧ i ≤ 100 ∧ Pr19 wr M F5 M G5 Q s h5 X5 h5 X5 ∧ Below M w wr) (fun iv _ => n - (intOf iv).toNat)
    case atStart => exact ⟨0, _, G2, _, _, rfl, Nat.zero_le _, by omega, HP2.out, HB2.out⟩
    case round =>
      obtain ⟨i, F5, G5, h5, X5, rfl, hi, hi3, hpr, hbr⟩ := hrel
      have HP5 := Lib.hid hpr
      have HBR := Lib.hid hbr
      clear hpr hbr
      by_cases hgo : i < n ∧ i < 100
      · obtain ⟨hlt, h100⟩ := hgo
        obtain ⟨x, hx⟩ : ∃ x, L[i]? = some x := ⟨_, List.getElem?_eq_getElem (by rw [HSC.out.len]; exact hlt)⟩
        obtain ⟨rfl, hg⟩ := HSC.out.at_ (by omega)
        obtain ⟨⟨x0, x1, x2, x3⟩, hxo⟩ := HSC.out.cells i x hx
        have hgM : g < M := by rw [← HM.out]; exact hg
        have HSX5 : Hid (wr.cell? ⟨g, o + i * 4, none⟩ = some (.int .i64 x.kind) ∧ wr.cell? ⟨g, o + i * 4 + 1, none⟩ = some (.slice x.A x.n x.c) ∧ wr.cell? ⟨g, o + i * 4 + 2, none⟩ = some (.int .u64 x.id) ∧ wr.cell? ⟨g, o + i * 4 + 3, none⟩ = some (.int .i64 x.off)) :=
          ⟨(HBR.out.cell (p := ⟨g, o + i * 4, none⟩) hgM).trans x0, (HBR.out.cell (p := ⟨g, o + i * 4 + 1, none⟩) hgM).trans x1, (HBR.out.cell (p := ⟨g, o + i * 4 + 2, none⟩) hgM).trans x2, (HBR.out.cell (p := ⟨g, o + i * 4 + 3, none⟩) hgM).trans x3⟩
        have HACT := Lib.hid (act_any HM.out HBR.out HP5.out x hxo)
        have h100i : (i : Int) < 100 := by omega
        have him : (i : Int) < (n : Int) := by omega
        have hi0 : (0 : Int) ≤ (i : Int) := by omega
        obtain ⟨kd, xA, xn, xc, xid, xof, xb⟩ := x
        dsimp only at HSX5 HACT
        obtain ⟨y0, y1, y2, y3⟩ := HSX5.out
        clear hx x0 x1 x2 x3 hxo hg
        go_wp2_with fail
        refine HACT.out.mono ?_
        rintro e w3 ⟨rfl, F6, G6, ⟨hid, off, sec, frk⟩, X6, hp6, hb6⟩
        have HP6 := Lib.hid hp6
        have HB6 := Lib.hid (HBR.out.trans hb6)
        clear hp6 hb6
        have HWD := Lib.hid (window_any w3 HP6.out.d)
        obtain ⟨f, hf⟩ : ∃ f, frstO s ⟨hid, off, sec, frk⟩ X6 = f := ⟨_, rfl⟩
        rw [hf] at HWD
        clear y0 y1 y2 y3
        go_wp2_with fail
        refine HWD.out.mono ?_
        rintro e w4 ⟨rfl, q4, rfl⟩
        have hp4 := HP6.out.below (below_drewN _ w3 q4)
        have HP4 := Lib.hid hp4
        have HFM := Lib.hid (from_any (w3.drewN q4) hp4.d of o1 o2)
        obtain ⟨Y, hY⟩ : ∃ Y, frmX s ⟨hid, off, sec, frk⟩ X6 of = Y := ⟨_, rfl⟩
        obtain ⟨er, her⟩ : ∃ Y, frmE s ⟨hid, off, sec, frk⟩ X6 of = Y := ⟨_, rfl⟩
        rw [hY, her] at HFM
        clear hp4
        go_wp2_with fail
        refine HFM.out.mono ?_
        rintro e w5 ⟨A8, n8, c8, rfl, hy8, hb8, -⟩
        have hp5 := HP4.out.below hb8
        have HP5' := Lib.hid hp5
        have HY8 := Lib.hid hy8
        have HB8 : Hid (Below M w w5) := HB6.out.trans ((below_drewN M w3 q4).trans (hb8.mono HP4.out.d.bs))
        have HRM := Lib.hid (rfrom_any w5 hp5.r of o1 o2)
        rw [hY, her] at HRM
        clear hp5 hy8 hb8 hY her
        go_wp2_with fail
        refine HRM.out.mono ?_
        rintro e w6 ⟨A9, n9, c9, rfl, hy9, hb9, -⟩
        have HP9 := Lib.hid (HP5'.out.below hb9)
        have HB9 : Hid (Below M w w6) := HB8.out.trans (hb9.mono HP5'.out.d.bs)
        obtain ⟨Z, hZ⟩ : ∃ Z : ByteArray, ⟨Y.toArray⟩ = Z := ⟨_, rfl⟩
        have HCV : Hid (∀ X, Below w6.heap.size w6 X → ((convert 33 9 (.slice A8 n8 c8)).run Try.prog X = .ok (.string Z) X ∧ (convert 33 9 (.slice A9 n9 c9)).run Try.prog X = .ok (.string Z) X ∧ X.cell? ⟨Q, 0, none⟩ = some (.int .u64 hid) ∧ X.cell? ⟨Q, 1, none⟩ = some (.int .i64 off) ∧ X.cell? ⟨Q, 2, none⟩ = some (.int .u64 sec) ∧ X.cell? ⟨Q, 3, none⟩ = some (.int .i64 frk))) := fun X hX => by
          rw [← hZ]
          obtain ⟨_, _, _, _, _, k0, k1, k2, k3, _⟩ := (HP9.out.r.below hX).cells
          exact ⟨conv_by ((HY8.out.below hb9).below hX), conv_by (hy9.below hX), k0, k1, k2, k3⟩
        have HST : Hid (∀ X, Below w6.heap.size w6 X → Calls Try.prog 16 #[.pointer (some ⟨M, 0, none⟩)] X fun e w' => e = .returned (.agg #[.int .u64 hid, .int .i64 off, .int .u64 sec, .int .i64 frk]) ∧ Below w6.heap.size w6 w') := fun X hX => by
          refine (state_any X (HP9.out.d.below hX)).mono ?_
          rintro e w' ⟨rfl, h⟩
          exact ⟨rfl, below_then hX h⟩
        have HFI : Hid (∀ X, Below w6.heap.size w6 X → Calls Try.prog 17 #[.pointer (some ⟨Q, 0, none⟩)] X fun e w' => e = .returned (.int .i64 f) ∧ Below w6.heap.size w6 w') := fun X hX => by
          refine (rfirst_any X (HP9.out.r.below hX)).mono ?_
          rintro e w' ⟨rfl, n', rfl⟩
          exact ⟨by rw [hf], hX.trans (below_drewN _ X n')⟩
        have HAC : Hid (∀ X, Below w6.heap.size w6 X → Calls Try.prog 18 #[.pointer (some ⟨M, 0, none⟩), .int .u64 ask, .int .i64 of] X fun e w' => e = .returned (.bool (accB s ⟨hid, off, sec, frk⟩ X6 ask of)) ∧ Below w6.heap.size w6 w') := fun X hX => by
          refine (accepts_any X (HP9.out.d.below hX) ask of).mono ?_
          rintro e w' ⟨rfl, h⟩
          exact ⟨rfl, below_then hX h⟩
        have HRA : Hid (∀ X, Below w6.heap.size w6 X → Calls Try.prog 19 #[.pointer (some ⟨Q, 0, none⟩), .int .u64 ask, .int .i64 of] X fun e w' => e = .returned (.bool (accB s ⟨hid, off, sec, frk⟩ X6 ask of)) ∧ Below w6.heap.size w6 w') := fun X hX => by
          refine (raccepts_any X (HP9.out.r.below hX) ask of).mono ?_
          rintro e w' (⟨rfl, h⟩ | ⟨rfl, n', h⟩)
          · rw [h]; exact ⟨rfl, hX⟩
          · rw [h]; exact ⟨rfl, hX.trans (below_drewN _ X n')⟩
        obtain ⟨ac, hac⟩ : ∃ b, accB s ⟨hid, off, sec, frk⟩ X6 ask of = b := ⟨_, rfl⟩
        rw [hac] at HAC HRA
        have HNE : ∀ X, (binOp .neq 43 (.agg #[.int .u64 hid, .int .i64 off, .int .u64 sec, .int .i64 frk]) (.agg #[.int .u64 hid, .int .i64 off, .int .u64 sec, .int .i64 frk])).run Try.prog X = .ok (.bool false) X := fun X => hst_ne X _ _ _ _
        have HFIN : Hid (∀ X, Below w6.heap.size w6 X → Below M w X) := fun X hX => HB9.out.trans (hX.mono HP9.out.d.bs)
        clear hy9 hb9 hZ hac hf
        go_wp2_with fail
        go_region_held3 (fun X => (convert 33 9 (.slice A8 n8 c8)).run Try.prog X = .ok (.string Z) X ∧ (convert 33 9 (.slice A9 n9 c9)).run Try.prog X = .ok (.string Z) X ∧ X.cell? ⟨Q, 0, none⟩ = some (.int .u64 hid) ∧ X.cell? ⟨Q, 1, none⟩ = some (.int .i64 off) ∧ X.cell? ⟨Q, 2, none⟩ = some (.int .u64 sec) ∧ X.cell? ⟨Q, 3, none⟩ = some (.int .i64 frk)) (exact HCV.out _ (by first | exact HB13.out | exact HB12.out | exact HB11.out | exact HB10.out | exact Below.refl _ _ | exact (Below.refl _ _).drew | exact below_drewN _ _ _)) (first
          | (go_at_call 16; refine Calls.mono (HST.out _ (by first | exact HB13.out | exact HB12.out | exact HB11.out | exact HB10.out | exact Below.refl _ _ | exact (Below.refl _ _).drew | exact below_drewN _ _ _)) ?_; rintro en w10 ⟨rfl, hbq⟩; have HB10 := Lib.hid hbq; clear hbq)
          | (go_at_call 17; refine Calls.mono (HFI.out _ (by first | exact HB13.out | exact HB12.out | exact HB11.out | exact HB10.out | exact Below.refl _ _ | exact (Below.refl _ _).drew | exact below_drewN _ _ _)) ?_; rintro en w11 ⟨rfl, hbq⟩; have HB11 := Lib.hid hbq; clear hbq)
          | (go_at_call 18; refine Calls.mono (HAC.out _ (by first | exact HB13.out | exact HB12.out | exact HB11.out | exact HB10.out | exact Below.refl _ _ | exact (Below.refl _ _).drew | exact below_drewN _ _ _)) ?_; rintro en w12 ⟨rfl, hbq⟩; have HB12 := Lib.hid hbq; clear hbq)
          | (go_at_call 19; refine Calls.mono (HRA.out _ (by first | exact HB13.out | exact HB12.out | exact HB11.out | exact HB10.out | exact Below.refl _ _ | exact (Below.refl _ _).drew | exact below_drewN _ _ _)) ?_; rintro en w13 ⟨rfl, hbq⟩; have HB13 := Lib.hid hbq; clear hbq))
        all_goals
          have HE : Hid (Below M w _) := HFIN.out _ (by first | exact HB13.out | exact HB12.out | exact HB11.out | exact HB10.out | exact Below.refl _ _ | exact (Below.refl _ _).drew | exact below_drewN _ _ _)
          go_wp2
          go_roundw
          case rel => exact ⟨i + 1, F6, G6, _, X6, by go_num, by omega, by omega, HP9.out.below (by first | exact HB13.out | exact HB12.out | exact HB11.out | exact HB10.out | exact Below.refl _ _ | exact (Below.refl _ _).drew | exact below_drewN _ _ _), HE.out⟩
          case measure => simp only [intOf]; omega
      · have hx : (i < n ∧ ¬ i < 100) ∨ ¬ i < n := by omega
        clear hgo
        rcases hx with ⟨hlt, h100⟩ | hlt
        all_goals first
          | have h100n : ¬ (i : Int) < 100 := by omega
            have h100b : decide ((i : Int) < 100) = false := by simpa using h100n
            have hin : (i : Int) < n := by omega
            go_wp2_with fail
          | have hin : ¬ (i : Int) < n := by omega
            go_wp2_with fail
        all_goals
          refine (HAL.out _).mono ?_
          rintro e w7 ⟨rfl, hb7⟩
          have HB7 : Hid (Below M w w7) := HBR.out.trans (hb7.mono (by have := HBR.out.size; have := HM.out; omega))
          clear hb7
          go_wp2
          go_ret
          exact ⟨rfl, by rw [HM.out]; exact HB7.out⟩

end Go.Proofs.Ytbecjaamheibmaa
