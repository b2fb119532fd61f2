/-
  The walk of DequeRuns at any texts and any script.
-/
import Derived.Test.YtkjcoengijedeabDrD
import Derived.Test.YtkjcoengijedeabDrS
namespace Go.Proofs.Ytkjcoengijedeab
open Go.RowKit

set_option maxRecDepth 100000 in
set_option maxHeartbeats 32000000 in
theorem dequeRuns_any {A : Option Addr} {n0 c : Nat} {L0 : List ByteArray} {B : Option Addr} {m cb g o : Nat} {S : List Op6} (w : World) (hL : SlAt w A n0 c (L0.map Value.string)) (hS : Scr6 w B m cb g o S) :
    Calls Try.prog 3 #[.slice A n0 c, .slice B m cb] w fun e w' => e = .returned (.bool true) ∧ Below w.heap.size w w' := by
  obtain ⟨ip, hip, hyp⟩ := Option.map_eq_some_iff.1 info_eltS
  simp only [Prod.mk.injEq] at hyp
  have HIP := Lib.hid hyp
  have HIQ := Lib.hid hip
  have hnc := hL.le
  have hcm := hL.max
  have hmb := hS.le
  have hbm := hS.max
  have HSC := Lib.hid hS
  obtain ⟨n, L, hn, hn3, HL, hsp⟩ : ∃ (n : Nat) (L : List ByteArray), n ≤ n0 ∧ n ≤ 300 ∧ Hid (SlAt w A n c (L.map Value.string)) ∧ ((300 < n0 ∧ Hid (300 = n)) ∨ (¬ 300 < n0 ∧ n = n0)) := by
    by_cases h : 300 < n0
    · exact ⟨300, L0.take 300, by omega, by omega, by unfold Hid; rw [List.map_take]; exact hL.first (by omega), Or.inl ⟨h, rfl⟩⟩
    · exact ⟨n0, L0, Nat.le_refl _, by omega, hL, Or.inr ⟨h, rfl⟩⟩
  have HLN : Hid (L.length = n) := by unfold Hid; have := HL.out.len; simpa using this
  have HAW := Lib.hid (awake_any w)
  have HT : Hid (300 = 300) := rfl
  clear hL hS hyp hip
  rcases hsp with ⟨h3, H4⟩ | ⟨h3, h4⟩
  case' inl => have h3b : (300 : Int) < (n0 : Int) := by omega
  case' inr =>
    have h3b : decide ((300 : Int) < (n0 : Int)) = false := decide_eq_false (by omega)
    subst h4
    have H4 := HT
  all_goals
    clear HT
    go_enter Try.func3, Try.ntmps3
    go_wp2_with fail
    refine HAW.out.mono ?_
    rintro e w1 ⟨rfl, hb1⟩
    have HB1 := Lib.hid hb1
    clear hb1
    go_wp2_with fail
    try rw [H4.out]
    refine (ofS_any w1 (HL.out.below HB1.out) (by omega)).mono ?_
    rintro e w2 ⟨D, F, rfl, hd, hb2⟩
    have HB2 := Lib.hid (HB1.out.trans (hb2.mono HB1.out.size))
    have HD2 := Lib.hid ((hd.base_le HB1.out.size).more (show L.length ≤ 1300 by rw [HLN.out]; omega))
    clear hd hb2
    obtain ⟨wx, hwx⟩ : ∃ wx, w2.alloc (.cells #[] 9) = wx := ⟨_, rfl⟩
    have hbx2 : Below w2.heap.size w2 wx := by rw [← hwx]; exact (Below.refl _ _).alloc (Nat.le_refl _) _
    have HBX := Lib.hid (HB2.out.trans (hbx2.mono HB2.out.size))
    have HEMP : Hid (wx.ownsRow w2.heap.size 9 1 (.slice (some ⟨w2.heap.size, 0, none⟩) 0 0) 0 []) := by
      unfold Hid
      rw [← hwx]
      exact World.ownsRow_made w2 #[] 0 (Nat.le_refl _) (by decide) rfl
    have HSX := Lib.hid (HL.out.below HBX.out)
    have HBX2 := Lib.hid hbx2
    have hxz : w2.heap.size ≤ wx.heap.size := hbx2.size
    have HWX := Lib.hid hwx
    clear hwx hbx2
    go_wp2_with (first | rw [HWX.out] | (at_builtin; refine wpList_append_sl rfl _ _ 22 rfl w2.heap.size 9 ip _ 16 Try.underlying22 HIQ.out HIP.out.1 HIP.out.2.1 HIP.out.2.2 rfl (.slice (some ⟨w2.heap.size, 0, none⟩) 0 0) 0 [] rfl HEMP.out A n c (L.map Value.string) (by first | rfl | (rw [H4.out]; rfl)) HSX.out (fun u hu => by obtain ⟨x, _, rfl⟩ := List.mem_map.1 hu; rfl) (by omega) (by omega) hxz ?_))
    intro v' w3 hown hgr hnil hat
    obtain ⟨A2, c2, rfl⟩ := own_form1 hown
    try rw [H4.out]
    try rw [Nat.zero_add, List.nil_append] at hown
    obtain ⟨w4, hw4⟩ : ∃ w4, w3.alloc (.cells #[.slice A2 n c2] 29) = w4 := ⟨_, rfl⟩
    have hb23 : Below w2.heap.size w2 w3 := HBX2.out.trans ((Below.refl _ _).grown hgr hxz (fun k e => by cases e; exact Nat.le_refl _))
    have hb34 : Below w3.heap.size w3 w4 := by rw [← hw4]; exact (Below.refl _ _).alloc (Nat.le_refl _) _
    have hb24 : Below w2.heap.size w2 w4 := hb23.trans (hb34.mono hb23.size)
    have hz4 : w4.heap.size = w3.heap.size + 1 := by rw [← hw4]; simp
    have hx4 : Boxed w4 w3.heap.size 29 (.slice A2 n c2) := by rw [← hw4]; exact Boxed.new w3 _ _
    have hlt2 := hown.lt
    have hw2 := HB2.out.size
    have h23 := hb23.size
    have HPR : Hid (PrOn w4 w.heap.size F D (fun k => k = w3.heap.size ∨ (Value.slice A2 n c2).ownBlock = some k) w3.heap.size 1300 L L) := by
      refine ⟨HD2.out.below hb24, ⟨fun k hk => ?_, Or.inl rfl, A2, c2, by rw [HLN.out]; exact hx4, ?_, by rw [HLN.out]; exact fun g hg => Or.inr hg⟩, fun k hk hg => ?_⟩
      · rcases hk with rfl | hk
        · exact ⟨by omega, by omega⟩
        · have := hlt2 k hk
          exact ⟨by omega, by omega⟩
      · rw [HLN.out]
        have q := ownsRow_of_block1 (w' := w4) hown (fun b hb => hb34.block b (hown.lt b hb).2)
        rcases q.2 with q2 | ⟨g, cap, cur, r1, r2, r3⟩
        · exact ⟨q.1, Or.inl q2⟩
        · exact ⟨q.1, Or.inr ⟨g, cap, cur, r1, Nat.le_trans hw2 r2, r3⟩⟩
      · have := (HD2.out.1 k hk).2
        rcases hg with rfl | hg
        · omega
        · have := hlt2 k hg
          omega
    have HB4 := Lib.hid (HB2.out.trans (hb24.mono hw2))
    obtain ⟨Q, hQ⟩ : ∃ Q, w3.heap.size = Q := ⟨_, rfl⟩
    obtain ⟨G, hG⟩ : ∃ G : Nat → Prop, (fun k => k = w3.heap.size ∨ (Value.slice A2 n c2).ownBlock = some k) = G := ⟨_, rfl⟩
    rw [hG, hQ] at HPR
    have HW4 := Lib.hid hw4
    have HQ := Lib.hid hQ
    clear hown hgr hnil hat hb23 hb34 hb24 hz4 hx4 hlt2 hw2 h23 hQ hG hw4 hxz
    go_wp2_with (first | rw [HW4.out] | rw [HQ.out])
    go_loopw [7] (fun iv wr => ∃ (i : Nat) (F5 G5 : Nat → Prop) (L5 : List ByteArray), iv = .int .i64 i ∧ i ≤ m ∧ i ≤ 300 ∧ PrOn wr w.heap.size F5 D G5 Q 1300 L5 L5 ∧ L5.length ≤ 300 + i ∧ Below w.heap.size w wr) (fun iv _ => m - (intOf iv).toNat)
    case atStart => exact ⟨0, F, G, L, rfl, Nat.zero_le _, by omega, HPR.out, by rw [HLN.out]; omega, HB4.out⟩
    case round =>
      obtain ⟨i, F5, G5, L5, rfl, hi, hi3, hpr, hl5, hbr⟩ := hrel
      have HP5 := Lib.hid hpr
      have HBR := Lib.hid hbr
      clear hpr hbr
      by_cases hgo : i < m ∧ i < 300
      · obtain ⟨hlt, h300⟩ := hgo
        obtain ⟨x, hx⟩ : ∃ x, S[i]? = some x := ⟨_, List.getElem?_eq_getElem (by rw [HSC.out.len]; exact hlt)⟩
        obtain ⟨rfl, hg⟩ := HSC.out.at_ (by omega)
        obtain ⟨x0, x1, x2, x3⟩ := HSC.out.cells i x hx
        obtain ⟨kd, xi, xk, xv⟩ := x
        dsimp only at x0 x1 x2 x3
        have HSX5 : Hid (∀ X, Below w.heap.size w X → X.cell? ⟨g, o + i * 4, none⟩ = some (.int .i64 kd) ∧ X.cell? ⟨g, o + i * 4 + 1, none⟩ = some (.int .i64 xi) ∧ X.cell? ⟨g, o + i * 4 + 2, none⟩ = some (.int .i64 xk) ∧ X.cell? ⟨g, o + i * 4 + 3, none⟩ = some (.string xv)) := fun X hX =>
          ⟨(hX.cell (p := ⟨g, o + i * 4, none⟩) hg).trans x0, (hX.cell (p := ⟨g, o + i * 4 + 1, none⟩) hg).trans x1, (hX.cell (p := ⟨g, o + i * 4 + 2, none⟩) hg).trans x2, (hX.cell (p := ⟨g, o + i * 4 + 3, none⟩) hg).trans x3⟩
        have h300i : (i : Int) < 300 := by omega
        have him : (i : Int) < (m : Int) := by omega
        have hi0 : (0 : Int) ≤ (i : Int) := by omega
        have HSTP : Hid (∀ X, Below wr.heap.size wr X → Calls Try.prog 10 #[.pointer (some ⟨D, 0, none⟩), .pointer (some ⟨Q, 0, none⟩), .agg #[.int .i64 kd, .int .i64 xi, .int .i64 xk, .string xv]] X fun e w' => e = .returned (.bool true) ∧ PrTo X w.heap.size D Q 1300 (L5.length + 1) w' ∧ Below w.heap.size w w') := fun X hX => by
          refine (step_any X (HP5.out.below hX) (by omega) (by unfold moreS; omega) (by omega) kd xi xk xv).mono ?_
          rintro e w' ⟨rfl, F6, G6, L6, r1, r2, r3⟩
          exact ⟨rfl, ⟨F6, G6, L6, r1, r2, r3⟩, (HBR.out.trans (hX.mono HBR.out.size)).trans r3⟩
        clear hx x0 x1 x2 x3
        by_cases h16 : (i : Int).tmod 16 = 0
        · go_wp2_with fail
          rw [show Op.load 22 (Operand.tmp 45) = id (Op.load 22 (Operand.tmp 45)) from rfl, show Op.load 22 (Operand.tmp 58) = id (Op.load 22 (Operand.tmp 58)) from rfl]
          go_region_held3 (fun X => X.cell? ⟨g, o + i * 4, none⟩ = some (.int .i64 kd) ∧ X.cell? ⟨g, o + i * 4 + 1, none⟩ = some (.int .i64 xi) ∧ X.cell? ⟨g, o + i * 4 + 2, none⟩ = some (.int .i64 xk) ∧ X.cell? ⟨g, o + i * 4 + 3, none⟩ = some (.string xv)) (first | exact HSX5.out _ HBR.out | exact HSX5.out _ HBR.out.drew | exact HSX5.out _ HB6.out | exact HSX5.out _ HB7.out)
            (first
            | (have qq := HP6; clear qq; go_at_call 12; refine Calls.mono (HSAM.out) ?_; rintro en w7 ⟨rfl, hb7⟩; have HB7 := Lib.hid (HB6.out.trans (hb7.mono HB6.out.size)); have HP7 := Lib.hid (HP6.out.below hb7); clear hb7)
            | (have qq := HP6; clear qq; go_at_call 11; refine Calls.mono (HLEN.out) ?_; rintro en w8 ⟨rfl, rfl⟩)
            | (go_at_call 10; refine Calls.mono (HSTP.out _ (by first | exact (Below.refl _ _).drew | exact Below.refl _ _)) ?_; rintro en w6 ⟨rfl, ⟨F6, G6, L6, h6, hl6, -⟩, hb6⟩; have HP6 := Lib.hid h6; have HB6 := Lib.hid hb6; obtain ⟨A6, c6, q1, q2, -⟩ := h6.r.2.2; have HLEN := Lib.hid (lenS_any w6 h6.d); have HSAM := Lib.hid (lsame_any w6 h6.d (by omega) (SlAt.own q2) (by omega)); have cq6 := q1.cell; obtain ⟨n6, hn6⟩ : ∃ n6, L6.length = n6 := ⟨_, rfl⟩; rw [hn6] at HLEN HSAM cq6 hl6; have HN6 := Lib.hid hn6; clear h6 hb6 q1 q2 hn6))
          all_goals
            go_wp2
            go_roundw
            case rel => exact ⟨i + 1, F6, G6, L6, by go_num, by omega, by omega, HP7.out, by rw [HN6.out]; omega, HB7.out⟩
            case measure => simp only [intOf]; omega
        · obtain ⟨r16, hr16⟩ : ∃ r, (i : Int).tmod 16 = r := ⟨_, rfl⟩
          rw [hr16] at h16
          have hb16 : (r16 == 0) = false := by simpa using h16
          have hd16 : decide (r16 = 0) = false := by simpa using h16
          go_wp2_with fail
          have e1 : ∀ ty pos af gd, Oper.mk (some 55) (Op.move (Operand.tmp 5)) ty pos af gd = Oper.mk (some 55) (id (Op.move (Operand.tmp 5))) ty pos af gd := fun _ _ _ _ => rfl
          have e2 : ∀ ty pos af gd, Oper.mk (some 56) (Op.move (Operand.tmp 6)) ty pos af gd = Oper.mk (some 56) (id (Op.move (Operand.tmp 6))) ty pos af gd := fun _ _ _ _ => rfl
          have e3 : ∀ ty pos af gd, Oper.mk (some 57) (Op.nilCheck (Operand.tmp 56)) ty pos af gd = Oper.mk (some 57) (id (Op.nilCheck (Operand.tmp 56))) ty pos af gd := fun _ _ _ _ => rfl
          have e4 : ∀ ty pos af gd, Oper.mk (some 58) (Op.fieldAddr 29 (Operand.tmp 57) 0) ty pos af gd = Oper.mk (some 58) (id (Op.fieldAddr 29 (Operand.tmp 57) 0)) ty pos af gd := fun _ _ _ _ => rfl
          have e5 : ∀ ty pos af gd, Oper.mk (some 61) (Op.unOp UnOp.not 4 (Operand.tmp 60)) ty pos af gd = Oper.mk (some 61) (id (Op.unOp UnOp.not 4 (Operand.tmp 60))) ty pos af gd := fun _ _ _ _ => rfl
          rw [show Op.load 22 (Operand.tmp 45) = id (Op.load 22 (Operand.tmp 45)) from rfl, show Op.load 22 (Operand.tmp 58) = id (Op.load 22 (Operand.tmp 58)) from rfl]
          rw [e1, e2, e3, e4, e5]
          clear e1 e2 e3 e4 e5
          go_region_held3 (fun X => X.cell? ⟨g, o + i * 4, none⟩ = some (.int .i64 kd) ∧ X.cell? ⟨g, o + i * 4 + 1, none⟩ = some (.int .i64 xi) ∧ X.cell? ⟨g, o + i * 4 + 2, none⟩ = some (.int .i64 xk) ∧ X.cell? ⟨g, o + i * 4 + 3, none⟩ = some (.string xv)) (first | exact HSX5.out _ HBR.out | exact HSX5.out _ HBR.out.drew | exact HSX5.out _ HB6.out)
            (first
            | (have qq := HP6; clear qq; go_at_call 11; refine Calls.mono (HLEN.out) ?_; rintro en w8 ⟨rfl, rfl⟩)
            | (go_at_call 10; refine Calls.mono (HSTP.out _ (by first | exact (Below.refl _ _).drew | exact Below.refl _ _)) ?_; rintro en w6 ⟨rfl, ⟨F6, G6, L6, h6, hl6, -⟩, hb6⟩; have HP6 := Lib.hid h6; have HB6 := Lib.hid hb6; obtain ⟨A6, c6, q1, q2, -⟩ := h6.r.2.2; have HLEN := Lib.hid (lenS_any w6 h6.d); have HSAM := Lib.hid (lsame_any w6 h6.d (by omega) (SlAt.own q2) (by omega)); have cq6 := q1.cell; obtain ⟨n6, hn6⟩ : ∃ n6, L6.length = n6 := ⟨_, rfl⟩; rw [hn6] at HLEN HSAM cq6 hl6; have HN6 := Lib.hid hn6; clear h6 hb6 q1 q2 hn6))
          all_goals
            go_wp2
            go_roundw
            case rel => exact ⟨i + 1, F6, G6, L6, by go_num, by omega, by omega, HP6.out, by rw [HN6.out]; omega, HB6.out⟩
            case measure => simp only [intOf]; omega
      · have hx : (i < m ∧ ¬ i < 300) ∨ ¬ i < m := by omega
        obtain ⟨A6, c6, q1, q2, -⟩ := HP5.out.r.2.2
        have HSAM := Lib.hid (lsame_any wr HP5.out.d (by omega) (SlAt.own q2) (by omega))
        have cq6 := q1.cell
        obtain ⟨n6, hn6⟩ : ∃ n6, L5.length = n6 := ⟨_, rfl⟩
        rw [hn6] at HSAM cq6
        clear hgo q1 q2 hn6 hl5
        rcases hx with ⟨hlt, h300⟩ | hlt
        all_goals first
          | have h300n : ¬ (i : Int) < 300 := by omega
            have h300b : decide ((i : Int) < 300) = false := by simpa using h300n
            have hin : (i : Int) < m := by omega
            go_wp2_with fail
          | have hin : ¬ (i : Int) < m := by omega
            go_wp2_with fail
        all_goals
          refine HSAM.out.mono ?_
          rintro e w7 ⟨rfl, hb7⟩
          have HB7 := Lib.hid (HBR.out.trans (hb7.mono HBR.out.size))
          clear hb7
          go_wp2
          go_ret
          exact ⟨rfl, HB7.out⟩

end Go.Proofs.Ytkjcoengijedeab
