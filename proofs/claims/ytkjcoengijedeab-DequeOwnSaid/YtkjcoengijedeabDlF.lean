/-
  The walk of DequeOwn at any texts.
-/
import Derived.Test.YtkjcoengijedeabDlD
import Derived.Test.YtkjcoengijedeabDlB
namespace Go.Proofs.Ytkjcoengijedeab
open Go.RowKit

/-- Texts of a row of the call's own are written one by one: what is left of others. -/
structure OwnR (w0 : World) (b0 : Nat) (v : Value) (n : Nat) (w : World) : Prop where
  row : ∃ xs, w.ownsRow b0 9 1 v n xs
  only : Only (fun k => v.ownBlock = some k) w0 w

theorem OwnR.step {w0 w : World} {b0 g n c i : Nat} (h : OwnR w0 b0 (.slice (some ⟨g, 0, none⟩) n c) n w) (u : Value) : OwnR w0 b0 (.slice (some ⟨g, 0, none⟩) n c) n (w.setCell ⟨g, i, none⟩ u) := by
  obtain ⟨xs, hr⟩ := h.row
  exact ⟨⟨_, (World.ownsRow.stored hr i u).1⟩, h.only.set (q := ⟨g, i, none⟩) rfl u⟩

theorem OwnR.cell {w0 w : World} {b0 n c i : Nat} {A : Option Addr} (h : OwnR w0 b0 (.slice A n c) n w) (hi : i < n) : ∃ g u, A = some ⟨g, 0, none⟩ ∧ w.cell? ⟨g, i, none⟩ = some u ∧ w.frozen? ⟨g, i, none⟩ = false := by
  obtain ⟨xs, hr⟩ := h.row
  rcases hr.2 with ⟨q, q2⟩ | ⟨g, cap, cur, q, _, hg, q4, _, q6, _⟩
  · omega
  · injection q with q
    subst q
    have hl : i < cur.size := by omega
    exact ⟨g, cur[i], rfl, by simp [World.cell?, hg, hl], by simp [World.frozen?, hg]⟩

set_option maxRecDepth 100000 in
set_option maxHeartbeats 16000000 in
theorem dequeOwn_any {A : Option Addr} {n0 c : Nat} {L0 : List ByteArray} (w : World) (hL : SlAt w A n0 c (L0.map Value.string)) :
    Calls Try.prog 6 #[.slice A n0 c] w fun e w' => e = .returned (.bool true) ∧ Below w.heap.size w w' := by
  obtain ⟨ip, hip, hyp⟩ := Option.map_eq_some_iff.1 info_eltS
  simp only [Prod.mk.injEq] at hyp
  have HIP := Lib.hid hyp
  have HIQ := Lib.hid hip
  have hnc := hL.le
  have hcm := hL.max
  obtain ⟨n, L, hn, hn3, HL, hsp⟩ : ∃ (n : Nat) (L : List ByteArray), n ≤ n0 ∧ n ≤ 300 ∧ Hid (SlAt w A n c (L.map Value.string)) ∧ ((300 < n0 ∧ Hid (300 = n)) ∨ (¬ 300 < n0 ∧ n = n0)) := by
    by_cases h : 300 < n0
    · exact ⟨300, L0.take 300, by omega, by omega, by unfold Hid; rw [List.map_take]; exact hL.first (by omega), Or.inl ⟨h, rfl⟩⟩
    · exact ⟨n0, L0, Nat.le_refl _, by omega, hL, Or.inr ⟨h, rfl⟩⟩
  have HLN : Hid (L.length = n) := by unfold Hid; have := HL.out.len; simpa using this
  have HAW := Lib.hid (awake_any w)
  have HT : Hid (300 = 300) := rfl
  clear hL hyp hip
  rcases hsp with ⟨h3, H4⟩ | ⟨h3, h4⟩
  case' inl => have h3b : (300 : Int) < (n0 : Int) := by omega
  case' inr =>
    have h3b : decide ((300 : Int) < (n0 : Int)) = false := decide_eq_false (by omega)
    subst h4
    have H4 := HT
  all_goals
    clear HT
    go_enter Try.func6, Try.ntmps6
    go_wp2_with fail
    refine HAW.out.mono ?_
    rintro e w1 ⟨rfl, hb1⟩
    have HB1 := Lib.hid hb1
    clear hb1
    obtain ⟨wx, hwx⟩ : ∃ wx, w1.alloc (.cells #[] 9) = wx := ⟨_, rfl⟩
    have HBX : Hid (Below w.heap.size w wx) := by unfold Hid; rw [← hwx]; exact HB1.out.alloc HB1.out.size _
    have HEMP : Hid (wx.ownsRow w1.heap.size 9 1 (.slice (some ⟨w1.heap.size, 0, none⟩) 0 0) 0 []) := by
      unfold Hid
      rw [← hwx]
      exact World.ownsRow_made w1 #[] 0 (Nat.le_refl _) (by decide) rfl
    have HSX := Lib.hid (HL.out.below HBX.out)
    have hxz : w1.heap.size ≤ wx.heap.size := by rw [← hwx]; simp
    have HWX := Lib.hid hwx
    clear hwx
    go_wp2_with (first | rw [HWX.out] | (at_builtin; refine wpList_append_sl rfl _ _ 22 rfl w1.heap.size 9 ip _ 16 Try.underlying22 HIQ.out HIP.out.1 HIP.out.2.1 HIP.out.2.2 rfl (.slice (some ⟨w1.heap.size, 0, none⟩) 0 0) 0 [] rfl HEMP.out A n c (L.map Value.string) (by first | rfl | (rw [H4.out]; rfl)) HSX.out (fun u hu => by obtain ⟨x, _, rfl⟩ := List.mem_map.1 hu; rfl) (by omega) (by omega) hxz ?_; intro v' w2 hown hgr hnil hat; obtain ⟨A2, c2, rfl⟩ := own_form1 hown))
    try rw [H4.out]
    rw [Nat.zero_add, List.nil_append] at hown
    have HB2 : Hid (Below w.heap.size w w2) := HBX.out.grown hgr HBX.out.size (fun k e => by cases e; exact HB1.out.size)
    have HOWN := Lib.hid hown
    have HO1 : Hid (∀ g, (Value.slice A2 n c2).ownBlock = some g → w.heap.size ≤ g ∧ g < w2.heap.size) := fun g hg => ⟨Nat.le_trans HB1.out.size (hown.lt g hg).1, (hown.lt g hg).2⟩
    have HOF := Lib.hid (ofS_any w2 (SlAt.own hown) (by omega))
    clear hown hgr hnil hat
    refine HOF.out.mono ?_
    rintro e w3 ⟨D, F, rfl, hd, hb3⟩
    have HD3 := Lib.hid (hd.more (show L.length ≤ 1000 by rw [HLN.out]; omega))
    have HR3 : Hid (OwnR w3 w1.heap.size (.slice A2 n c2) n w3) := ⟨⟨_, ownsRow_of_block1 HOWN.out (fun b hb => hb3.block b (HO1.out b hb).2)⟩, Only.refl _ _⟩
    have HB3 := Lib.hid (HB2.out.trans (hb3.mono HB2.out.size))
    clear hd hb3
    go_wp2_with fail
    go_loopw [5] (fun iv wr => ∃ i : Nat, iv = .int .i64 i ∧ i ≤ n ∧ OwnR w3 w1.heap.size (.slice A2 n c2) n wr) (fun iv _ => n - (intOf iv).toNat)
    case atStart => exact ⟨0, rfl, Nat.zero_le _, HR3.out⟩
    case round =>
      obtain ⟨i, rfl, hi, hr⟩ := hrel
      have HR := Lib.hid hr
      clear hr
      by_cases hlt : i < n
      · obtain ⟨g, u, rfl, hc0, hf0⟩ := HR.out.cell hlt
        have hin : (i : Int) < (n : Int) := by omega
        go_wp2
        go_roundw
        case rel => exact ⟨i + 1, by go_num, by omega, HR.out.step _⟩
        case measure => simp only [intOf]; omega
      · obtain rfl : i = n := by omega
        obtain ⟨wo, rfl⟩ : ∃ wo : World, wo = wr := ⟨_, rfl⟩
        have HBo : Hid (Below w.heap.size w wo) := HB3.out.trans (HR.out.only.below HB3.out.size (fun k hk e => by have := (HO1.out k e).1; omega))
        have HDo := Lib.hid (HD3.out.only HR.out.only (fun k hk e => by have := (HO1.out k e).2; have := (HD3.out.1 k hk).1; omega))
        have HLI := Lib.hid (listS_any wo HDo.out (by omega) (by rw [HLN.out]; omega))
        rw [HLN.out] at HLI
        go_wp2_with fail
        refine HLI.out.mono ?_
        rintro e w4 ⟨va, rfl, hra, hb4⟩
        obtain ⟨A3, c3, rfl⟩ := own_form1 hra
        have HO2 : Hid (∀ g, (Value.slice A3 i c3).ownBlock = some g → wo.heap.size ≤ g ∧ g < w4.heap.size) := fun g hg => hra.lt g hg
        have HR4 : Hid (OwnR w4 wo.heap.size (.slice A3 i c3) i w4) := ⟨⟨_, hra⟩, Only.refl _ _⟩
        have HB4 := Lib.hid (HBo.out.trans (hb4.mono HBo.out.size))
        have HD4 := Lib.hid (HDo.out.below hb4)
        have HFL : Hid (∀ k, F k → k < wo.heap.size) := fun k hk => (HDo.out.1 k hk).2
        clear hra hb4
        go_wp2_with fail
        go_loopw [7] (fun iv wr => ∃ j : Nat, iv = .int .i64 j ∧ j ≤ i ∧ OwnR w4 wo.heap.size (.slice A3 i c3) i wr) (fun iv _ => i - (intOf iv).toNat)
        case atStart => exact ⟨0, rfl, Nat.zero_le _, HR4.out⟩
        case round =>
          obtain ⟨j, rfl, hj, hr⟩ := hrel
          have HS := Lib.hid hr
          clear hr
          by_cases hlt2 : j < i
          · obtain ⟨g, u, rfl, hc0, hf0⟩ := HS.out.cell hlt2
            have hin : (j : Int) < (i : Int) := by omega
            go_wp2
            go_roundw
            case rel => exact ⟨j + 1, by go_num, by omega, HS.out.step _⟩
            case measure => simp only [intOf]; omega
          · obtain rfl : j = i := by omega
            have hwo := HBo.out.size
            have HB5 : Hid (Below w.heap.size w wr) := HB4.out.trans (HS.out.only.below HB4.out.size (fun k hk e => by have := (HO2.out k e).1; omega))
            have HD5 := Lib.hid (HD4.out.only HS.out.only (fun k hk e => by have := (HO2.out k e).1; have := HFL.out k hk; omega))
            have HSA := Lib.hid (lsame_any wr HD5.out (by omega) (HL.out.below HB5.out) (by omega))
            go_wp2_with fail
            refine HSA.out.mono ?_
            rintro e w6 ⟨rfl, hb6⟩
            have HB6 := Lib.hid (HB5.out.trans (hb6.mono HB5.out.size))
            clear hb6
            go_wp2
            go_ret
            exact ⟨rfl, HB6.out⟩

end Go.Proofs.Ytkjcoengijedeab
