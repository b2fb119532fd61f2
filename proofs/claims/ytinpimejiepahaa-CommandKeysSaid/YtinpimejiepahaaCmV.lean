/-
  CommandKeys' walk. Condition: the arguments lie in memory.
-/
import Derived.Test.YtinpimejiepahaaCmQ
namespace Go.Proofs.Ytinpimejiepahaa
open Go.RowKit

/-- The command that the statement looks up: of the first argument, else of get. -/
def firstT (L : List Tx) : Tx := L.headD [103, 101, 116]

/-- What the statement's last line asks. -/
theorem keys_some {L : List Tx} : (keysX L).2 = 1 ∨ ((keysX L).2 = 0 ∧ lkB (firstT L) = true ∧ ((lkS (firstT L)).2.2.2.2.1 = 0 ∨ 0 < (keysX L).1.length)) := by
  rcases hck : chk L with ⟨s, _ | T⟩
  · refine Or.inr ?_
    obtain ⟨hmem, htk⟩ := chk_some hck
    rw [keysX_ok hck]
    have hf : lookT (firstT L) = some s := by
      unfold chk at hck
      split at hck
      · cases hck
      · rename_i a ha
        have e : firstT L = a := by
          cases L with
          | nil => cases ha
          | cons b L => simp only [List.head?_cons, Option.some.injEq] at ha; exact ha
        rw [e]
        split at hck
        · cases hck
        · rename_i t ht
          split at hck
          · injection hck with h1 _
            rw [ht, h1]
          · cases hck
    refine ⟨rfl, by unfold lkB; rw [hf]; rfl, ?_⟩
    unfold lkS
    rw [hf]
    show s.2.2.2.2.1 = 0 ∨ 0 < (keysOf s L).length
    by_cases h0 : s.2.2.2.2.1 = 0
    · exact Or.inl h0
    · refine Or.inr ?_
      obtain ⟨h1, h2, h3, _, _⟩ := tk_ok hmem htk h0
      rw [keysOf_len]
      exact (cntK_iff (n := L.length) (k := 0) h1 h2).1 (by omega)
  · refine Or.inl ?_
    rw [keysX_err hck]

set_option maxRecDepth 100000 in
set_option maxHeartbeats 16000000 in
theorem keysL_any {A : Option Addr} {n c : Nat} {L : List Tx} (w : World) (h : TxAt w A n c L) :
    Calls Try.prog 5 #[.slice A n c] w fun e w' => e = .returned (.bool true) ∧ Below w.heap.size w w' := by
  have HFE := Lib.hid (few_any w h)
  have HAL := Lib.hid alive_any
  obtain ⟨K, hK⟩ : ∃ K, fewT L = K := ⟨_, rfl⟩
  have HSH := Lib.hid (fewT_short L)
  rw [hK] at HFE HSH
  have HCK := Lib.hid (fun (X : World) (A : Option Addr) (m c : Nat) (h : TxAt X A m c K) (hm : m ≤ 2000) => keys_any X h hm HSH.out)
  have HRK := Lib.hid (fun (X : World) (A : Option Addr) (m c : Nat) (h : TxAt X A m c K) (hm : m ≤ 2000) => rkeys_any X h hm HSH.out)
  have hsome := keys_some (L := K)
  have HLG := Lib.hid (fun X => rlook_any [103, 101, 116] (by decide) X)
  have HLK := Lib.hid (fun (a : Tx) (ha : a.length ≤ 1000) X => rlook_any a (by omega) X)
  obtain ⟨ee, hee⟩ : ∃ ee, (keysX K).2 = ee := ⟨_, rfl⟩
  obtain ⟨KS, hKS⟩ : ∃ KS, (keysX K).1 = KS := ⟨_, rfl⟩
  rw [hee, hKS] at HCK HRK hsome
  obtain ⟨B, hB⟩ : ∃ B, w.heap.size = B := ⟨_, rfl⟩
  have HBW := Lib.hid hB
  rw [hB] at HFE
  rw [hB]
  have HSO := Lib.hid hsome
  clear h hB hee hKS hK hsome
  go_enter Try.func5, Try.ntmps5
  go_wp2_with fail
  refine HFE.out.mono ?_
  rintro e w1 ⟨A1, m1, c1, rfl, h1, hb1, hm1⟩
  have HT1 := Lib.hid h1
  have HB1 := Lib.hid hb1
  clear h1 hb1
  go_wp2_with fail
  refine (HCK.out w1 A1 m1 c1 HT1.out hm1).mono ?_
  rintro e w2 ⟨A2, m2, c2, rfl, h2, hb2⟩
  have HK2 := Lib.hid h2
  have HT2 := Lib.hid (HT1.out.below hb2)
  have HB2 : Hid (Below B w w2) := HB1.out.trans (hb2.mono (by have := HB1.out.size; have := HBW.out; omega))
  clear h2 hb2
  go_wp2_with fail
  refine (HRK.out w2 A1 m1 c1 HT2.out hm1).mono ?_
  rintro e w3 ⟨A3, m3, c3, rfl, h3, hb3⟩
  obtain rfl : m2 = m3 := HK2.out.len.symm.trans h3.len
  have HK3 := Lib.hid h3
  have HK23 := Lib.hid (HK2.out.below hb3)
  have HT3 := Lib.hid (HT2.out.below hb3)
  have HB3 : Hid (Below B w w3) := HB2.out.trans (hb3.mono (by have := HB2.out.size; have := HBW.out; omega))
  have HKN := Lib.hid h3.len
  have hl2 := HK2.out.le
  have hl3 := h3.le
  have hmx2 := HK2.out.max
  have hmx3 := h3.max
  clear h3 hb3
  go_wp2_with fail
  go_loopw [7] (fun iv wr => ∃ i : Nat, iv = .int .i64 (i : Nat) ∧ i ≤ m2 ∧ Below w3.heap.size w3 wr) (fun iv _ => m2 - (intOf iv).toNat)
  case atStart => exact ⟨0, rfl, Nat.zero_le _, Below.refl _ _⟩
  case round =>
    obtain ⟨i, rfl, hi, hb⟩ := hrel
    have HB := Lib.hid hb
    by_cases hlt : i < m2
    · have hlt' : (i : Int) < (m2 : Int) := by omega
      have hi0 : (0 : Int) ≤ (i : Int) := by omega
      have hm0 : 0 < m2 := Nat.lt_of_le_of_lt (Nat.zero_le i) hlt
      obtain ⟨x, hx⟩ := HK3.out.get hlt
      obtain ⟨b1, o1, rfl, _, hc1⟩ := (HK23.out.below hb).at_ hm0
      obtain ⟨b2, o2, rfl, _, hc2⟩ := (HK3.out.below hb).at_ hm0
      have x0 := hc1 i x hx
      have y0 := hc2 i x hx
      obtain ⟨T2, hT2⟩ : ∃ T : ByteArray, (⟨x.toArray⟩ : ByteArray) = T := ⟨_, rfl⟩
      rw [hT2] at x0 y0
      have hTT : (T2.toList == T2.toList) = true := by simp
      clear hx hc1 hc2 hT2 hb
      go_wp2_with fail
      go_quiet (fail)
      all_goals
        go_wp2
        go_roundw
        case rel => exact ⟨i + 1, by go_num, hlt, HB.out.trans (below_drewN _ _ _)⟩
        case measure => simp only [intOf]; omega
    · obtain rfl : i = m2 := by omega
      have HB4 : Hid (Below B w wr) := HB3.out.trans (hb.mono (by have := HB3.out.size; have := HBW.out; omega))
      have HT4 := Lib.hid (HT3.out.below hb)
      have hlt' : ¬ (i : Int) < (i : Int) := by omega
      clear hb
      obtain ⟨⟨nm, g, ar, wr_, f, la, st⟩, hsp⟩ : ∃ s, lkS [103, 101, 116] = s := ⟨_, rfl⟩
      obtain ⟨bb, hbb⟩ : ∃ bb, lkB [103, 101, 116] = bb := ⟨_, rfl⟩
      have HLG2 := HLG
      rw [hsp, hbb] at HLG2
      unfold aggS encS at HLG2
      dsimp only at HLG2
      obtain ⟨T, hT⟩ : ∃ T : ByteArray, (⟨nm.toArray⟩ : ByteArray) = T := ⟨_, rfl⟩
      rw [hT] at HLG2
      have HSP := Lib.hid hsp
      have HBB := Lib.hid hbb
      clear hsp hbb hT
      go_wp2_with fail
      refine (HLG2.out _).mono ?_
      rintro e w5 ⟨rfl, hb5⟩
      have HT5 := Lib.hid (HT4.out.below hb5)
      have HB5 : Hid (Below B w w5) := HB4.out.trans (hb5.mono (by have := HB4.out.size; have := HBW.out; omega))
      obtain ⟨Q, hQ⟩ : ∃ Q, w5.heap.size = Q := ⟨_, rfl⟩
      obtain ⟨w6, hw6⟩ : ∃ w6, w5.alloc (.cells #[.string T, .int .i64 g, .int .i64 ar, .bool wr_, .int .i64 f, .int .i64 la, .int .i64 st] 27) = w6 := ⟨_, rfl⟩
      have HX6 : Hid (Box7 w6 Q (.string T) (.int .i64 g) (.int .i64 ar) (.bool wr_) (.int .i64 f) (.int .i64 la) (.int .i64 st)) := by unfold Hid; rw [← hw6, ← hQ]; exact Box7.new ..
      have hb6 : Below w5.heap.size w5 w6 := by rw [← hw6]; exact (Below.refl _ _).alloc (Nat.le_refl _) _
      have HT6 := Lib.hid (HT5.out.below hb6)
      have HB6 : Hid (Below B w w6) := HB5.out.trans (hb6.mono (by have := HB5.out.size; have := HBW.out; omega))
      have HW6 := Lib.hid hw6
      have HQB : Hid (B ≤ Q) := by have := HB5.out.size; have := HBW.out; unfold Hid; omega
      have hml := HT6.out.len
      clear hb5 hb6 hw6
      rcases Nat.eq_zero_or_pos m1 with h0 | h0
      · subst h0
        have hK0 : K = [] := List.eq_nil_of_length_eq_zero hml
        subst hK0
        have hso := HSO.out
        rw [show firstT [] = [103, 101, 116] from rfl, HSP.out, HBB.out] at hso
        dsimp only at hso
        have HSO2 := Lib.hid hso
        clear hso
        rcases HSO2.out with rfl | ⟨rfl, rfl, rfl | hm⟩
        · go_wp2_with fail
          rw [HW6.out]
          refine (HAL.out _).mono ?_
          rintro e w9 ⟨rfl, hb9⟩
          have HB9 : Hid (Below B w w9) := HB6.out.trans (hb9.mono (by have := HB6.out.size; have := HBW.out; omega))
          clear hb9
          go_wp2
          go_ret
          exact ⟨rfl, HB9.out⟩
        · go_wp2_with fail
          rw [HW6.out]
          refine (HAL.out _).mono ?_
          rintro e w9 ⟨rfl, hb9⟩
          have HB9 : Hid (Below B w w9) := HB6.out.trans (hb9.mono (by have := HB6.out.size; have := HBW.out; omega))
          clear hb9
          go_wp2
          go_ret
          exact ⟨rfl, HB9.out⟩
        · have hm' : (0 : Int) < (i : Int) := by rw [HKN.out] at hm; omega
          have hm2 : 0 < i := by omega
          by_cases hf0 : f = 0
          · subst hf0
            go_wp2_with fail
            rw [HW6.out]
            refine (HAL.out _).mono ?_
            rintro e w9 ⟨rfl, hb9⟩
            have HB9 : Hid (Below B w w9) := HB6.out.trans (hb9.mono (by have := HB6.out.size; have := HBW.out; omega))
            clear hb9
            go_wp2
            go_ret
            exact ⟨rfl, HB9.out⟩
          · go_wp2_with fail
            rw [HW6.out]
            refine (HAL.out _).mono ?_
            rintro e w9 ⟨rfl, hb9⟩
            have HB9 : Hid (Below B w w9) := HB6.out.trans (hb9.mono (by have := HB6.out.size; have := HBW.out; omega))
            clear hb9
            go_wp2
            go_ret
            exact ⟨rfl, HB9.out⟩
      · have h0' : (0 : Int) < (m1 : Int) := by omega
        obtain ⟨a, ha⟩ := HT6.out.get (j := 0) h0
        obtain ⟨b0, o0, rfl, _, hc0⟩ := HT6.out.at_ h0
        have hal : a.length ≤ 1000 := HSH.out a (List.mem_of_getElem? ha)
        have k0 : w6.cell? ⟨b0, o0, none⟩ = some (.string ⟨a.toArray⟩) := hc0 0 a ha
        have hfi : firstT K = a := by
          cases K with
          | nil => simp at ha
          | cons y K => simp only [List.getElem?_cons_zero, Option.some.injEq] at ha; exact ha
        have hso := HSO.out
        rw [hfi] at hso
        have HLA := HLK.out a hal
        obtain ⟨⟨nm2, g2, ar2, wr2, f2, la2, st2⟩, hsp⟩ : ∃ s, lkS a = s := ⟨_, rfl⟩
        obtain ⟨bb2, hbb⟩ : ∃ bb, lkB a = bb := ⟨_, rfl⟩
        rw [hsp, hbb] at HLA hso
        dsimp only at hso
        unfold aggS encS at HLA
        dsimp only at HLA
        obtain ⟨T2, hT2⟩ : ∃ T : ByteArray, (⟨nm2.toArray⟩ : ByteArray) = T := ⟨_, rfl⟩
        obtain ⟨TA, hTA⟩ : ∃ T : ByteArray, (⟨a.toArray⟩ : ByteArray) = T := ⟨_, rfl⟩
        rw [hT2, hTA] at HLA
        rw [hTA] at k0
        have HLA2 := Lib.hid HLA
        have HSO2 := Lib.hid hso
        have k0' : (w5.alloc (.cells #[.string T, .int .i64 g, .int .i64 ar, .bool wr_, .int .i64 f, .int .i64 la, .int .i64 st] 27)).cell? ⟨b0, o0, none⟩ = some (.string TA) := by rw [HW6.out]; exact k0
        clear ha hc0 hfi hso HLA hsp hbb hT2 hTA
        go_wp2_with fail
        rw [HW6.out]
        refine (HLA2.out _).mono ?_
        rintro e w7 ⟨rfl, hb7⟩
        obtain ⟨hQ7, z0, z1, z2, z3, z4, z5, z6, zf⟩ := HX6.out.below hb7
        have zf0 := zf 0
        have zf1 := zf 1
        have zf2 := zf 2
        have zf3 := zf 3
        have zf4 := zf 4
        have zf5 := zf 5
        have zf6 := zf 6
        have HB7 : Hid (Below B w w7) := HB6.out.trans (hb7.mono (by have := HB6.out.size; have := HBW.out; omega))
        have HBE : Hid (Below B w (((((((w7.setCell ⟨Q, 0, none⟩ (.string T2)).setCell ⟨Q, 1, none⟩ (.int .i64 g2)).setCell ⟨Q, 2, none⟩ (.int .i64 ar2)).setCell ⟨Q, 3, none⟩ (.bool wr2)).setCell ⟨Q, 4, none⟩ (.int .i64 f2)).setCell ⟨Q, 5, none⟩ (.int .i64 la2)).setCell ⟨Q, 6, none⟩ (.int .i64 st2))) := by
          unfold Hid
          iterate 7 (refine Below.setCell ?_ (by dsimp only; exact HQB.out) _)
          exact HB7.out
        clear hb7 zf
        rcases HSO2.out with rfl | ⟨rfl, rfl, rfl | hm⟩
        · go_wp2_with fail
          refine (HAL.out _).mono ?_
          rintro e w9 ⟨rfl, hb9⟩
          have HB9 : Hid (Below B w w9) := HBE.out.trans (hb9.mono (by have := HBE.out.size; have := HBW.out; omega))
          clear hb9
          go_wp2
          go_ret
          exact ⟨rfl, HB9.out⟩
        · go_wp2_with fail
          refine (HAL.out _).mono ?_
          rintro e w9 ⟨rfl, hb9⟩
          have HB9 : Hid (Below B w w9) := HBE.out.trans (hb9.mono (by have := HBE.out.size; have := HBW.out; omega))
          clear hb9
          go_wp2
          go_ret
          exact ⟨rfl, HB9.out⟩
        · have hm' : (0 : Int) < (i : Int) := by rw [HKN.out] at hm; omega
          have hm2 : 0 < i := by omega
          by_cases hf0 : f2 = 0
          · subst hf0
            go_wp2_with fail
            refine (HAL.out _).mono ?_
            rintro e w9 ⟨rfl, hb9⟩
            have HB9 : Hid (Below B w w9) := HBE.out.trans (hb9.mono (by have := HBE.out.size; have := HBW.out; omega))
            clear hb9
            go_wp2
            go_ret
            exact ⟨rfl, HB9.out⟩
          · go_wp2_with fail
            refine (HAL.out _).mono ?_
            rintro e w9 ⟨rfl, hb9⟩
            have HB9 : Hid (Below B w w9) := HBE.out.trans (hb9.mono (by have := HBE.out.size; have := HBW.out; omega))
            clear hb9
            go_wp2
            go_ret
            exact ⟨rfl, HB9.out⟩

end Go.Proofs.Ytinpimejiepahaa
