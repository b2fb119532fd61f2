/-
  Package table (values: int): the walks of Len, Sizes, where and Look. Conditions: the table lies in memory as it reads, and keeps what tables keep.
-/
import Derived.Test.YtcjoakbaldeaoaaGTcI
import Derived.BigQuiet
import Derived.Deep.QuietTactic
namespace Go.Proofs.Ytcjoakbaldeaoaa
open Go.RowKit

set_option maxRecDepth 100000 in
set_option maxHeartbeats 8000000 in
theorem lenI_any {base Q seed : Nat} {ow : Own} {t : Tb Int} {gA gB : Nat} {sA sB : Nat → Value} (w : World) (h : PT KI w base ow Q 67 seed t gA sA gB sB) :
    Calls Try.prog 18 #[.pointer (some ⟨Q, 0, none⟩)] w fun e w' => e = .returned (.int .i64 t.n) ∧ Below w.heap.size w w' := by
  have c0 : w.cell? ⟨Q, 0, none⟩ = some (.pointer (some ⟨Q, 0, none⟩)) := h.hd.cell (by omega)
  have c2 : w.cell? ⟨Q, 2, none⟩ = some (.int .i64 t.n) := h.hd.cell (by omega)
  have HM := Lib.hid (isMadeI_any Q w c0)
  clear h c0
  go_enter Try.func18, Try.ntmps18
  go_wp2_with fail
  refine HM.out.mono ?_
  rintro e w1 ⟨rfl, rfl⟩
  go_wp2
  go_ret
  exact ⟨rfl, Below.refl _ _⟩

set_option maxRecDepth 100000 in
set_option maxHeartbeats 8000000 in
theorem sizesI_any {base Q seed : Nat} {ow : Own} {t : Tb Int} {gA gB : Nat} {sA sB : Nat → Value} (w : World) (h : PT KI w base ow Q 67 seed t gA sA gB sB) (hpos : 0 < t.A.length) :
    Calls Try.prog 17 #[.pointer (some ⟨Q, 0, none⟩)] w fun e w' => e = .returned (.tuple #[.int .i64 t.A.length, .int .i64 t.B.length, .int .i64 t.moved]) ∧ Below w.heap.size w w' := by
  have c0 : w.cell? ⟨Q, 0, none⟩ = some (.pointer (some ⟨Q, 0, none⟩)) := h.hd.cell (by omega)
  have c3 : w.cell? ⟨Q, 3, none⟩ = some (rowV gA t.A.length) := h.hd.cell (by omega)
  have c4 : w.cell? ⟨Q, 4, none⟩ = some (rowV gB t.B.length) := h.hd.cell (by omega)
  have c5 : w.cell? ⟨Q, 5, none⟩ = some (.int .i64 t.moved) := h.hd.cell (by omega)
  have HM := Lib.hid (isMadeI_any Q w c0)
  rw [rowV_pos hpos] at c3
  obtain ⟨nb, hnb⟩ : ∃ n, t.B.length = n := ⟨_, rfl⟩
  obtain ⟨na, hna⟩ : ∃ n, t.A.length = n := ⟨_, rfl⟩
  rw [hnb] at c4 ⊢
  rw [hna] at c3 ⊢
  clear h c0 hnb hna hpos
  rcases Nat.eq_zero_or_pos nb with rfl | hn
  · replace c4 : w.cell? ⟨Q, 4, none⟩ = some (.slice none 0 0) := c4
    go_enter Try.func17, Try.ntmps17
    go_wp2_with fail
    refine HM.out.mono ?_
    rintro e w1 ⟨rfl, rfl⟩
    go_wp2_with fail
    go_quiet (fail)
    try go_wp2
    exact bodyPost_ret (v := .tuple #[.int .i64 na, .int .i64 (0 : Nat), .int .i64 t.moved]) (by simp [results, Try.results17, go_sem]) rfl ⟨rfl, ⟨rfl, rfl, rfl, Nat.le_refl _, fun _ _ => rfl⟩⟩
  · rw [rowV_pos hn] at c4
    go_enter Try.func17, Try.ntmps17
    go_wp2_with fail
    refine HM.out.mono ?_
    rintro e w1 ⟨rfl, rfl⟩
    go_wp2_with fail
    go_quiet (fail)
    try go_wp2
    exact bodyPost_ret (v := .tuple #[.int .i64 na, .int .i64 nb, .int .i64 t.moved]) (by simp [results, Try.results17, go_sem]) rfl ⟨rfl, ⟨rfl, rfl, rfl, Nat.le_refl _, fun _ _ => rfl⟩⟩

set_option maxRecDepth 100000 in
set_option maxHeartbeats 8000000 in
theorem whereI_any {base Q seed m : Nat} {ow : Own} {t : Tb Int} {gA gB : Nat} {sA sB : Nat → Value} (hs : seed < 18446744073709551616) (k : List UInt8) (K : ByteArray) (hK : K.data.toList = k) (hK63 : K.size ≤ 9223372036854775807) (w : World) (h : PT KI w base ow Q 67 seed t gA sA gB sB) (hg : Good (hashT seed) m t) (hm : m ≤ 100000) :
    Calls Try.prog 60 #[.pointer (some ⟨Q, 0, none⟩), .string K] w fun e w' => e = .returned (.tuple #[.pointer (some (whereG (hashT seed) t gA gB k).1), .int .i64 (whereG (hashT seed) t gA gB k).2]) ∧ Below w.heap.size w w' := by
  have hpos := hg.kept.pos
  have hna := hg.a
  have hnb := hg.b
  have c1 : w.cell? ⟨Q, 1, none⟩ = some (.int .u64 seed) := h.hd.cell (by omega)
  have c3 : w.cell? ⟨Q, 3, none⟩ = some (rowV gA t.A.length) := h.hd.cell (by omega)
  have c4 : w.cell? ⟨Q, 4, none⟩ = some (rowV gB t.B.length) := h.hd.cell (by omega)
  have hQ := World.block_lt_of_cell? w _ c1
  rw [rowV_pos hpos] at c3
  have HH := Lib.hid (phash_any seed hs K w hK63)
  rw [hK] at HH
  have hH := hashT_lt hs k
  obtain ⟨H, hHe⟩ : ∃ H, hashT seed k = H := ⟨_, rfl⟩
  have hA := getD_lt (R := t.A) (Nat.mod_lt H hpos)
  have HW : Hid (whereG (hashT seed) t gA gB k = if 0 ≤ idxG (t.A.getD (H % t.A.length) []) k ∨ t.B.length = 0 then (⟨gA, H % t.A.length, none⟩, idxG (t.A.getD (H % t.A.length) []) k) else (⟨gB, H % t.B.length, none⟩, idxG (t.B.getD (H % t.B.length) []) k)) := by unfold Hid whereG; rw [hHe]
  rw [hHe] at HH hH
  have hga := (h.a.row hpos).lt
  have HAc := Lib.hid ((h.a.row hpos).cell (Nat.mod_lt H hpos))
  have HAb := h.a.bkt _ _ hA
  have HOA := Lib.hid (fun w' => ofI_any gA t.A.length H w' hpos (by omega) hH)
  have HFA := Lib.hid (fun w' hl => findI_any base (sA (H % t.A.length)) (t.A.getD (H % t.A.length) []) k K hK w' hl (by have := hg.bktA hA; omega))
  have HFAo := Lib.hid (fun (w' : World) (hb : Below w.heap.size w w') => (h.below hb).a.bkt _ _ hA)
  have HMV := Lib.hid (fun w' c => movesI_any Q t.B.length gB w' c)
  rw [HW.out]
  by_cases hB0 : t.B.length = 0
  · rw [if_pos (Or.inr hB0)]
    rw [hB0] at c4 HMV
    have C4 := Lib.hid c4
    obtain ⟨ra, hra⟩ : ∃ r, H % t.A.length = r := ⟨_, rfl⟩
    obtain ⟨na, hnae⟩ : ∃ r, t.A.length = r := ⟨_, rfl⟩
    rw [hra] at HAc HFA HFAo HOA ⊢
    rw [hnae] at c3 HOA
    obtain ⟨ia, hia⟩ : ∃ i, idxG (t.A.getD ra []) k = i := ⟨_, rfl⟩
    rw [hia] at HFA ⊢
    have C3 := Lib.hid c3
    clear h hg hm hpos hna hnb hHe hA HW HAb hB0 hra hnae hia c4 hK
    by_cases hneg : ia < 0
    · go_enter Try.func60, Try.ntmps60
      go_wp2_with fail
      refine HH.out.mono ?_
      rintro e w1 ⟨rfl, hb1⟩
      have HB1 := Lib.hid hb1
      have d3 := (hb1.cell (p := ⟨Q, 3, none⟩) hQ).trans C3.out
      clear hb1 c3 c1
      go_wp2_with fail
      refine (HOA.out w1).mono ?_
      rintro e w1' ⟨rfl, rfl⟩
      have e1 := (HB1.out.cell (p := ⟨gA, ra, none⟩) hga).trans HAc.out
      clear d3
      go_wp2_with fail
      refine (HFA.out _ (HFAo.out _ HB1.out)).mono ?_
      rintro e w2 ⟨rfl, hb2⟩
      have HB2 := Lib.hid (HB1.out.trans (hb2.mono HB1.out.size))
      clear hb2 e1
      go_wp2_with fail
      refine (HMV.out w2 ((HB2.out.cell (p := ⟨Q, 4, none⟩) hQ).trans C4.out)).mono ?_
      rintro e w3 ⟨rfl, rfl⟩
      go_wp2
      go_ret2
      exact ⟨rfl, HB2.out⟩
    · go_enter Try.func60, Try.ntmps60
      go_wp2_with fail
      refine HH.out.mono ?_
      rintro e w1 ⟨rfl, hb1⟩
      have HB1 := Lib.hid hb1
      have d3 := (hb1.cell (p := ⟨Q, 3, none⟩) hQ).trans C3.out
      clear hb1 c3 c1
      go_wp2_with fail
      refine (HOA.out w1).mono ?_
      rintro e w1' ⟨rfl, rfl⟩
      have e1 := (HB1.out.cell (p := ⟨gA, ra, none⟩) hga).trans HAc.out
      clear d3
      go_wp2_with fail
      refine (HFA.out _ (HFAo.out _ HB1.out)).mono ?_
      rintro e w2 ⟨rfl, hb2⟩
      have HB2 := Lib.hid (HB1.out.trans (hb2.mono HB1.out.size))
      clear hb2 e1
      go_wp2
      go_ret2
      exact ⟨rfl, HB2.out⟩
  · have hBp : 0 < t.B.length := Nat.pos_of_ne_zero hB0
    rw [rowV_pos hBp] at c4
    have hBg := getD_lt (R := t.B) (Nat.mod_lt H hBp)
    have hgb := (h.b.row hBp).lt
    have HBc := Lib.hid ((h.b.row hBp).cell (Nat.mod_lt H hBp))
    have HOB := Lib.hid (fun w' => ofI_any gB t.B.length H w' hBp (by omega) hH)
    have HFB := Lib.hid (fun w' hl => findI_any base (sB (H % t.B.length)) (t.B.getD (H % t.B.length) []) k K hK w' hl (by have := hg.bktB hBg; omega))
    have HFBo := Lib.hid (fun (w' : World) (hb : Below w.heap.size w w') => (h.below hb).b.bkt _ _ hBg)
    have HMV2 : Hid (∀ (w' : World), w'.cell? ⟨Q, 4, none⟩ = some (.slice (some ⟨gB, 0, none⟩) t.B.length t.B.length) → Calls Try.prog 73 #[.pointer (some ⟨Q, 0, none⟩)] w' fun e w'' => e = .returned (.bool true) ∧ w'' = w') := by
      intro w' hc
      have := HMV.out w' (by rw [rowV_pos hBp]; exact hc)
      rw [decide_eq_true hBp] at this
      exact this
    have hor : (0 ≤ idxG (t.A.getD (H % t.A.length) []) k ∨ t.B.length = 0) ↔ 0 ≤ idxG (t.A.getD (H % t.A.length) []) k := by simp [hB0]
    obtain ⟨ra, hra⟩ : ∃ r, H % t.A.length = r := ⟨_, rfl⟩
    obtain ⟨rb, hrb⟩ : ∃ r, H % t.B.length = r := ⟨_, rfl⟩
    rw [hra] at hor
    rw [hra, hrb]
    simp only [hor]
    obtain ⟨na, hnae⟩ : ∃ r, t.A.length = r := ⟨_, rfl⟩
    obtain ⟨nb, hnbe⟩ : ∃ r, t.B.length = r := ⟨_, rfl⟩
    rw [hra] at HAc HFA HFAo HOA
    rw [hrb] at HBc HFB HFBo HOB
    rw [hnae] at c3 HOA
    rw [hnbe] at c4 HOB HMV2
    obtain ⟨ia, hia⟩ : ∃ i, idxG (t.A.getD ra []) k = i := ⟨_, rfl⟩
    obtain ⟨ib, hib⟩ : ∃ i, idxG (t.B.getD rb []) k = i := ⟨_, rfl⟩
    rw [hia] at HFA ⊢
    rw [hib] at HFB ⊢
    have C3 := Lib.hid c3
    have C4 := Lib.hid c4
    clear h hg hm hpos hna hnb hHe hA HW HAb hB0 hra hrb hnae hnbe hia hib hor hBp hBg HMV c4 hK
    by_cases hneg : ia < 0
    · rw [if_neg (by omega)]
      go_enter Try.func60, Try.ntmps60
      go_wp2_with fail
      refine HH.out.mono ?_
      rintro e w1 ⟨rfl, hb1⟩
      have HB1 := Lib.hid hb1
      have d3 := (hb1.cell (p := ⟨Q, 3, none⟩) hQ).trans C3.out
      clear hb1 c3 c1
      go_wp2_with fail
      refine (HOA.out w1).mono ?_
      rintro e w1' ⟨rfl, rfl⟩
      have e1 := (HB1.out.cell (p := ⟨gA, ra, none⟩) hga).trans HAc.out
      clear d3
      go_wp2_with fail
      refine (HFA.out _ (HFAo.out _ HB1.out)).mono ?_
      rintro e w2 ⟨rfl, hb2⟩
      have HB2 := Lib.hid (HB1.out.trans (hb2.mono HB1.out.size))
      clear hb2 e1
      have d4 := (HB2.out.cell (p := ⟨Q, 4, none⟩) hQ).trans C4.out
      have D4 := Lib.hid d4
      clear d4
      go_wp2_with fail
      refine (HMV2.out w2 D4.out).mono ?_
      rintro e w3 ⟨rfl, rfl⟩
      have d4 := D4.out
      go_wp2_with fail
      refine (HOB.out _).mono ?_
      rintro e w3' ⟨rfl, rfl⟩
      have e2 := (HB2.out.cell (p := ⟨gB, rb, none⟩) hgb).trans HBc.out
      clear d4
      go_wp2_with fail
      refine (HFB.out _ (HFBo.out _ HB2.out)).mono ?_
      rintro e w4 ⟨rfl, hb4⟩
      have HB4 := Lib.hid (HB2.out.trans (hb4.mono HB2.out.size))
      clear hb4 e2
      go_wp2
      go_ret2
      exact ⟨rfl, HB4.out⟩
    · rw [if_pos (by omega)]
      go_enter Try.func60, Try.ntmps60
      go_wp2_with fail
      refine HH.out.mono ?_
      rintro e w1 ⟨rfl, hb1⟩
      have HB1 := Lib.hid hb1
      have d3 := (hb1.cell (p := ⟨Q, 3, none⟩) hQ).trans C3.out
      clear hb1 c3 c1
      go_wp2_with fail
      refine (HOA.out w1).mono ?_
      rintro e w1' ⟨rfl, rfl⟩
      have e1 := (HB1.out.cell (p := ⟨gA, ra, none⟩) hga).trans HAc.out
      clear d3
      go_wp2_with fail
      refine (HFA.out _ (HFAo.out _ HB1.out)).mono ?_
      rintro e w2 ⟨rfl, hb2⟩
      have HB2 := Lib.hid (HB1.out.trans (hb2.mono HB1.out.size))
      clear hb2 e1
      go_wp2
      go_ret2
      exact ⟨rfl, HB2.out⟩

end Go.Proofs.Ytcjoakbaldeaoaa
