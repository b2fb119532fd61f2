/-
  The document's own Load. Conditions: the members lie in memory. The law SkipRanges: its walk. Conditions: the members lie in memory; the table of math/bits lies where the program laid it.
-/
import Derived.Test.YtcbiiioglklpoaaDoorSkS5
import Derived.Test.YtcbiiioglklpoaaDoorSkS8
namespace Go.Proofs.YtcbiiioglklpoaaDoor
open Go.RowKit

set_option maxRecDepth 100000 in
set_option maxHeartbeats 16000000 in
theorem rload_any {A : Option Addr} {n cp : Nat} {l : List Mb} (w : World) (hl : ScAt w A n cp l) (hn : n ≤ 900000) :
    Calls Tryd.prog 18 #[.slice A n cp] w fun e w' => Below w.heap.size w w' ∧ ((Each l ∧ ∃ O A' c', Ord O ∧ O.Perm l ∧ e = .returned (.tuple #[.slice A' n c', .int .i64 0]) ∧ SdAt w' A' n c' O) ∨ (¬ Each l ∧ e = .returned (.tuple #[.slice none 0 0, .int .i64 70]))) := by
  have hln : l.length = n := hl.len
  have HL := Lib.hid hl
  have HN := Lib.hid hln
  obtain ⟨M, hM⟩ : ∃ M, w.heap.size = M := ⟨_, rfl⟩
  have HMh := Lib.hid hM
  rw [hM]
  clear hl hln hM
  go_enter Tryd.func18, Tryd.ntmps18
  go_wp2
  go_loopw [4, 5] (fun ov iv wr => ∃ (i : Nat) (O : List Mb) (A' : Option Addr) (c' : Nat), iv = .int .i64 i ∧ ov = .slice A' i c' ∧ i ≤ n ∧ Ord O ∧ O.Perm (l.take i) ∧ SdAt wr A' i c' O ∧ Below M w wr) (fun _ iv _ => n - (intOf iv).toNat)
  case atStart => exact ⟨0, [], none, 0, rfl, rfl, Nat.zero_le _, Ord.nil, by simp, SdAt.nil w, Below.refl _ _⟩
  case round =>
    obtain ⟨i, O, A1, c1, rfl, rfl, hi, hO, hp, hs, hb⟩ := hrel
    have HO := Lib.hid hO
    have HP := Lib.hid hp
    have HSD := Lib.hid hs
    have HBW := Lib.hid hb
    by_cases hlt : i < n
    · obtain ⟨x, hx⟩ : ∃ x, l[i]? = some x := ⟨_, List.getElem?_eq_getElem (by rw [HN.out]; exact hlt)⟩
      have hlt' : (i : Int) < n := by omega
      have hb' : Below w.heap.size w wr := by rw [HMh.out]; exact hb
      obtain ⟨b, o, hAe, hbl, hc⟩ := (HL.out.below hb').at_ (by omega)
      subst hAe
      obtain ⟨y0, y1⟩ := hc i x hx
      have HX := Lib.hid hx
      have HF := rfind_any wr hs.1 ⟨x.1.toArray⟩
      have HU := fun X (hX : Below wr.heap.size wr X) => rput_any X (hs.below hX) hO.1 (by omega) ⟨x.1.toArray⟩ x.2
      have ed : (⟨x.1.toArray⟩ : ByteArray).data.toList = x.1 := by simp
      rw [ed] at HF HU
      obtain ⟨TT, hTT⟩ : ∃ T : ByteArray, (⟨x.1.toArray⟩ : ByteArray) = T := ⟨_, rfl⟩
      obtain ⟨Z, hZ⟩ : ∃ Z, x.2 = Z := ⟨_, rfl⟩
      rw [hTT] at y0 HF HU
      rw [hZ] at y1
      have hZZ := Lib.hid hZ
      rcases hf : fndM O x.1 with _ | j
      · obtain ⟨s1, s2, _⟩ := load_step hO hp hx hf
        have hplen : (putM O x.1 x.2).length = i + 1 := by rw [s2.length_eq, List.length_take, HN.out]; omega
        have HF2 : Hid (Calls Tryd.prog 24 #[.slice A1 i c1, .string TT] wr fun e w' => e = .returned (.int .i64 (-1)) ∧ w' = wr) := by have q := HF; rw [hf] at q; exact q
        obtain ⟨O2, hO2⟩ : ∃ O2, putM O x.1 x.2 = O2 := ⟨_, rfl⟩
        have HU2 := Lib.hid HU
        rw [hO2, hZ] at HU2
        rw [hO2] at s1 s2 hplen
        have HS1 := Lib.hid s1
        have HS2 := Lib.hid s2
        have HPL := Lib.hid hplen
        have H0 : Hid (Below wr.heap.size wr wr) := Below.refl _ _
        have HSX : Hid (∀ X, Below wr.heap.size wr X → Below wr.heap.size wr X ∧ X.cell? ⟨b, o + i * 2, none⟩ = some (.string TT) ∧ X.cell? ⟨b, o + i * 2 + 1, none⟩ = some (.int .i64 Z)) := fun X hX =>
          ⟨hX, (hX.cell (p := ⟨b, o + i * 2, none⟩) hbl).trans y0, (hX.cell (p := ⟨b, o + i * 2 + 1, none⟩) hbl).trans y1⟩
        clear HF HU hf hO hp hs hb hb' hc hx hTT hZ s1 s2 hplen hO2 ed
        go_wp2_with fail
        refine HF2.out.mono ?_
        rintro e w1 ⟨rfl, hw1⟩
        rw [hw1]
        clear hw1
        go_wp2_with fail
        go_region_held3 (fun X => Below wr.heap.size wr X ∧ X.cell? ⟨b, o + i * 2, none⟩ = some (.string TT) ∧ X.cell? ⟨b, o + i * 2 + 1, none⟩ = some (.int .i64 Z))
          (first | exact HSX.out _ HC1.out | exact HSX.out _ H0.out.drew | exact HSX.out _ H0.out)
          (first | (go_at_call 26; refine Calls.mono (HU2.out _ (by first | exact H0.out.drew | exact H0.out)) ?_; rintro en x1 ⟨A4, c4, rfl, hs4, hb4⟩; have HC1 : Hid (Below wr.heap.size wr x1) := (by first | exact hb4 | exact (Below.refl _ _).drew.trans hb4); have HS4 := Lib.hid hs4; clear hs4 hb4))
        all_goals
          rw [HPL.out] at HS4 ⊢
          go_wp2
          go_roundw
          case rel => exact ⟨i + 1, O2, A4, c4, by go_num, rfl, hlt, HS1.out, HS2.out, HS4.out, HBW.out.trans (HC1.out.mono (by have := HBW.out.size; have := HMh.out; omega))⟩
          case measure => simp only [intOf]; omega
      · have HE := Lib.hid (load_stop hp hx hf)
        have HF2 : Hid (Calls Tryd.prog 24 #[.slice A1 i c1, .string TT] wr fun e w' => e = .returned (.int .i64 (j : Nat)) ∧ w' = wr) := by have q := HF; rw [hf] at q; exact q
        clear HF HU hf hO hp hs hb hb' hc hx hTT hZ ed
        go_wp2_with fail
        refine HF2.out.mono ?_
        rintro e w1 ⟨rfl, hw1⟩
        rw [hw1]
        clear hw1
        go_wp2
        go_ret2
        exact ⟨HBW.out, Or.inr ⟨HE.out, rfl⟩⟩
    · have hge : ¬ (i : Int) < n := by omega
      obtain rfl : i = n := by omega
      have hpl : O.Perm l := by rw [List.take_of_length_le (by rw [HN.out]; exact Nat.le_refl _)] at hp; exact hp
      have HPL := Lib.hid hpl
      clear hO hp hs hb hpl hlt
      go_wp2
      go_ret2
      exact ⟨HBW.out, Or.inl ⟨((HPL.out.map (·.1)).nodup_iff).1 HO.out.2, O, HO.out, HPL.out, A1, c1, rfl, HSD.out⟩⟩

set_option maxRecDepth 100000 in
set_option maxHeartbeats 32000000 in
theorem skipRanges_any (seed : Nat) {A : Option Addr} {n cp : Nat} {l : List Mb} (lo hi : Bd) (rank : Int) (back : Bool) (w : World) (hsd : seed < 18446744073709551616) (hl : ScAt w A n cp l) (hbl : ∀ x ∈ l, x.1.length ≤ 9223372036854775807) (hz : TzB w) :
    Calls Tryd.prog 5 #[.int .u64 (seed : Nat), .slice A n cp, bdV lo, bdV hi, .int .i64 rank, .bool back] w fun e w' => e = .returned (.bool true) ∧ Below w.heap.size w w' := by
  obtain ⟨M, hM⟩ : ∃ M, w.heap.size = M := ⟨_, rfl⟩
  obtain ⟨wa, hwa⟩ : ∃ wa, (w.alloc (.cells #[.int .i64 lo.n, .bool lo.open_, .int .i64 lo.inf] 23)).alloc (.cells #[.int .i64 hi.n, .bool hi.open_, .int .i64 hi.inf] 23) = wa := ⟨_, rfl⟩
  obtain ⟨l1, l2, ba, sa⟩ := two_bounds w lo hi hM hwa
  have hba : Below w.heap.size w wa := by rw [hM]; exact ba
  have HFE := Lib.hid (few_any wa (hl.below hba) hbl)
  have HZA := Lib.hid (hz.below hba)
  have HK : Hid (∀ X, Below wa.heap.size wa X → X.cell? ⟨M, 0, none⟩ = some (.int .i64 lo.n) ∧ X.cell? ⟨M, 1, none⟩ = some (.bool lo.open_) ∧ X.cell? ⟨M, 2, none⟩ = some (.int .i64 lo.inf) ∧ X.cell? ⟨M + 1, 0, none⟩ = some (.int .i64 hi.n) ∧ X.cell? ⟨M + 1, 1, none⟩ = some (.bool hi.open_) ∧ X.cell? ⟨M + 1, 2, none⟩ = some (.int .i64 hi.inf) ∧ M < X.heap.size ∧ M + 1 < X.heap.size) := fun X hX => by
    obtain ⟨a1, a2, a3⟩ := l1.below (by omega) hX
    obtain ⟨a4, a5, a6⟩ := l2.below (by omega) hX
    exact ⟨a1, a2, a3, a4, a5, a6, by have := hX.size; omega, by have := hX.size; omega⟩
  have HBM : Hid (∀ X, Below wa.heap.size wa X → Below M w X) := fun X hX => ba.trans (hX.mono (by omega))
  have HAL := Lib.hid (fun (X : World) (hX : Below wa.heap.size wa X) => alive_any X (HZA.out.below hX).1 (HZA.out.below hX).2)
  have HWA := Lib.hid hwa
  have HSD := Lib.hid hsd
  have HMh := Lib.hid hM
  rw [hM]
  clear hwa l1 l2 ba sa hba hl hbl hz hsd
  unfold bdV
  go_enter Tryd.func5, Tryd.ntmps5
  go_wp2_with fail
  rw [HWA.out]
  refine HFE.out.mono ?_
  rintro e w1 ⟨A1, n1, c1, rfl, hsc, hb1⟩
  have HB1 := Lib.hid hb1
  have HN1 := Lib.hid hsc.len
  have HSC := Lib.hid hsc
  have hn100 : n1 ≤ 100 := by have := hsc.len; rw [fewM_length] at this; omega
  have HLD := Lib.hid (load_any seed HSD.out w1 hsc (by have := hsc.len; rw [fewM_length] at this; omega) (fun x hx => by have := fewM_size hx; omega) (HZA.out.below hb1).1 (HZA.out.below hb1).2)
  clear hb1 hsc
  go_wp2_with fail
  refine HLD.out.mono ?_
  rintro e w2 ⟨hb2, ⟨_, base, s, c, h, mb, ns, S, g, sz, L, rfl, hba, hls, hpm⟩ | ⟨hne, rfl⟩⟩
  · have hlen : L.length = n1 := by rw [hpm.length_eq]; exact HN1.out
    have hl100 : L.length ≤ 100 := by omega
    have hbs : ∀ x ∈ L, x.1.length ≤ 1000000000 := fun x hx => by have := fewM_size (hpm.mem_iff.1 hx); omega
    have HLS := Lib.hid hls
    have HB2 := Lib.hid (bup HB1.out hb2)
    have HBS := Lib.hid hbs
    have HLN := Lib.hid hlen
    have HLC := Lib.hid hl100
    have HPM := Lib.hid hpm
    have HRL := Lib.hid (rload_any w2 (HSC.out.below hb2) (by omega))
    clear hb2 hba hls hpm hbs
    go_wp2_with fail
    refine HRL.out.mono ?_
    rintro e w3 ⟨hb3, ⟨_, O, A3, c3, hO, hOp, rfl, hs3⟩ | ⟨hne, rfl⟩⟩
    · obtain rfl : O = L := InOrd.unique hO.1 HLS.out.ord.1 (hOp.trans HPM.out.symm)
      have HB3 := Lib.hid (bup HB2.out hb3)
      have HL3 := Lib.hid (HLS.out.below hb3)
      have HS3 := Lib.hid hs3.1
      have hle := fromM_le lo hi O
      have hrg := rrange_any w3 hs3.1 hO.1 lo hi
      have hfi := fun (X : World) (hX : Below w3.heap.size w3 X) => lfirst_any (HL3.out.below hX) (by omega) lo hi
      have hct := fun (X : World) (hX : Below w3.heap.size w3 X) => lcount_any (HL3.out.below hX) (by omega) lo hi
      have HRK := Lib.hid (fun (X : World) (hX : Below w3.heap.size w3 X) => ranks_any (HL3.out.below hX) (by omega) HBS.out (hs3.1.below hX) rank back)
      obtain ⟨x0, x1, x2, x3, x4, x5, hm0, hm1⟩ := HK.out _ HB3.out
      clear hb3 hO hOp hs3
      by_cases hFT : fromM lo O = toM lo hi O
      · have hz0 : toM lo hi O - fromM lo O = 0 := by omega
        rw [if_pos hFT, hz0] at hrg
        rw [hz0] at hct
        simp only [if_pos hFT] at hfi
        unfold bdV at hrg hfi hct
        have HRG := Lib.hid hrg
        have HFI := Lib.hid hfi
        have HCT := Lib.hid hct
        clear hrg hfi hct hFT hz0 hle
        go_wp2_with fail
        refine HRG.out.mono ?_
        rintro e w4 ⟨rfl, hb4⟩
        have HX4 := Lib.hid hb4
        clear x0 x1 x2 x3 x4 x5 hm0 hm1 hb4
        obtain ⟨x0, x1, x2, x3, x4, x5, hm0, hm1⟩ := HK.out _ (bup HB3.out HX4.out)
        go_wp2_with fail
        refine (HFI.out w4 HX4.out).mono ?_
        rintro e w5 ⟨rfl, hb5⟩
        have HX5 := Lib.hid (bup HX4.out hb5)
        clear x0 x1 x2 x3 x4 x5 hm0 hm1 hb5
        obtain ⟨x0, x1, x2, x3, x4, x5, hm0, hm1⟩ := HK.out _ (bup HB3.out HX5.out)
        go_wp2_with fail
        refine (HCT.out w5 HX5.out).mono ?_
        rintro e w6 ⟨rfl, hb6⟩
        have HX6 := Lib.hid (bup HX5.out hb6)
        clear x0 x1 x2 x3 x4 x5 hm0 hm1 hb6
        go_wp2_with fail
        refine (HRK.out w6 HX6.out).mono ?_
        rintro e w7 ⟨rfl, hb7⟩
        have HX7 := Lib.hid (bup HX6.out hb7)
        have HA7 := Lib.hid (HAL.out _ (bup HB3.out HX7.out))
        clear hb7
        go_wp2_with fail
        refine HA7.out.mono ?_
        rintro e w8 ⟨rfl, hb8⟩
        have HX8 := Lib.hid (bup HX7.out hb8)
        clear hb8
        go_wp2
        go_ret
        exact ⟨rfl, HBM.out _ (bup HB3.out HX8.out)⟩
      · obtain ⟨F, hF⟩ : ∃ F, fromM lo O = F := ⟨_, rfl⟩
        obtain ⟨D, hD⟩ : ∃ D, toM lo hi O - fromM lo O = D := ⟨_, rfl⟩
        have hD0 : 0 < D := by omega
        have hD1 : (0 : Int) < (D : Int) := by omega
        rw [if_neg hFT, hD, hF] at hrg
        rw [hD] at hct
        simp only [if_neg hFT] at hfi
        simp only [hF] at hfi
        unfold bdV at hrg hfi hct
        have HRG := Lib.hid hrg
        have HFI := Lib.hid hfi
        have HCT := Lib.hid hct
        clear hrg hfi hct hFT hle hF hD
        go_wp2_with fail
        refine HRG.out.mono ?_
        rintro e w4 ⟨rfl, hb4⟩
        have HX4 := Lib.hid hb4
        clear x0 x1 x2 x3 x4 x5 hm0 hm1 hb4
        obtain ⟨x0, x1, x2, x3, x4, x5, hm0, hm1⟩ := HK.out _ (bup HB3.out HX4.out)
        go_wp2_with fail
        refine (HFI.out w4 HX4.out).mono ?_
        rintro e w5 ⟨rfl, hb5⟩
        have HX5 := Lib.hid (bup HX4.out hb5)
        clear x0 x1 x2 x3 x4 x5 hm0 hm1 hb5
        obtain ⟨x0, x1, x2, x3, x4, x5, hm0, hm1⟩ := HK.out _ (bup HB3.out HX5.out)
        go_wp2_with fail
        refine (HCT.out w5 HX5.out).mono ?_
        rintro e w6 ⟨rfl, hb6⟩
        have HX6 := Lib.hid (bup HX5.out hb6)
        clear x0 x1 x2 x3 x4 x5 hm0 hm1 hb6
        go_wp2_with fail
        refine (HRK.out w6 HX6.out).mono ?_
        rintro e w7 ⟨rfl, hb7⟩
        have HX7 := Lib.hid (bup HX6.out hb7)
        have HA7 := Lib.hid (HAL.out _ (bup HB3.out HX7.out))
        clear hb7
        go_wp2_with fail
        refine HA7.out.mono ?_
        rintro e w8 ⟨rfl, hb8⟩
        have HX8 := Lib.hid (bup HX7.out hb8)
        clear hb8
        go_wp2
        go_ret
        exact ⟨rfl, HBM.out _ (bup HB3.out HX8.out)⟩
    · exact absurd ((HPM.out.map (·.1)).nodup_iff.1 HLS.out.ord.2) hne
  · have HB2 := Lib.hid (bup HB1.out hb2)
    have HRL := Lib.hid (rload_any w2 (HSC.out.below hb2) (by omega))
    have HNE := Lib.hid hne
    clear hb2 hne
    go_wp2_with fail
    refine HRL.out.mono ?_
    rintro e w3 ⟨hb3, ⟨heach, _⟩ | ⟨_, rfl⟩⟩
    · exact absurd heach HNE.out
    · have HB3 := Lib.hid (bup HB2.out hb3)
      have HA3 := Lib.hid (HAL.out _ HB3.out)
      clear hb3
      go_wp2_with fail
      refine HA3.out.mono ?_
      rintro e w4 ⟨rfl, hb4⟩
      have HB4 := Lib.hid (bup HB3.out hb4)
      clear hb4
      go_wp2
      go_ret
      exact ⟨rfl, HBM.out _ HB4.out⟩

end Go.Proofs.YtcbiiioglklpoaaDoor
