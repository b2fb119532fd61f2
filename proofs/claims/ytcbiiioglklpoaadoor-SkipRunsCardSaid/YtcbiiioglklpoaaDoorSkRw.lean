/-
  The law SkipRuns: its walk. Conditions: the members and the script lie in memory; the table of math/bits lies where the program laid it.
-/
import Derived.Test.YtcbiiioglklpoaaDoorSkDc
import Derived.Test.YtcbiiioglklpoaaDoorSkS5
import Derived.Test.YtcbiiioglklpoaaDoorSkV5
import Derived.Test.YtcbiiioglklpoaaDoorSkK
namespace Go.Proofs.YtcbiiioglklpoaaDoor
open Go.RowKit

theorem find_of_perm {l O : List Mb} {i : Nat} {x : Mb} (he : Each l) (hp : O.Perm (l.take i)) (hx : l[i]? = some x) : fndM O x.1 = none := by
  cases hf : fndM O x.1 with
  | none => rfl
  | some j => exact absurd he (load_stop hp hx hf)
theorem find_put (L : List Mb) (m : List UInt8) (z : Int) : ∃ j, fndM (putM L m z) m = some j := by
  cases hf : fndM (putM L m z) m with
  | some j => exact ⟨j, rfl⟩
  | none =>
    refine absurd ?_ (fndM_none.1 hf)
    unfold putM
    cases fndM L m with
    | none => exact ((insAt_perm (m, z)).map (·.1)).mem_iff.2 (List.mem_cons_self ..)
    | some k => exact ((insAt_perm (m, z)).map (·.1)).mem_iff.2 (List.mem_cons_self ..)
theorem put_small {L : List Mb} {m : List UInt8} {z : Int} {k : Nat} (h : ∀ x ∈ L, x.1.length ≤ k) (hm : m.length ≤ k) : ∀ x ∈ putM L m z, x.1.length ≤ k := by
  intro x hx
  unfold putM at hx
  cases hf : fndM L m with
  | none =>
    rw [hf] at hx
    rcases List.mem_cons.1 ((insAt_perm (m, z)).mem_iff.1 hx) with rfl | hx
    · exact hm
    · exact h x hx
  | some j =>
    rw [hf] at hx
    rcases List.mem_cons.1 ((insAt_perm (m, z)).mem_iff.1 hx) with rfl | hx
    · exact hm
    · exact h x ((delAt_sub L j).subset hx)
theorem SdAt.only {p : Nat → Prop} {w w' : World} {A : Option Addr} {n c : Nat} {l : List Mb} (h : SdAt w A n c l) (hb : Only p w w') (hp : ∀ b o sp, A = some ⟨b, o, sp⟩ → ¬ p b) : SdAt w' A n c l :=
  ⟨h.1.keep (fun b o hn e => by
    obtain ⟨b', o', e', hlt, _⟩ := h.1.at_ hn
    rw [e] at e'
    injection e' with e'
    injection e' with e1 _
    exact hb.block b (by omega) (hp b o none e)) hb.size, h.2⟩

set_option maxRecDepth 100000 in
set_option maxHeartbeats 64000000 in
theorem skipRuns_any (seed : Nat) {A : Option Addr} {n cp : Nat} {l : List Mb} {B : Option Addr} {nb cb gb ob : Nat} {sc : List Op7} (rank : Int) (w : World) (hsd : seed < 18446744073709551616) (hl : ScAt w A n cp l) (hbl : ∀ x ∈ l, x.1.length ≤ 9223372036854775807) (hsc : Scr7 w B nb cb gb ob sc) (hz : TzB w) :
    Calls Tryd.prog 4 #[.int .u64 (seed : Nat), .slice A n cp, .slice B nb cb, .int .i64 rank] w fun e w' => e = .returned (.bool true) ∧ Below w.heap.size w w' := by
  have HFE := Lib.hid (few_any w hl hbl)
  have HZA := Lib.hid hz
  have HSC := Lib.hid hsc
  have HAL := Lib.hid (fun (X : World) (hX : Below w.heap.size w X) => alive_any X (HZA.out.below hX).1 (HZA.out.below hX).2)
  have HSD := Lib.hid hsd
  clear hl hbl hsc hz hsd
  go_enter Tryd.func4, Tryd.ntmps4
  go_wp2_with fail
  refine HFE.out.mono ?_
  rintro e w1 ⟨A1, n1, c1, rfl, hs1, hb1⟩
  have HB1 := Lib.hid hb1
  have HN1 := Lib.hid hs1.len
  have HS1 := Lib.hid hs1
  have hn100 : n1 ≤ 100 := by have := hs1.len; rw [fewM_length] at this; omega
  have HLD := Lib.hid (load_any seed HSD.out w1 hs1 (by omega) (fun x hx => by have := fewM_size hx; omega) (HZA.out.below hb1).1 (HZA.out.below hb1).2)
  have HFS : Hid (∀ x ∈ fewM l, x.1.length ≤ 100) := fun x hx => fewM_size hx
  obtain ⟨l1, hl1⟩ : ∃ l1, fewM l = l1 := ⟨_, rfl⟩
  rw [hl1] at HN1 HS1 HLD HFS
  clear hb1 hs1 hl1 HFE
  go_wp2_with fail
  refine HLD.out.mono ?_
  rintro e w2 ⟨hb2, ⟨heach, base, s, c, h, mb, ns, S, g, sz, L, rfl, hba, hls, hpm⟩ | ⟨hne, rfl⟩⟩
  · have HEA := Lib.hid heach
    have HLS := Lib.hid hls
    have HPM := Lib.hid hpm
    have HBA := Lib.hid hba
    have HB2 := Lib.hid (bup HB1.out hb2)
    have HS2 := Lib.hid (HS1.out.below hb2)
    have HRL := Lib.hid (rload_any w2 (HS1.out.below hb2) (by omega))
    clear hb2 hba hls hpm heach
    go_wp2_with fail
    refine HRL.out.mono ?_
    rintro e w3 ⟨hb3, ⟨_, O, A3, c3, hO, hOp, rfl, hs3, hf3⟩ | ⟨hne, rfl⟩⟩
    · obtain rfl : O = L := InOrd.unique hO.1 HLS.out.ord.1 (hOp.trans HPM.out.symm)
      have HB3 := Lib.hid (bup HB2.out hb3)
      have HL3 := Lib.hid (HLS.out.below hb3)
      have HS3 := Lib.hid hs3
      have HF3 := Lib.hid hf3
      have HM3 := Lib.hid (HS2.out.below hb3)
      have HNW := Lib.hid (lnew_any seed HSD.out w3 (HZA.out.below HB3.out))
      clear hb3 hO hOp hs3 hf3 HRL HLD
      go_wp2_with fail
      refine HNW.out.mono ?_
      rintro e w4 ⟨us, uc, uh, umb, uns, uS, ug, usz, rfl, hu, hb4⟩
      have HU := Lib.hid hu
      have HB4 := Lib.hid (bup HB3.out hb4)
      have HM4 := Lib.hid (HM3.out.below hb4)
      have HLU := Lib.hid (len_any hu)
      have HB34 := Lib.hid hb4
      obtain ⟨ub, hub⟩ : ∃ ub, w3.heap.size = ub := ⟨_, rfl⟩
      have HUB := Lib.hid hub
      rw [hub] at HU
      clear hu hb4 hub HNW
      go_wp2_with fail
      refine HLU.out.mono ?_
      rintro e w5 ⟨rfl, hw5⟩
      rw [hw5]
      clear hw5
      go_wp2_with fail
      go_loopw [14] (fun iv wr => ∃ (i N : Nat) (nsu : List Nd) (Su : Nat → Nat → Value) (gu : List UInt8 → Option Nat) (szu : Nat) (Lu : List Mb), iv = .int .i64 i ∧ i ≤ n1 ∧ N ≤ i ∧ LsAt wr ub seed us uc uh umb N nsu Su gu szu Lu ∧ Lu.Perm (l1.take i) ∧ Below ub w4 wr) (fun iv _ => n1 - (intOf iv).toNat)
      case atStart => exact ⟨0, 0, _, _, _, _, [], rfl, Nat.zero_le _, Nat.le_refl _, HU.out, by simp, Below.refl _ _⟩
      case round =>
        obtain ⟨i, N, nsu, Su, gu, szu, Lu, rfl, hi, hNi, hk, hp, hb⟩ := hrel
        have HK := Lib.hid hk
        have HP := Lib.hid hp
        have HBU := Lib.hid hb
        by_cases hlt : i < n1
        · obtain ⟨x, hx⟩ : ∃ x, l1[i]? = some x := ⟨_, List.getElem?_eq_getElem (by rw [HN1.out]; exact hlt)⟩
          have hlt' : (i : Int) < n1 := by omega
          obtain ⟨b, o, hAe, hbl, hc⟩ := HM3.out.at_ (by omega)
          subst hAe
          obtain ⟨y0, y1⟩ := hc i x hx
          have hbub : b < ub := by have := HUB.out; omega
          have HQ : Hid (∀ X, Below ub w4 X → X.cell? ⟨b, o + i * 2, none⟩ = some (.string ⟨x.1.toArray⟩) ∧ X.cell? ⟨b, o + i * 2 + 1, none⟩ = some (.int .i64 x.2)) := fun X hX => by
            have hq : Below ub w3 X := by have q := HB34.out; rw [HUB.out] at q; exact q.trans hX
            exact ⟨(hq.cell (p := ⟨b, o + i * 2, none⟩) hbub).trans y0, (hq.cell (p := ⟨b, o + i * 2 + 1, none⟩) hbub).trans y1⟩
          have hfx := find_of_perm HEA.out hp hx
          have ed : (⟨x.1.toArray⟩ : ByteArray).data.toList = x.1 := by simp
          have hxs := HFS.out x (List.mem_of_getElem? hx)
          have hls := hk.ord
          have hlen : Lu.length = i := by rw [hp.length_eq, List.length_take, HN1.out]; omega
          have hpu := fun X (hX : Below wr.heap.size wr X) => lput_any (hk.below hX) (by omega) (by omega) ⟨x.1.toArray⟩ (by show x.1.toArray.size ≤ _; simp; omega) x.2
          rw [ed, hfx, Option.isNone_none] at hpu
          have HEND : Hid (∀ X x1, Below wr.heap.size wr X → X.heap.size = wr.heap.size → PutE X x1 ub seed us uc uh umb N nsu (putM Lu x.1 x.2) → ∃ (N' : Nat) (nsu : List Nd) (Su : Nat → Nat → Value) (gu : List UInt8 → Option Nat) (szu : Nat) (Lu : List Mb), N' ≤ i + 1 ∧ LsAt x1 ub seed us uc uh umb N' nsu Su gu szu Lu ∧ Lu.Perm (l1.take (i + 1)) ∧ Below ub w4 x1) := fun X x1 hX hXs ⟨N', ns', S', g', sz', hN', hk', ho', _⟩ => by
            obtain ⟨_, s2, _⟩ := load_step hls hp hx hfx
            refine ⟨N', ns', S', g', sz', _, by omega, hk', s2, (hb.trans (hX.mono ?_)).trans (ho'.below ?_ (fun b hb hc => ?_))⟩
            · have := hk.ck.lo (Or.inl rfl); have := hk.ck.blk.lt; omega
            · have := hk.ck.lo (Or.inl rfl); have := hk.ck.blk.lt; omega
            · have := hk.ck.lo hc; omega
          obtain ⟨TT, hTT⟩ : ∃ T : ByteArray, (⟨x.1.toArray⟩ : ByteArray) = T := ⟨_, rfl⟩
          obtain ⟨Z, hZ⟩ : ∃ Z, x.2 = Z := ⟨_, rfl⟩
          rw [hTT] at HQ hpu
          rw [hZ] at HQ hpu HEND
          have HPU := Lib.hid hpu
          have H0 : Hid (Below wr.heap.size wr wr) := Below.refl _ _
          have HSX : Hid (∀ X, Below wr.heap.size wr X → X.cell? ⟨b, o + i * 2, none⟩ = some (.string TT) ∧ X.cell? ⟨b, o + i * 2 + 1, none⟩ = some (.int .i64 Z)) := fun X hX => HQ.out X (hb.trans (hX.mono (by have := hk.ck.lo (Or.inl rfl); have := hk.ck.blk.lt; omega)))
          have HLT := Lib.hid hlt
          clear hk hp hb hc hx y0 y1 hfx ed hxs hls hlen hpu hTT hZ hbl hlt hbub
          go_wp2_with fail
          go_region_held3 (fun X => X.cell? ⟨b, o + i * 2, none⟩ = some (.string TT) ∧ X.cell? ⟨b, o + i * 2 + 1, none⟩ = some (.int .i64 Z))
            (first | exact HC1.out | exact HSX.out _ H0.out.drew | exact HSX.out _ H0.out)
            (first | (go_at_call 21; refine Calls.mono (HPU.out _ (by first | exact H0.out.drew | exact H0.out)) ?_; rintro en x1 ⟨rfl, hpe⟩; have hq := HEND.out _ x1 (by first | exact H0.out.drew | exact H0.out) (by rfl) hpe; have HE1 := Lib.hid hq; have HC1 : Hid (x1.cell? ⟨b, o + i * 2, none⟩ = some (.string TT) ∧ x1.cell? ⟨b, o + i * 2 + 1, none⟩ = some (.int .i64 Z)) := (by obtain ⟨_, _, _, _, _, _, _, _, _, hbx⟩ := hq; exact HQ.out _ hbx); clear hpe hq))
          all_goals
            go_wp2
            go_roundw
            case rel =>
              obtain ⟨N', nsu, Su, gu, szu, Lu, e1, e2, e3, e4⟩ := HE1.out
              exact ⟨i + 1, N', nsu, Su, gu, szu, Lu, by go_num, HLT.out, e1, e2, e3, e4⟩
            case measure => simp only [intOf]; have := HLT.out; omega
        · obtain rfl : i = n1 := by omega
          have hge : ¬ (i : Int) < (i : Int) := by omega
          have hlu : Lu.Perm l1 := by rw [List.take_of_length_le (by rw [HN1.out]; exact Nat.le_refl _)] at hp; exact hp
          obtain rfl : Lu = O := InOrd.unique hk.ord.1 HL3.out.ord.1 (hlu.trans HPM.out.symm)
          have hlen : Lu.length = i := by rw [hlu.length_eq]; exact HN1.out
          have hbs : ∀ x ∈ Lu, x.1.length ≤ 100 := fun x hx => HFS.out x (hlu.mem_iff.1 hx)
          have haa := lall_any hk (by omega) (fun x hx => by have := hbs x hx; omega)
          rw [hlen] at haa
          have HAA := Lib.hid haa
          have hq3 : Below w3.heap.size w3 wr := HB34.out.trans (by have q := hb; rw [← HUB.out] at q; exact q)
          have HSW := Lib.hid (HS3.out.below hq3)
          have HLW := Lib.hid (HL3.out.below hq3)
          have HBW := Lib.hid (bup HB3.out hq3)
          have HWB : Hid (∀ b o sp, A3 = some ⟨b, o, sp⟩ → ¬ CkF c h mb ns b) := fun b o sp e hb => by have q1 := HF3.out b o sp e; have q2 := HLS.out.ck.lt hb; omega
          have HBL : Hid (w.heap.size ≤ base) := by have q1 := HBA.out; have q2 := HB1.out.size; unfold Hid; omega
          have HBS := Lib.hid hbs
          have HLEN := Lib.hid hlen
          clear hk hp hb hlu hlen hbs haa hq3
          go_wp2_with fail
          refine HAA.out.mono ?_
          rintro e w6 ⟨A6, c6, rfl, hs6, hb6⟩
          have HSM := Lib.hid (rsame_yes w6 hs6 (HSW.out.below hb6).1)
          have HB6 := Lib.hid (bup HBW.out hb6)
          have HS6 := Lib.hid (HSW.out.below hb6)
          have HL6 := Lib.hid (HLW.out.below hb6)
          clear hs6 hb6
          go_wp2_with fail
          refine HSM.out.mono ?_
          rintro e w7 ⟨rfl, hb7⟩
          have HB7 := Lib.hid (bup HB6.out hb7)
          have HS7 : Hid (SdAt w7 A3 Lu.length c3 Lu) := by unfold Hid; rw [HLEN.out]; exact HS6.out.below hb7
          have HL7 := Lib.hid (HL6.out.below hb7)
          have hwv : Value.slice A3 i c3 = .slice A3 Lu.length c3 := by rw [HLEN.out]
          have HWV := Lib.hid hwv
          have hll : Lu.length ≤ 100 := by have := HLEN.out; omega
          have HLL := Lib.hid hll
          clear hb7 hwv hll
          go_wp2_with fail
          go_loopw [11, 15] (fun wv iv wr => ∃ (i N : Nat) (ns : List Nd) (S : Nat → Nat → Value) (g : List UInt8 → Option Nat) (sz : Nat) (L : List Mb) (A' : Option Addr) (c' : Nat), wv = .slice A' L.length c' ∧ iv = .int .i64 i ∧ i ≤ 100 ∧ N ≤ 100 + i ∧ LsAt wr base seed s c h mb N ns S g sz L ∧ SdAt wr A' L.length c' L ∧ (∀ b o sp, A' = some ⟨b, o, sp⟩ → ¬ CkF c h mb ns b) ∧ L.length ≤ 100 + i ∧ (∀ x ∈ L, x.1.length ≤ 100) ∧ Below w.heap.size w wr) (fun _ iv _ => 100 - (intOf iv).toNat)
          case atStart => exact ⟨0, i, ns, S, g, sz, Lu, A3, c3, HWV.out, rfl, by omega, by omega, HL7.out, HS7.out, HWB.out, by have := HLL.out; omega, HBS.out, HB7.out⟩
          case round =>
            clear HWV HLL HBS HLEN HL7 HS7 HWB HL6 HS6 HB6 HLW HSW HAA HB7 HSM HBW HEA HLS HPM HBA HB2 HS2 HB3 HL3 HS3 HF3 HM3 HU HB4 HM4 HLU HB34 HUB HN1 HS1 HFS HB1
            obtain ⟨j, N, ns, S, g, sz, L, A', c', rfl, rfl, hj, hN, hk, hs, hw, hl, hbs, hb⟩ := hrel
            have HK := Lib.hid hk
            have HS := Lib.hid hs
            have HWB := Lib.hid hw
            have HBW := Lib.hid hb
            have HBS := Lib.hid hbs
            by_cases hlt : j < nb ∧ j < 100
            · obtain ⟨h1, h100⟩ := hlt
              have h1' : (j : Int) < (nb : Int) := by omega
              have h100' : (j : Int) < 100 := by omega
              obtain ⟨x, hx⟩ : ∃ x, sc[j]? = some x := ⟨_, List.getElem?_eq_getElem (by rw [HSC.out.len]; exact h1)⟩
              obtain ⟨hBe, hgl⟩ := HSC.out.at_ (by omega)
              subst hBe
              obtain ⟨hms, y0, y1, y2⟩ := HSC.out.cells j x hx
              obtain ⟨kd, hkd⟩ : ∃ k, x.kind = k := ⟨_, rfl⟩
              obtain ⟨T, hT⟩ : ∃ T, x.m = T := ⟨_, rfl⟩
              obtain ⟨z, hz⟩ : ∃ z, x.n = z := ⟨_, rfl⟩
              rw [hkd] at y0
              rw [hT] at y1 hms
              rw [hz] at y2
              have HZC : Hid (∀ X, Below w.heap.size w X → X.cell? ⟨gb, ob + j * 3, none⟩ = some (.int .i64 kd) ∧ X.cell? ⟨gb, ob + j * 3 + 1, none⟩ = some (.string T) ∧ X.cell? ⟨gb, ob + j * 3 + 2, none⟩ = some (.int .i64 z)) := fun X hX =>
                ⟨(hX.cell (p := ⟨gb, ob + j * 3, none⟩) hgl).trans y0, (hX.cell (p := ⟨gb, ob + j * 3 + 1, none⟩) hgl).trans y1, (hX.cell (p := ⟨gb, ob + j * 3 + 2, none⟩) hgl).trans y2⟩
              have HCU := Lib.hid (fun W => cut_any T W hms)
              have hcs := cutK_size T
              obtain ⟨C, hC⟩ : ∃ C, cutK T = C := ⟨_, rfl⟩
              rw [hC] at HCU hcs
              obtain ⟨m, hm⟩ : ∃ m, C.data.toList = m := ⟨_, rfl⟩
              have HM := Lib.hid hm
              have hml : m.length ≤ 100 := by have := Lib.size_eq C; rw [← hm]; omega
              have hfi := rfind_any wr hs.1 C
              rw [hm] at hfi
              obtain ⟨z0, z1, z2⟩ := HZC.out wr hb
              clear hkd hT hz hC y0 y1 y2 hms hgl hx
              rcases hf : fndM L m with _ | k
              · have HF := Lib.hid hf
                have HFI : Hid (Calls Tryd.prog 24 #[.slice A' L.length c', .string C] wr fun e w' => e = .returned (.int .i64 (-1)) ∧ w' = wr) := by have q := hfi; rw [hf] at q; exact q
                have HSCO := Lib.hid (lscore_no hk C (by omega) (by rw [hm]; exact hf))
                clear hfi hf hk hs hw hb hbs hm
                go_wp2_with fail
                refine (HCU.out _).mono ?_
                rintro e w5 ⟨rfl, hw5⟩
                rw [hw5]
                clear hw5
                go_wp2_with fail
                refine HFI.out.mono ?_
                rintro e w5 ⟨rfl, hw5⟩
                rw [hw5]
                clear hw5
                go_wp2_with fail
                refine HSCO.out.mono ?_
                rintro e w5 ⟨rfl, hw5⟩
                rw [hw5]
                clear hw5
                rcases (by omega : kd = 1 ∨ kd = 2 ∨ (¬ kd = 1 ∧ ¬ kd = 2)) with rfl | rfl | ⟨hk1, hk2⟩
                · have hpt := lput_any HK.out (by omega) (by omega) C (by omega) z
                  rw [HM.out, HF.out] at hpt
                  have HPT : Hid (Calls Tryd.prog 21 #[.pointer (some ⟨s, 0, none⟩), .string C, .int .i64 z] wr fun e w' => e = .returned (.bool true) ∧ PutE wr w' base seed s c h mb N ns (putM L m z)) := hpt
                  clear hpt
                  go_wp2_with fail
                  refine HPT.out.mono ?_
                  rintro e w5 ⟨rfl, N2, ns2, S2, g2, sz2, hN2, hk2, ho2, hsub2⟩
                  have HB5 : Hid (Below w.heap.size w w5) := HBW.out.trans (ho2.below HBW.out.size (fun b hb hc => by have q1 := HK.out.ck.lo hc; have q2 := HBL.out; omega))
                  have HK5 := Lib.hid hk2
                  have hs5 := HS.out.only ho2 HWB.out
                  have HRP := Lib.hid (rput_any w5 hs5 HK.out.ord.1 (by omega) C z)
                  rw [HM.out] at HRP
                  have HLL6 : Hid ((putM L m z).length ≤ 100 + (j + 1)) := by unfold Hid; rw [putM_length]; split <;> omega
                  have HBS6 : Hid (∀ x ∈ putM L m z, x.1.length ≤ 100) := put_small HBS.out hml
                  obtain ⟨k2, hf2⟩ := find_put L m z
                  obtain ⟨L2, hL2⟩ : ∃ L2, putM L m z = L2 := ⟨_, rfl⟩
                  rw [hL2] at HRP HK5 HLL6 HBS6 hf2
                  have HF2 := Lib.hid hf2
                  have HN6 : Hid (N2 ≤ 100 + (j + 1)) := by unfold Hid; omega
                  clear z0 z1 z2 hk2 ho2 hs5 hf2 hL2 hsub2
                  obtain ⟨z0, z1, z2⟩ := HZC.out w5 HB5.out
                  go_wp2_with fail
                  refine HRP.out.mono ?_
                  rintro e w6 ⟨A6, c6, rfl, hs6, hb6, hf6⟩
                  have K6 := Lib.hid (HK5.out.below hb6)
                  have SD6 := Lib.hid hs6
                  have HB6 := Lib.hid (bup HB5.out hb6)
                  have WB6 : Hid (∀ b o sp, A6 = some ⟨b, o, sp⟩ → ¬ CkF c h mb ns2 b) := fun b o sp e hb => by have q1 := hf6 b o sp e; have q2 := HK5.out.ck.lt hb; omega
                  clear hs6 hb6 hf6
                  have HRK : Hid (Calls Tryd.prog 29 #[.pointer (some ⟨s, 0, none⟩), .string C] w6 fun e w' => e = .returned (.tuple #[.int .i64 (k2 : Nat), .bool true]) ∧ Below w6.heap.size w6 w') := by
                    have q := rank_any K6.out (by have := HLL6.out; omega) C (by omega)
                    rw [HM.out, HF2.out] at q
                    exact q
                  go_wp2_with fail
                  refine HRK.out.mono ?_
                  rintro e w8 ⟨rfl, hb8⟩
                  clear z0 z1 z2
                  have K8 := Lib.hid (K6.out.below hb8)
                  have SD8 := Lib.hid (SD6.out.below hb8)
                  have HB8 := Lib.hid (bup HB6.out hb8)
                  have HFI2 : Hid (Calls Tryd.prog 24 #[.slice A6 L2.length c6, .string C] w8 fun e w' => e = .returned (.int .i64 (k2 : Nat)) ∧ w' = w8) := by
                    have q := rfind_any w8 SD8.out.1 C
                    rw [HM.out, HF2.out] at q
                    exact q
                  have HLE := Lib.hid (len_any K8.out)
                  have HAA := Lib.hid (lall_any K8.out (by have := HLL6.out; omega) (fun x hx => by have := HBS6.out x hx; omega))
                  clear hb8
                  go_wp2_with fail
                  refine HFI2.out.mono ?_
                  rintro e w9 ⟨rfl, hw9⟩
                  rw [hw9]
                  clear hw9
                  go_wp2_with fail
                  refine HLE.out.mono ?_
                  rintro e w9 ⟨rfl, hw9⟩
                  rw [hw9]
                  clear hw9
                  go_wp2_with fail
                  refine HAA.out.mono ?_
                  rintro e w10 ⟨A10, c10, rfl, hs10, hb10⟩
                  have HSM := Lib.hid (rsame_yes w10 hs10 (SD8.out.below hb10).1)
                  have K10 := Lib.hid (K8.out.below hb10)
                  have SD10 := Lib.hid (SD8.out.below hb10)
                  have HB10 := Lib.hid (bup HB8.out hb10)
                  clear hs10 hb10
                  go_wp2_with fail
                  refine HSM.out.mono ?_
                  rintro e w11 ⟨rfl, hb11⟩
                  have K11 := Lib.hid (K10.out.below hb11)
                  have SD11 := Lib.hid (SD10.out.below hb11)
                  have HB11 := Lib.hid (bup HB10.out hb11)
                  clear hb11
                  go_wp2
                  go_roundw
                  case rel => exact ⟨j + 1, N2, ns2, S2, g2, sz2, L2, A6, c6, rfl, by go_num, by omega, HN6.out, K11.out, SD11.out, WB6.out, HLL6.out, HBS6.out, HB11.out⟩
                  case measure => simp only [intOf]; omega
                · have HDL := Lib.hid (ldel_no HK.out C (by omega) (by rw [HM.out]; exact HF.out))
                  go_wp2_with fail
                  refine HDL.out.mono ?_
                  rintro e w5 ⟨rfl, hw5⟩
                  rw [hw5]
                  clear hw5
                  have K6 := HK
                  have SD6 := HS
                  have HB6 := HBW
                  have WB6 := HWB
                  have HBS6 := HBS
                  have HLL6 : Hid (L.length ≤ 100 + (j + 1)) := by unfold Hid; omega
                  have HN6 : Hid (N ≤ 100 + (j + 1)) := by unfold Hid; omega
                  have HF2 := HF
                  have HRK : Hid (Calls Tryd.prog 29 #[.pointer (some ⟨s, 0, none⟩), .string C] wr fun e w' => e = .returned (.tuple #[.int .i64 0, .bool false]) ∧ Below wr.heap.size wr w') := by
                    have q := rank_any K6.out (by have := HLL6.out; omega) C (by omega)
                    rw [HM.out, HF2.out] at q
                    exact q
                  go_wp2_with fail
                  refine HRK.out.mono ?_
                  rintro e w8 ⟨rfl, hb8⟩
                  clear z0 z1 z2
                  have K8 := Lib.hid (K6.out.below hb8)
                  have SD8 := Lib.hid (SD6.out.below hb8)
                  have HB8 := Lib.hid (bup HB6.out hb8)
                  have HFI2 : Hid (Calls Tryd.prog 24 #[.slice A' L.length c', .string C] w8 fun e w' => e = .returned (.int .i64 (-1)) ∧ w' = w8) := by
                    have q := rfind_any w8 SD8.out.1 C
                    rw [HM.out, HF2.out] at q
                    exact q
                  have HLE := Lib.hid (len_any K8.out)
                  have HAA := Lib.hid (lall_any K8.out (by have := HLL6.out; omega) (fun x hx => by have := HBS6.out x hx; omega))
                  clear hb8
                  go_wp2_with fail
                  refine HFI2.out.mono ?_
                  rintro e w9 ⟨rfl, hw9⟩
                  rw [hw9]
                  clear hw9
                  have hmx : Builtin.max_ #[3, 3] 3 #[.int .i64 (-1), .int .i64 0] = pure (.int .i64 0) := by simp [Builtin.max_, Builtin.max2]
                  go_wp2_with fail
                  refine HLE.out.mono ?_
                  rintro e w9 ⟨rfl, hw9⟩
                  rw [hw9]
                  clear hw9
                  go_wp2_with fail
                  refine HAA.out.mono ?_
                  rintro e w10 ⟨A10, c10, rfl, hs10, hb10⟩
                  have HSM := Lib.hid (rsame_yes w10 hs10 (SD8.out.below hb10).1)
                  have K10 := Lib.hid (K8.out.below hb10)
                  have SD10 := Lib.hid (SD8.out.below hb10)
                  have HB10 := Lib.hid (bup HB8.out hb10)
                  clear hs10 hb10
                  go_wp2_with fail
                  refine HSM.out.mono ?_
                  rintro e w11 ⟨rfl, hb11⟩
                  have K11 := Lib.hid (K10.out.below hb11)
                  have SD11 := Lib.hid (SD10.out.below hb11)
                  have HB11 := Lib.hid (bup HB10.out hb11)
                  clear hb11
                  go_wp2
                  go_roundw
                  case rel => exact ⟨j + 1, N, ns, S, g, sz, L, A', c', rfl, by go_num, by omega, HN6.out, K11.out, SD11.out, WB6.out, HLL6.out, HBS6.out, HB11.out⟩
                  case measure => simp only [intOf]; omega
                · have K6 := HK
                  have SD6 := HS
                  have HB6 := HBW
                  have WB6 := HWB
                  have HBS6 := HBS
                  have HLL6 : Hid (L.length ≤ 100 + (j + 1)) := by unfold Hid; omega
                  have HN6 : Hid (N ≤ 100 + (j + 1)) := by unfold Hid; omega
                  have HF2 := HF
                  have HRK : Hid (Calls Tryd.prog 29 #[.pointer (some ⟨s, 0, none⟩), .string C] wr fun e w' => e = .returned (.tuple #[.int .i64 0, .bool false]) ∧ Below wr.heap.size wr w') := by
                    have q := rank_any K6.out (by have := HLL6.out; omega) C (by omega)
                    rw [HM.out, HF2.out] at q
                    exact q
                  go_wp2_with fail
                  refine HRK.out.mono ?_
                  rintro e w8 ⟨rfl, hb8⟩
                  clear z0 z1 z2
                  have K8 := Lib.hid (K6.out.below hb8)
                  have SD8 := Lib.hid (SD6.out.below hb8)
                  have HB8 := Lib.hid (bup HB6.out hb8)
                  have HFI2 : Hid (Calls Tryd.prog 24 #[.slice A' L.length c', .string C] w8 fun e w' => e = .returned (.int .i64 (-1)) ∧ w' = w8) := by
                    have q := rfind_any w8 SD8.out.1 C
                    rw [HM.out, HF2.out] at q
                    exact q
                  have HLE := Lib.hid (len_any K8.out)
                  have HAA := Lib.hid (lall_any K8.out (by have := HLL6.out; omega) (fun x hx => by have := HBS6.out x hx; omega))
                  clear hb8
                  go_wp2_with fail
                  refine HFI2.out.mono ?_
                  rintro e w9 ⟨rfl, hw9⟩
                  rw [hw9]
                  clear hw9
                  have hmx : Builtin.max_ #[3, 3] 3 #[.int .i64 (-1), .int .i64 0] = pure (.int .i64 0) := by simp [Builtin.max_, Builtin.max2]
                  go_wp2_with fail
                  refine HLE.out.mono ?_
                  rintro e w9 ⟨rfl, hw9⟩
                  rw [hw9]
                  clear hw9
                  go_wp2_with fail
                  refine HAA.out.mono ?_
                  rintro e w10 ⟨A10, c10, rfl, hs10, hb10⟩
                  have HSM := Lib.hid (rsame_yes w10 hs10 (SD8.out.below hb10).1)
                  have K10 := Lib.hid (K8.out.below hb10)
                  have SD10 := Lib.hid (SD8.out.below hb10)
                  have HB10 := Lib.hid (bup HB8.out hb10)
                  clear hs10 hb10
                  go_wp2_with fail
                  refine HSM.out.mono ?_
                  rintro e w11 ⟨rfl, hb11⟩
                  have K11 := Lib.hid (K10.out.below hb11)
                  have SD11 := Lib.hid (SD10.out.below hb11)
                  have HB11 := Lib.hid (bup HB10.out hb11)
                  clear hb11
                  go_wp2
                  go_roundw
                  case rel => exact ⟨j + 1, N, ns, S, g, sz, L, A', c', rfl, by go_num, by omega, HN6.out, K11.out, SD11.out, WB6.out, HLL6.out, HBS6.out, HB11.out⟩
                  case measure => simp only [intOf]; omega
              · have HF := Lib.hid hf
                have HFI : Hid (Calls Tryd.prog 24 #[.slice A' L.length c', .string C] wr fun e w' => e = .returned (.int .i64 (k : Nat)) ∧ w' = wr) := by have q := hfi; rw [hf] at q; exact q
                obtain ⟨n0, hj0, hkl0⟩ := fndM_some hf
                have HSCO := Lib.hid (lscore_yes hk C (by omega) (by rw [hm]; exact hf) (by rw [hm]; exact hj0))
                obtain ⟨bw, ow, hAe, hbwl, hcw⟩ := hs.1.at_ (by omega)
                subst hAe
                obtain ⟨_, v1⟩ := hcw k _ hj0
                have v1 : wr.cell? ⟨bw, ow + k * 2 + 1, none⟩ = some (.int .i64 n0) := v1
                have hk0 : ¬ (k : Int) < 0 := by omega
                have hk00 : (0 : Int) ≤ (k : Int) := by omega
                have hkl1 : (k : Int) < (L.length : Int) := by omega
                clear hfi hf hk hs hw hb hbs hm hcw hj0
                go_wp2_with fail
                refine (HCU.out _).mono ?_
                rintro e w5 ⟨rfl, hw5⟩
                rw [hw5]
                clear hw5
                go_wp2_with fail
                refine HFI.out.mono ?_
                rintro e w5 ⟨rfl, hw5⟩
                rw [hw5]
                clear hw5
                go_wp2_with fail
                refine HSCO.out.mono ?_
                rintro e w5 ⟨rfl, hw5⟩
                rw [hw5]
                clear hw5
                rcases (by omega : kd = 1 ∨ kd = 2 ∨ (¬ kd = 1 ∧ ¬ kd = 2)) with rfl | rfl | ⟨hk1, hk2⟩
                · have hpt := lput_any HK.out (by omega) (by omega) C (by omega) z
                  rw [HM.out, HF.out] at hpt
                  have HPT : Hid (Calls Tryd.prog 21 #[.pointer (some ⟨s, 0, none⟩), .string C, .int .i64 z] wr fun e w' => e = .returned (.bool false) ∧ PutE wr w' base seed s c h mb N ns (putM L m z)) := hpt
                  clear hpt
                  go_wp2_with fail
                  refine HPT.out.mono ?_
                  rintro e w5 ⟨rfl, N2, ns2, S2, g2, sz2, hN2, hk2, ho2, hsub2⟩
                  have HB5 : Hid (Below w.heap.size w w5) := HBW.out.trans (ho2.below HBW.out.size (fun b hb hc => by have q1 := HK.out.ck.lo hc; have q2 := HBL.out; omega))
                  have HK5 := Lib.hid hk2
                  have hs5 := HS.out.only ho2 HWB.out
                  have HRP := Lib.hid (rput_any w5 hs5 HK.out.ord.1 (by omega) C z)
                  rw [HM.out] at HRP
                  have HLL6 : Hid ((putM L m z).length ≤ 100 + (j + 1)) := by unfold Hid; rw [putM_length]; split <;> omega
                  have HBS6 : Hid (∀ x ∈ putM L m z, x.1.length ≤ 100) := put_small HBS.out hml
                  obtain ⟨k2, hf2⟩ := find_put L m z
                  obtain ⟨L2, hL2⟩ : ∃ L2, putM L m z = L2 := ⟨_, rfl⟩
                  rw [hL2] at HRP HK5 HLL6 HBS6 hf2
                  have HF2 := Lib.hid hf2
                  have HN6 : Hid (N2 ≤ 100 + (j + 1)) := by unfold Hid; omega
                  clear z0 z1 z2 hk2 ho2 hs5 hf2 hL2 hsub2
                  obtain ⟨z0, z1, z2⟩ := HZC.out w5 HB5.out
                  go_wp2_with fail
                  refine HRP.out.mono ?_
                  rintro e w6 ⟨A6, c6, rfl, hs6, hb6, hf6⟩
                  have K6 := Lib.hid (HK5.out.below hb6)
                  have SD6 := Lib.hid hs6
                  have HB6 := Lib.hid (bup HB5.out hb6)
                  have WB6 : Hid (∀ b o sp, A6 = some ⟨b, o, sp⟩ → ¬ CkF c h mb ns2 b) := fun b o sp e hb => by have q1 := hf6 b o sp e; have q2 := HK5.out.ck.lt hb; omega
                  clear hs6 hb6 hf6
                  have HRK : Hid (Calls Tryd.prog 29 #[.pointer (some ⟨s, 0, none⟩), .string C] w6 fun e w' => e = .returned (.tuple #[.int .i64 (k2 : Nat), .bool true]) ∧ Below w6.heap.size w6 w') := by
                    have q := rank_any K6.out (by have := HLL6.out; omega) C (by omega)
                    rw [HM.out, HF2.out] at q
                    exact q
                  go_wp2_with fail
                  refine HRK.out.mono ?_
                  rintro e w8 ⟨rfl, hb8⟩
                  clear z0 z1 z2
                  have K8 := Lib.hid (K6.out.below hb8)
                  have SD8 := Lib.hid (SD6.out.below hb8)
                  have HB8 := Lib.hid (bup HB6.out hb8)
                  have HFI2 : Hid (Calls Tryd.prog 24 #[.slice A6 L2.length c6, .string C] w8 fun e w' => e = .returned (.int .i64 (k2 : Nat)) ∧ w' = w8) := by
                    have q := rfind_any w8 SD8.out.1 C
                    rw [HM.out, HF2.out] at q
                    exact q
                  have HLE := Lib.hid (len_any K8.out)
                  have HAA := Lib.hid (lall_any K8.out (by have := HLL6.out; omega) (fun x hx => by have := HBS6.out x hx; omega))
                  clear hb8
                  go_wp2_with fail
                  refine HFI2.out.mono ?_
                  rintro e w9 ⟨rfl, hw9⟩
                  rw [hw9]
                  clear hw9
                  go_wp2_with fail
                  refine HLE.out.mono ?_
                  rintro e w9 ⟨rfl, hw9⟩
                  rw [hw9]
                  clear hw9
                  go_wp2_with fail
                  refine HAA.out.mono ?_
                  rintro e w10 ⟨A10, c10, rfl, hs10, hb10⟩
                  have HSM := Lib.hid (rsame_yes w10 hs10 (SD8.out.below hb10).1)
                  have K10 := Lib.hid (K8.out.below hb10)
                  have SD10 := Lib.hid (SD8.out.below hb10)
                  have HB10 := Lib.hid (bup HB8.out hb10)
                  clear hs10 hb10
                  go_wp2_with fail
                  refine HSM.out.mono ?_
                  rintro e w11 ⟨rfl, hb11⟩
                  have K11 := Lib.hid (K10.out.below hb11)
                  have SD11 := Lib.hid (SD10.out.below hb11)
                  have HB11 := Lib.hid (bup HB10.out hb11)
                  clear hb11
                  go_wp2
                  go_roundw
                  case rel => exact ⟨j + 1, N2, ns2, S2, g2, sz2, L2, A6, c6, rfl, by go_num, by omega, HN6.out, K11.out, SD11.out, WB6.out, HLL6.out, HBS6.out, HB11.out⟩
                  case measure => simp only [intOf]; omega
                · have hdl := ldel_yes HK.out (by omega) C (by omega) (by rw [HM.out]; exact HF.out)
                  have HDL := Lib.hid hdl
                  have hkl : k < L.length := (fndM_some HF.out).choose_spec.2
                  have HKL := Lib.hid hkl
                  clear hdl
                  go_wp2_with fail
                  refine HDL.out.mono ?_
                  rintro e w5 ⟨rfl, ns2, S2, g2, sz2, hk2, ho2, hsub2⟩
                  have HB5 : Hid (Below w.heap.size w w5) := HBW.out.trans (ho2.below HBW.out.size (fun b hb hc => by have q1 := HK.out.ck.lo hc; have q2 := HBL.out; omega))
                  have HK5 := Lib.hid hk2
                  have hs5 := HS.out.only ho2 HWB.out
                  have HRP := Lib.hid (rwithout_any w5 hs5 hkl (by omega))
                  have hdlen : L.length - 1 = (delAt L k).length := by have := delAt_length hkl; omega
                  rw [hdlen] at HRP
                  have HLL6 : Hid ((delAt L k).length ≤ 100 + (j + 1)) := by unfold Hid; omega
                  have HBS6 : Hid (∀ x ∈ delAt L k, x.1.length ≤ 100) := fun x hx => HBS.out x ((delAt_sub L k).subset hx)
                  have hf2 : fndM (delAt L k) m = none := HK.out.ord.2.find_del HF.out
                  obtain ⟨L2, hL2⟩ : ∃ L2, delAt L k = L2 := ⟨_, rfl⟩
                  rw [hL2] at HRP HK5 HLL6 HBS6 hf2
                  have HF2 := Lib.hid hf2
                  have HN6 : Hid (N ≤ 100 + (j + 1)) := by unfold Hid; omega
                  clear hk2 ho2 hs5 hf2 hL2 hsub2 hdlen hkl
                  go_wp2_with fail
                  refine HRP.out.mono ?_
                  rintro e w6 ⟨A6, c6, rfl, hs6, hb6, hf6⟩
                  have K6 := Lib.hid (HK5.out.below hb6)
                  have SD6 := Lib.hid hs6
                  have HB6 := Lib.hid (bup HB5.out hb6)
                  have WB6 : Hid (∀ b o sp, A6 = some ⟨b, o, sp⟩ → ¬ CkF c h mb ns2 b) := fun b o sp e hb => by have q1 := hf6 b o sp e; have q2 := HK5.out.ck.lt hb; omega
                  clear hs6 hb6 hf6
                  have HRK : Hid (Calls Tryd.prog 29 #[.pointer (some ⟨s, 0, none⟩), .string C] w6 fun e w' => e = .returned (.tuple #[.int .i64 0, .bool false]) ∧ Below w6.heap.size w6 w') := by
                    have q := rank_any K6.out (by have := HLL6.out; omega) C (by omega)
                    rw [HM.out, HF2.out] at q
                    exact q
                  go_wp2_with fail
                  refine HRK.out.mono ?_
                  rintro e w8 ⟨rfl, hb8⟩
                  clear z0 z1 z2
                  have K8 := Lib.hid (K6.out.below hb8)
                  have SD8 := Lib.hid (SD6.out.below hb8)
                  have HB8 := Lib.hid (bup HB6.out hb8)
                  have HFI2 : Hid (Calls Tryd.prog 24 #[.slice A6 L2.length c6, .string C] w8 fun e w' => e = .returned (.int .i64 (-1)) ∧ w' = w8) := by
                    have q := rfind_any w8 SD8.out.1 C
                    rw [HM.out, HF2.out] at q
                    exact q
                  have HLE := Lib.hid (len_any K8.out)
                  have HAA := Lib.hid (lall_any K8.out (by have := HLL6.out; omega) (fun x hx => by have := HBS6.out x hx; omega))
                  clear hb8
                  go_wp2_with fail
                  refine HFI2.out.mono ?_
                  rintro e w9 ⟨rfl, hw9⟩
                  rw [hw9]
                  clear hw9
                  have hmx : Builtin.max_ #[3, 3] 3 #[.int .i64 (-1), .int .i64 0] = pure (.int .i64 0) := by simp [Builtin.max_, Builtin.max2]
                  go_wp2_with fail
                  refine HLE.out.mono ?_
                  rintro e w9 ⟨rfl, hw9⟩
                  rw [hw9]
                  clear hw9
                  go_wp2_with fail
                  refine HAA.out.mono ?_
                  rintro e w10 ⟨A10, c10, rfl, hs10, hb10⟩
                  have HSM := Lib.hid (rsame_yes w10 hs10 (SD8.out.below hb10).1)
                  have K10 := Lib.hid (K8.out.below hb10)
                  have SD10 := Lib.hid (SD8.out.below hb10)
                  have HB10 := Lib.hid (bup HB8.out hb10)
                  clear hs10 hb10
                  go_wp2_with fail
                  refine HSM.out.mono ?_
                  rintro e w11 ⟨rfl, hb11⟩
                  have K11 := Lib.hid (K10.out.below hb11)
                  have SD11 := Lib.hid (SD10.out.below hb11)
                  have HB11 := Lib.hid (bup HB10.out hb11)
                  clear hb11
                  go_wp2
                  go_roundw
                  case rel => exact ⟨j + 1, N, ns2, S2, g2, sz2, L2, A6, c6, rfl, by go_num, by omega, HN6.out, K11.out, SD11.out, WB6.out, HLL6.out, HBS6.out, HB11.out⟩
                  case measure => simp only [intOf]; omega
                · have HF2k := HF
                  have K6 := HK
                  have SD6 := HS
                  have HB6 := HBW
                  have WB6 := HWB
                  have HBS6 := HBS
                  have HLL6 : Hid (L.length ≤ 100 + (j + 1)) := by unfold Hid; omega
                  have HN6 : Hid (N ≤ 100 + (j + 1)) := by unfold Hid; omega
                  have HF2 := HF
                  have HRK : Hid (Calls Tryd.prog 29 #[.pointer (some ⟨s, 0, none⟩), .string C] wr fun e w' => e = .returned (.tuple #[.int .i64 (k : Nat), .bool true]) ∧ Below wr.heap.size wr w') := by
                    have q := rank_any K6.out (by have := HLL6.out; omega) C (by omega)
                    rw [HM.out, HF2.out] at q
                    exact q
                  go_wp2_with fail
                  refine HRK.out.mono ?_
                  rintro e w8 ⟨rfl, hb8⟩
                  clear z0 z1 z2
                  have K8 := Lib.hid (K6.out.below hb8)
                  have SD8 := Lib.hid (SD6.out.below hb8)
                  have HB8 := Lib.hid (bup HB6.out hb8)
                  have HFI2 : Hid (Calls Tryd.prog 24 #[.slice (some ⟨bw, ow, none⟩) L.length c', .string C] w8 fun e w' => e = .returned (.int .i64 (k : Nat)) ∧ w' = w8) := by
                    have q := rfind_any w8 SD8.out.1 C
                    rw [HM.out, HF2.out] at q
                    exact q
                  have HLE := Lib.hid (len_any K8.out)
                  have HAA := Lib.hid (lall_any K8.out (by have := HLL6.out; omega) (fun x hx => by have := HBS6.out x hx; omega))
                  clear hb8
                  go_wp2_with fail
                  refine HFI2.out.mono ?_
                  rintro e w9 ⟨rfl, hw9⟩
                  rw [hw9]
                  clear hw9
                  go_wp2_with fail
                  refine HLE.out.mono ?_
                  rintro e w9 ⟨rfl, hw9⟩
                  rw [hw9]
                  clear hw9
                  go_wp2_with fail
                  refine HAA.out.mono ?_
                  rintro e w10 ⟨A10, c10, rfl, hs10, hb10⟩
                  have HSM := Lib.hid (rsame_yes w10 hs10 (SD8.out.below hb10).1)
                  have K10 := Lib.hid (K8.out.below hb10)
                  have SD10 := Lib.hid (SD8.out.below hb10)
                  have HB10 := Lib.hid (bup HB8.out hb10)
                  clear hs10 hb10
                  go_wp2_with fail
                  refine HSM.out.mono ?_
                  rintro e w11 ⟨rfl, hb11⟩
                  have K11 := Lib.hid (K10.out.below hb11)
                  have SD11 := Lib.hid (SD10.out.below hb11)
                  have HB11 := Lib.hid (bup HB10.out hb11)
                  clear hb11
                  go_wp2
                  go_roundw
                  case rel => exact ⟨j + 1, N, ns, S, g, sz, L, (some ⟨bw, ow, none⟩), c', rfl, by go_num, by omega, HN6.out, K11.out, SD11.out, WB6.out, HLL6.out, HBS6.out, HB11.out⟩
                  case measure => simp only [intOf]; omega
            · by_cases hjn : j < nb
              · have hjn' : (j : Int) < (nb : Int) := by omega
                have hj1 : ¬ (j : Int) < 100 := by omega
                have hj2 : ¬ j < 100 := by omega
                by_cases hin : 0 ≤ rank ∧ rank < (L.length : Int)
                · obtain ⟨q, rfl⟩ : ∃ q : Nat, rank = (q : Int) := ⟨rank.toNat, by omega⟩
                  have hql : q < L.length := by omega
                  obtain ⟨x, hx⟩ : ∃ x, L[q]? = some x := ⟨_, List.getElem?_eq_getElem hql⟩
                  have hav : atV L (q : Int) = .tuple #[mbV x, .bool true] := by unfold atV; rw [if_pos (by omega), Int.toNat_natCast, hx]
                  have hat := lat_any HK.out (by omega) (fun x hx => by have := HBS.out x hx; omega) (q : Int)
                  rw [hav] at hat
                  unfold mbV at hat
                  obtain ⟨bw, ow, hAe, hbwl, hcw⟩ := hs.1.at_ (by omega)
                  subst hAe
                  obtain ⟨v0, v1⟩ := hcw q x hx
                  obtain ⟨TT, hTT⟩ : ∃ T : ByteArray, (⟨x.1.toArray⟩ : ByteArray) = T := ⟨_, rfl⟩
                  obtain ⟨Z, hZ⟩ : ∃ Z, x.2 = Z := ⟨_, rfl⟩
                  rw [hTT] at v0 hat
                  rw [hZ] at v1 hat
                  have HV : Hid (∀ X, Below wr.heap.size wr X → X.cell? ⟨bw, ow + q * 2, none⟩ = some (.string TT) ∧ X.cell? ⟨bw, ow + q * 2 + 1, none⟩ = some (.int .i64 Z)) := fun X hX => ⟨(hX.cell (p := ⟨bw, ow + q * 2, none⟩) hbwl).trans v0, (hX.cell (p := ⟨bw, ow + q * 2 + 1, none⟩) hbwl).trans v1⟩
                  have hq0 : (0 : Int) ≤ (q : Int) := by omega
                  have hq1 : (q : Int) < (L.length : Int) := by omega
                  have heq : ∀ X : World, (binOp .neq 47 (.agg #[.string TT, .int .i64 Z]) (.agg #[.string TT, .int .i64 Z])).run Tryd.prog X = .ok (.bool false) X := by intro X; go_simp
                  clear hav hx hcw v0 v1 hTT hZ hin
                  have HAT := Lib.hid hat
                  have HAV := Lib.hid (fun (X : World) (hX : Below wr.heap.size wr X) => HAL.out X (bup HBW.out hX))
                  clear hat hk hs hw hb hbs hlt
                  go_wp2_with fail
                  refine HAT.out.mono ?_
                  rintro e w8 ⟨rfl, hb8⟩
                  obtain ⟨w9, hw9⟩ : ∃ w9, w8.alloc (.cells #[.string TT, .int .i64 Z] 47) = w9 := ⟨_, rfl⟩
                  have r9 : w9.rowIs w8.heap.size 47 2 (fun i => if i = 0 then .string TT else .int .i64 Z) := by rw [← hw9]; exact rows2 _ _ _ rfl rfl
                  have hb9 : Below wr.heap.size wr w9 := by rw [← hw9]; exact hb8.alloc hb8.size _
                  have HB9 := Lib.hid hb9
                  have HW9 := Lib.hid hw9
                  obtain ⟨v0, v1⟩ := HV.out w9 hb9
                  have x0 := r9.cell (i := 0) (by omega)
                  have x1 := r9.cell (i := 1) (by omega)
                  clear hb8 hw9 r9 hb9
                  go_wp2_with fail
                  rw [HW9.out]
                  go_quiet (fail)
                  all_goals
                    have HA9 := Lib.hid (HAV.out (w9.drewN nq) (HB9.out.trans (below_drewN _ _ _)))
                    have HB10 : Hid (Below wr.heap.size wr (w9.drewN nq)) := HB9.out.trans (below_drewN _ _ _)
                    go_wp2_with fail
                    refine HA9.out.mono ?_
                    rintro e w10 ⟨rfl, hb10⟩
                    have HB11 := Lib.hid (bup HBW.out (bup HB10.out hb10))
                    clear hb10
                    go_wp2
                    go_ret
                    exact ⟨rfl, HB11.out⟩
                · have hav : atV L rank = .tuple #[.agg #[.string ⟨#[]⟩, .int .i64 0], .bool false] := by
                    unfold atV
                    by_cases h0 : 0 ≤ rank
                    · rw [if_pos h0, List.getElem?_eq_none (by omega)]
                    · rw [if_neg h0]
                  have hat := lat_any HK.out (by omega) (fun x hx => by have := HBS.out x hx; omega) rank
                  rw [hav] at hat
                  obtain ⟨TT, hTT⟩ : ∃ T : ByteArray, (⟨#[]⟩ : ByteArray) = T := ⟨_, rfl⟩
                  obtain ⟨Z, hZ⟩ : ∃ Z : Int, 0 = Z := ⟨_, rfl⟩
                  have heq : ∀ X : World, (binOp .neq 47 (.agg #[.string ⟨#[]⟩, .int .i64 0]) (.agg #[.string ⟨#[]⟩, .int .i64 0])).run Tryd.prog X = .ok (.bool false) X := by intro X; go_simp
                  subst hTT hZ
                  clear hav
                  by_cases h0 : 0 ≤ rank
                  · have hr : ¬ rank < (L.length : Int) := fun e => hin ⟨h0, e⟩
                    have hr2 : (L.length : Int) ≤ rank := by omega
                    have hd1 : decide (0 ≤ rank) = true := decide_eq_true h0
                    have hd2 : decide (rank < (L.length : Int)) = false := decide_eq_false hr
                    clear hin
                    have HAT := Lib.hid hat
                    have HAV := Lib.hid (fun (X : World) (hX : Below wr.heap.size wr X) => HAL.out X (bup HBW.out hX))
                    clear hat hk hs hw hb hbs hlt
                    go_wp2_with fail
                    refine HAT.out.mono ?_
                    rintro e w8 ⟨rfl, hb8⟩
                    obtain ⟨w9, hw9⟩ : ∃ w9, w8.alloc (.cells #[.string ⟨#[]⟩, .int .i64 0] 47) = w9 := ⟨_, rfl⟩
                    have r9 : w9.rowIs w8.heap.size 47 2 (fun i => if i = 0 then .string ⟨#[]⟩ else .int .i64 0) := by rw [← hw9]; exact rows2 _ _ _ rfl rfl
                    have hb9 : Below wr.heap.size wr w9 := by rw [← hw9]; exact hb8.alloc hb8.size _
                    have HB9 := Lib.hid hb9
                    have HW9 := Lib.hid hw9
                    have x0 := r9.cell (i := 0) (by omega)
                    have x1 := r9.cell (i := 1) (by omega)
                    clear hb8 hw9 r9 hb9
                    go_wp2_with fail
                    rw [HW9.out]
                    go_quiet (fail)
                    all_goals
                      have HA9 := Lib.hid (HAV.out (w9.drewN nq) (HB9.out.trans (below_drewN _ _ _)))
                      have HB10 : Hid (Below wr.heap.size wr (w9.drewN nq)) := HB9.out.trans (below_drewN _ _ _)
                      go_wp2_with fail
                      refine HA9.out.mono ?_
                      rintro e w10 ⟨rfl, hb10⟩
                      have HB11 := Lib.hid (bup HBW.out (bup HB10.out hb10))
                      clear hb10
                      go_wp2
                      go_ret
                      exact ⟨rfl, HB11.out⟩
                  · have hr2 : rank < 0 := by omega
                    have hd1 : decide (0 ≤ rank) = false := decide_eq_false h0
                    clear hin
                    have HAT := Lib.hid hat
                    have HAV := Lib.hid (fun (X : World) (hX : Below wr.heap.size wr X) => HAL.out X (bup HBW.out hX))
                    clear hat hk hs hw hb hbs hlt
                    go_wp2_with fail
                    refine HAT.out.mono ?_
                    rintro e w8 ⟨rfl, hb8⟩
                    obtain ⟨w9, hw9⟩ : ∃ w9, w8.alloc (.cells #[.string ⟨#[]⟩, .int .i64 0] 47) = w9 := ⟨_, rfl⟩
                    have r9 : w9.rowIs w8.heap.size 47 2 (fun i => if i = 0 then .string ⟨#[]⟩ else .int .i64 0) := by rw [← hw9]; exact rows2 _ _ _ rfl rfl
                    have hb9 : Below wr.heap.size wr w9 := by rw [← hw9]; exact hb8.alloc hb8.size _
                    have HB9 := Lib.hid hb9
                    have HW9 := Lib.hid hw9
                    have x0 := r9.cell (i := 0) (by omega)
                    have x1 := r9.cell (i := 1) (by omega)
                    clear hb8 hw9 r9 hb9
                    go_wp2_with fail
                    rw [HW9.out]
                    go_quiet (fail)
                    all_goals
                      have HA9 := Lib.hid (HAV.out (w9.drewN nq) (HB9.out.trans (below_drewN _ _ _)))
                      have HB10 : Hid (Below wr.heap.size wr (w9.drewN nq)) := HB9.out.trans (below_drewN _ _ _)
                      go_wp2_with fail
                      refine HA9.out.mono ?_
                      rintro e w10 ⟨rfl, hb10⟩
                      have HB11 := Lib.hid (bup HBW.out (bup HB10.out hb10))
                      clear hb10
                      go_wp2
                      go_ret
                      exact ⟨rfl, HB11.out⟩
              · have hjn' : ¬ (j : Int) < (nb : Int) := by omega
                by_cases hin : 0 ≤ rank ∧ rank < (L.length : Int)
                · obtain ⟨q, rfl⟩ : ∃ q : Nat, rank = (q : Int) := ⟨rank.toNat, by omega⟩
                  have hql : q < L.length := by omega
                  obtain ⟨x, hx⟩ : ∃ x, L[q]? = some x := ⟨_, List.getElem?_eq_getElem hql⟩
                  have hav : atV L (q : Int) = .tuple #[mbV x, .bool true] := by unfold atV; rw [if_pos (by omega), Int.toNat_natCast, hx]
                  have hat := lat_any HK.out (by omega) (fun x hx => by have := HBS.out x hx; omega) (q : Int)
                  rw [hav] at hat
                  unfold mbV at hat
                  obtain ⟨bw, ow, hAe, hbwl, hcw⟩ := hs.1.at_ (by omega)
                  subst hAe
                  obtain ⟨v0, v1⟩ := hcw q x hx
                  obtain ⟨TT, hTT⟩ : ∃ T : ByteArray, (⟨x.1.toArray⟩ : ByteArray) = T := ⟨_, rfl⟩
                  obtain ⟨Z, hZ⟩ : ∃ Z, x.2 = Z := ⟨_, rfl⟩
                  rw [hTT] at v0 hat
                  rw [hZ] at v1 hat
                  have HV : Hid (∀ X, Below wr.heap.size wr X → X.cell? ⟨bw, ow + q * 2, none⟩ = some (.string TT) ∧ X.cell? ⟨bw, ow + q * 2 + 1, none⟩ = some (.int .i64 Z)) := fun X hX => ⟨(hX.cell (p := ⟨bw, ow + q * 2, none⟩) hbwl).trans v0, (hX.cell (p := ⟨bw, ow + q * 2 + 1, none⟩) hbwl).trans v1⟩
                  have hq0 : (0 : Int) ≤ (q : Int) := by omega
                  have hq1 : (q : Int) < (L.length : Int) := by omega
                  have heq : ∀ X : World, (binOp .neq 47 (.agg #[.string TT, .int .i64 Z]) (.agg #[.string TT, .int .i64 Z])).run Tryd.prog X = .ok (.bool false) X := by intro X; go_simp
                  clear hav hx hcw v0 v1 hTT hZ hin
                  have HAT := Lib.hid hat
                  have HAV := Lib.hid (fun (X : World) (hX : Below wr.heap.size wr X) => HAL.out X (bup HBW.out hX))
                  clear hat hk hs hw hb hbs hlt
                  go_wp2_with fail
                  refine HAT.out.mono ?_
                  rintro e w8 ⟨rfl, hb8⟩
                  obtain ⟨w9, hw9⟩ : ∃ w9, w8.alloc (.cells #[.string TT, .int .i64 Z] 47) = w9 := ⟨_, rfl⟩
                  have r9 : w9.rowIs w8.heap.size 47 2 (fun i => if i = 0 then .string TT else .int .i64 Z) := by rw [← hw9]; exact rows2 _ _ _ rfl rfl
                  have hb9 : Below wr.heap.size wr w9 := by rw [← hw9]; exact hb8.alloc hb8.size _
                  have HB9 := Lib.hid hb9
                  have HW9 := Lib.hid hw9
                  obtain ⟨v0, v1⟩ := HV.out w9 hb9
                  have x0 := r9.cell (i := 0) (by omega)
                  have x1 := r9.cell (i := 1) (by omega)
                  clear hb8 hw9 r9 hb9
                  go_wp2_with fail
                  rw [HW9.out]
                  go_quiet (fail)
                  all_goals
                    have HA9 := Lib.hid (HAV.out (w9.drewN nq) (HB9.out.trans (below_drewN _ _ _)))
                    have HB10 : Hid (Below wr.heap.size wr (w9.drewN nq)) := HB9.out.trans (below_drewN _ _ _)
                    go_wp2_with fail
                    refine HA9.out.mono ?_
                    rintro e w10 ⟨rfl, hb10⟩
                    have HB11 := Lib.hid (bup HBW.out (bup HB10.out hb10))
                    clear hb10
                    go_wp2
                    go_ret
                    exact ⟨rfl, HB11.out⟩
                · have hav : atV L rank = .tuple #[.agg #[.string ⟨#[]⟩, .int .i64 0], .bool false] := by
                    unfold atV
                    by_cases h0 : 0 ≤ rank
                    · rw [if_pos h0, List.getElem?_eq_none (by omega)]
                    · rw [if_neg h0]
                  have hat := lat_any HK.out (by omega) (fun x hx => by have := HBS.out x hx; omega) rank
                  rw [hav] at hat
                  obtain ⟨TT, hTT⟩ : ∃ T : ByteArray, (⟨#[]⟩ : ByteArray) = T := ⟨_, rfl⟩
                  obtain ⟨Z, hZ⟩ : ∃ Z : Int, 0 = Z := ⟨_, rfl⟩
                  have heq : ∀ X : World, (binOp .neq 47 (.agg #[.string ⟨#[]⟩, .int .i64 0]) (.agg #[.string ⟨#[]⟩, .int .i64 0])).run Tryd.prog X = .ok (.bool false) X := by intro X; go_simp
                  subst hTT hZ
                  clear hav
                  by_cases h0 : 0 ≤ rank
                  · have hr : ¬ rank < (L.length : Int) := fun e => hin ⟨h0, e⟩
                    have hr2 : (L.length : Int) ≤ rank := by omega
                    have hd1 : decide (0 ≤ rank) = true := decide_eq_true h0
                    have hd2 : decide (rank < (L.length : Int)) = false := decide_eq_false hr
                    clear hin
                    have HAT := Lib.hid hat
                    have HAV := Lib.hid (fun (X : World) (hX : Below wr.heap.size wr X) => HAL.out X (bup HBW.out hX))
                    clear hat hk hs hw hb hbs hlt
                    go_wp2_with fail
                    refine HAT.out.mono ?_
                    rintro e w8 ⟨rfl, hb8⟩
                    obtain ⟨w9, hw9⟩ : ∃ w9, w8.alloc (.cells #[.string ⟨#[]⟩, .int .i64 0] 47) = w9 := ⟨_, rfl⟩
                    have r9 : w9.rowIs w8.heap.size 47 2 (fun i => if i = 0 then .string ⟨#[]⟩ else .int .i64 0) := by rw [← hw9]; exact rows2 _ _ _ rfl rfl
                    have hb9 : Below wr.heap.size wr w9 := by rw [← hw9]; exact hb8.alloc hb8.size _
                    have HB9 := Lib.hid hb9
                    have HW9 := Lib.hid hw9
                    have x0 := r9.cell (i := 0) (by omega)
                    have x1 := r9.cell (i := 1) (by omega)
                    clear hb8 hw9 r9 hb9
                    go_wp2_with fail
                    rw [HW9.out]
                    go_quiet (fail)
                    all_goals
                      have HA9 := Lib.hid (HAV.out (w9.drewN nq) (HB9.out.trans (below_drewN _ _ _)))
                      have HB10 : Hid (Below wr.heap.size wr (w9.drewN nq)) := HB9.out.trans (below_drewN _ _ _)
                      go_wp2_with fail
                      refine HA9.out.mono ?_
                      rintro e w10 ⟨rfl, hb10⟩
                      have HB11 := Lib.hid (bup HBW.out (bup HB10.out hb10))
                      clear hb10
                      go_wp2
                      go_ret
                      exact ⟨rfl, HB11.out⟩
                  · have hr2 : rank < 0 := by omega
                    have hd1 : decide (0 ≤ rank) = false := decide_eq_false h0
                    clear hin
                    have HAT := Lib.hid hat
                    have HAV := Lib.hid (fun (X : World) (hX : Below wr.heap.size wr X) => HAL.out X (bup HBW.out hX))
                    clear hat hk hs hw hb hbs hlt
                    go_wp2_with fail
                    refine HAT.out.mono ?_
                    rintro e w8 ⟨rfl, hb8⟩
                    obtain ⟨w9, hw9⟩ : ∃ w9, w8.alloc (.cells #[.string ⟨#[]⟩, .int .i64 0] 47) = w9 := ⟨_, rfl⟩
                    have r9 : w9.rowIs w8.heap.size 47 2 (fun i => if i = 0 then .string ⟨#[]⟩ else .int .i64 0) := by rw [← hw9]; exact rows2 _ _ _ rfl rfl
                    have hb9 : Below wr.heap.size wr w9 := by rw [← hw9]; exact hb8.alloc hb8.size _
                    have HB9 := Lib.hid hb9
                    have HW9 := Lib.hid hw9
                    have x0 := r9.cell (i := 0) (by omega)
                    have x1 := r9.cell (i := 1) (by omega)
                    clear hb8 hw9 r9 hb9
                    go_wp2_with fail
                    rw [HW9.out]
                    go_quiet (fail)
                    all_goals
                      have HA9 := Lib.hid (HAV.out (w9.drewN nq) (HB9.out.trans (below_drewN _ _ _)))
                      have HB10 : Hid (Below wr.heap.size wr (w9.drewN nq)) := HB9.out.trans (below_drewN _ _ _)
                      go_wp2_with fail
                      refine HA9.out.mono ?_
                      rintro e w10 ⟨rfl, hb10⟩
                      have HB11 := Lib.hid (bup HBW.out (bup HB10.out hb10))
                      clear hb10
                      go_wp2
                      go_ret
                      exact ⟨rfl, HB11.out⟩
    · exact absurd HEA.out hne
  · have HB2 := Lib.hid (bup HB1.out hb2)
    have HRL := Lib.hid (rload_any w2 (HS1.out.below hb2) (by omega))
    have HNE := Lib.hid hne
    clear hb2 hne
    go_wp2_with fail
    refine HRL.out.mono ?_
    rintro e w3 ⟨hb3, ⟨heach, _⟩ | ⟨_, rfl⟩⟩
    · exact absurd heach HNE.out
    · have HB3 := Lib.hid (bup HB2.out hb3)
      have HNW := Lib.hid (lnew_any seed HSD.out w3 (HZA.out.below HB3.out))
      clear hb3
      go_wp2_with fail
      refine HNW.out.mono ?_
      rintro e w4 ⟨us, uc, uh, umb, uns, uS, ug, usz, rfl, hu, hb4⟩
      have HB4 := Lib.hid (bup HB3.out hb4)
      have HLU := Lib.hid (len_any hu)
      have HA4 := Lib.hid (HAL.out _ HB4.out)
      clear hu hb4
      go_wp2_with fail
      refine HLU.out.mono ?_
      rintro e w5 ⟨rfl, hw5⟩
      rw [hw5]
      clear hw5
      go_wp2_with fail
      refine HA4.out.mono ?_
      rintro e w6 ⟨rfl, hb6⟩
      have HB6 := Lib.hid (bup HB4.out hb6)
      clear hb6
      go_wp2
      go_ret
      exact ⟨rfl, HB6.out⟩

end Go.Proofs.YtcbiiioglklpoaaDoor
