/-
  The law SkipOrder: its walk. Conditions: the members lie in memory; the table of math/bits lies where the program laid it.
-/
import Derived.Test.YtcbiiioglklpoaaDoorSkV8
namespace Go.Proofs.YtcbiiioglklpoaaDoor
open Go.RowKit

set_option maxRecDepth 100000 in
set_option maxHeartbeats 32000000 in
theorem skipOrder_any (seed : Nat) {A : Option Addr} {n cp : Nat} {l : List Mb} (lo hi : Bd) (w : World) (hsd : seed < 18446744073709551616) (hl : ScAt w A n cp l) (hbl : ∀ x ∈ l, x.1.length ≤ 9223372036854775807) (hz : TzB w) :
    Calls Tryd.prog 6 #[.int .u64 (seed : Nat), .slice A n cp, bdV lo, bdV hi] w fun e w' => e = .returned (.bool true) ∧ Below w.heap.size w w' := by
  obtain ⟨M, hM⟩ : ∃ M, w.heap.size = M := ⟨_, rfl⟩
  obtain ⟨wa, hwa⟩ : ∃ wa, (w.alloc (.cells #[.int .i64 lo.n, .bool lo.open_, .int .i64 lo.inf] 23)).alloc (.cells #[.int .i64 hi.n, .bool hi.open_, .int .i64 hi.inf] 23) = wa := ⟨_, rfl⟩
  obtain ⟨l1, l2, ba, sa⟩ := two_bounds w lo hi hM hwa
  have hba : Below w.heap.size w wa := by rw [hM]; exact ba
  have HFE := Lib.hid (few_any wa (hl.below hba) hbl)
  have HZA := Lib.hid (hz.below hba)
  have HK : Hid (∀ X, Below wa.heap.size wa X → X.cell? ⟨M, 0, none⟩ = some (.int .i64 lo.n) ∧ X.cell? ⟨M, 1, none⟩ = some (.bool lo.open_) ∧ X.cell? ⟨M, 2, none⟩ = some (.int .i64 lo.inf) ∧ X.cell? ⟨M + 1, 0, none⟩ = some (.int .i64 hi.n) ∧ X.cell? ⟨M + 1, 1, none⟩ = some (.bool hi.open_) ∧ X.cell? ⟨M + 1, 2, none⟩ = some (.int .i64 hi.inf) ∧ M < X.heap.size ∧ M + 1 < X.heap.size) := fun X hX => by
    obtain ⟨a1, a2, a3⟩ := l1.below (by omega) hX
    obtain ⟨a4, a5, a6⟩ := l2.below (by omega) hX
    exact ⟨a1, a2, a3, a4, a5, a6, by have := hX.size; omega, by have := hX.size; omega⟩
  have HBM : Hid (∀ X, Below wa.heap.size wa X → Below M w X) := fun X hX => ba.trans (hX.mono (by omega))
  have HAL := Lib.hid (fun (X : World) (hX : Below wa.heap.size wa X) => alive_any X (HZA.out.below hX).1 (HZA.out.below hX).2)
  have HWA := Lib.hid hwa
  have HSD := Lib.hid hsd
  have HMh := Lib.hid hM
  rw [hM]
  clear hwa l1 l2 ba sa hba hl hbl hz hsd
  unfold bdV
  go_enter Tryd.func6, Tryd.ntmps6
  go_wp2_with fail
  rw [HWA.out]
  refine HFE.out.mono ?_
  rintro e w1 ⟨A1, n1, c1, rfl, hsc, hb1⟩
  have HB1 := Lib.hid hb1
  have HN1 := Lib.hid hsc.len
  have HLD := Lib.hid (load_any seed HSD.out w1 hsc (by have := hsc.len; rw [fewM_length] at this; omega) (fun x hx => by have := fewM_size hx; omega) (HZA.out.below hb1).1 (HZA.out.below hb1).2)
  clear hb1 hsc
  go_wp2_with fail
  refine HLD.out.mono ?_
  rintro e w2 ⟨hb2, ⟨_, base, s, c, h, mb, ns, S, g, sz, L, rfl, hba, hls, hpm⟩ | ⟨hne, rfl⟩⟩
  · have HLS := Lib.hid hls
    have HB2 := Lib.hid (bup HB1.out hb2)
    have hlen : L.length ≤ 100 := by rw [hpm.length_eq, fewM_length]; omega
    have hbs : ∀ x ∈ L, x.1.length ≤ 1000000000 := fun x hx => by have := fewM_size (hpm.mem_iff.1 hx); omega
    have HBS := Lib.hid hbs
    have HLN := Lib.hid hlen
    have HAA := Lib.hid (lall_any hls (by omega) hbs)
    clear hb2 hba hls hpm hbs
    go_wp2_with fail
    refine HAA.out.mono ?_
    rintro e w3 ⟨A3, c3, rfl, hsa, hb3⟩
    have HB3 := Lib.hid (bup HB2.out hb3)
    have HL3 := Lib.hid (HLS.out.below hb3)
    have HSA := Lib.hid hsa
    have HLE := Lib.hid (len_any HL3.out)
    clear hb3 hsa
    go_wp2_with fail
    refine HLE.out.mono ?_
    rintro e w4 ⟨rfl, rfl⟩
    obtain ⟨F, O, hFO, hFc⟩ : ∃ (F : Int) (O : Bool), (if fromM lo L = toM lo hi L then Value.tuple #[.int .i64 0, .bool false] else .tuple #[.int .i64 (fromM lo L : Nat), .bool true]) = .tuple #[.int .i64 F, .bool O] ∧ ((fromM lo L = toM lo hi L ∧ O = false) ∨ (fromM lo L ≠ toM lo hi L ∧ F = (fromM lo L : Nat) ∧ O = true)) := by
      by_cases e : fromM lo L = toM lo hi L
      · exact ⟨0, false, by rw [if_pos e], Or.inl ⟨e, rfl⟩⟩
      · exact ⟨_, true, by rw [if_neg e], Or.inr ⟨e, rfl, rfl⟩⟩
    have hfi := lfirst_any HL3.out (by have := HLN.out; omega) lo hi
    rw [hFO] at hfi
    unfold bdV at hfi
    have HFI := Lib.hid hfi
    have HFC := Lib.hid hFc
    obtain ⟨x0, x1, x2, x3, x4, x5, hm0, hm1⟩ := HK.out _ HB3.out
    clear hfi hFO hFc
    go_wp2_with fail
    refine HFI.out.mono ?_
    rintro e w5 ⟨rfl, hb5⟩
    have HB5 := Lib.hid (bup HB3.out hb5)
    have HL5 := Lib.hid (HL3.out.below hb5)
    have HS5 := Lib.hid (HSA.out.below hb5)
    have hct := lcount_any HL5.out (by have := HLN.out; omega) lo hi
    unfold bdV at hct
    have HCT := Lib.hid hct
    clear x0 x1 x2 x3 x4 x5 hm0 hm1
    obtain ⟨x0, x1, x2, x3, x4, x5, hm0, hm1⟩ := HK.out _ HB5.out
    clear hct hb5
    go_wp2_with fail
    refine HCT.out.mono ?_
    rintro e w6 ⟨rfl, hb6⟩
    have HB6 := Lib.hid (bup HB5.out hb6)
    have HL6 := Lib.hid (HL5.out.below hb6)
    have HS6 := Lib.hid (HS5.out.below hb6)
    obtain ⟨D, hD⟩ : ∃ D, toM lo hi L - fromM lo L = D := ⟨_, rfl⟩
    have HD := Lib.hid hD
    rw [hD]
    clear x0 x1 x2 x3 x4 x5 hm0 hm1 hb6 hD
    go_wp2_with fail
    go_loopw [15] (fun iv wr => ∃ i : Nat, iv = .int .i64 i ∧ i ≤ L.length ∧ Below w6.heap.size w6 wr) (fun iv _ => L.length - (intOf iv).toNat)
    case atStart => exact ⟨0, rfl, Nat.zero_le _, Below.refl _ _⟩
    case round =>
      obtain ⟨i, rfl, hi', hb⟩ := hrel
      have HBi := Lib.hid hb
      by_cases hlt : i < L.length
      · obtain ⟨x, hx⟩ : ∃ x, L[i]? = some x := ⟨_, List.getElem?_eq_getElem hlt⟩
        have hlt' : (i : Int) < L.length := by omega
        have hat := lat_any (HL6.out.below hb) (by have := HLN.out; omega) HBS.out (i : Int)
        have hav : atV L (i : Int) = .tuple #[mbV x, .bool true] := by unfold atV; rw [if_pos (by omega), Int.toNat_natCast, hx]
        rw [hav] at hat
        have HRK : Hid (∀ X, Below w6.heap.size w6 X → Calls Tryd.prog 29 #[.pointer (some ⟨s, 0, none⟩), .string ⟨x.1.toArray⟩] X fun e w' => e = .returned (.tuple #[.int .i64 (i : Nat), .bool true]) ∧ Below X.heap.size X w') := fun X hX => by
          have q := rank_any (HL6.out.below hX) (by have := HLN.out; omega) ⟨x.1.toArray⟩ (by have := HBS.out x (List.mem_of_getElem? hx); show x.1.toArray.size ≤ _; simp; omega)
          rw [show (⟨x.1.toArray⟩ : ByteArray).data.toList = x.1 from by simp, fnd_self HL6.out.ord hx] at q
          exact q
        obtain ⟨b, o, hAe, hbl, hc⟩ := HS6.out.at_ (by omega)
        have HCA : Hid (∀ X, Below w6.heap.size w6 X → ∀ j y, L[j]? = some y → X.cell? ⟨b, o + j * 2, none⟩ = some (.string ⟨y.1.toArray⟩) ∧ X.cell? ⟨b, o + j * 2 + 1, none⟩ = some (.int .i64 y.2)) := fun X hX j y hy => by
          obtain ⟨q0, q1⟩ := hc j y hy
          exact ⟨(hX.cell (p := ⟨b, o + j * 2, none⟩) hbl).trans q0, (hX.cell (p := ⟨b, o + j * 2 + 1, none⟩) hbl).trans q1⟩
        subst hAe
        have hbsz : b < w6.heap.size := hbl
        have HBL := Lib.hid hbsz
        have HX := Lib.hid hx
        have HXI := Lib.hid hlt
        have hcs : (O = false ∧ inB x.2 lo hi = false) ∨ (∃ a : Nat, O = true ∧ F = (a : Int) ∧ i < a ∧ inB x.2 lo hi = false) ∨ (∃ a : Nat, O = true ∧ F = (a : Int) ∧ a ≤ i ∧ i - a < D ∧ inB x.2 lo hi = true) ∨ (∃ a : Nat, O = true ∧ F = (a : Int) ∧ a ≤ i ∧ ¬ i - a < D ∧ inB x.2 lo hi = false) := by
          have hq := inB_iff HL6.out.ord.1 lo hi hx
          have hle := fromM_le lo hi L
          have hD := HD.out
          rcases HFC.out with ⟨h1, h2⟩ | ⟨h1, h2, h3⟩
          · refine Or.inl ⟨h2, ?_⟩
            cases hin : inB x.2 lo hi with
            | false => rfl
            | true => have := hq.1 hin; omega
          · refine Or.inr ?_
            by_cases e1 : i < fromM lo L
            · refine Or.inl ⟨_, h3, h2, e1, ?_⟩
              cases hin : inB x.2 lo hi with
              | false => rfl
              | true => have := hq.1 hin; omega
            · refine Or.inr ?_
              by_cases e2 : i - fromM lo L < D
              · exact Or.inl ⟨_, h3, h2, by omega, e2, hq.2 ⟨by omega, by omega⟩⟩
              · refine Or.inr ⟨_, h3, h2, by omega, e2, ?_⟩
                cases hin : inB x.2 lo hi with
                | false => rfl
                | true => have := hq.1 hin; omega
        have HCS := Lib.hid hcs
        have HPR : Hid (∀ j y, j + 1 = i → L[j]? = some y → ∀ X, Calls Tryd.prog 35 #[mbV y, mbV x] X fun e w' => e = .returned (.bool true) ∧ Below X.heap.size X w') := fun j y hj hy X => by
          refine rahead_yes y x ?_ X
          have hp := List.pairwise_iff_getElem.1 HL6.out.ord.1 j i (by omega) hlt (by omega)
          have e1 := (List.getElem?_eq_some_iff.1 hx).2
          have e2 := (List.getElem?_eq_some_iff.1 hy).2
          rw [e1, e2] at hp
          exact hp
        unfold mbV at hat HPR
        obtain ⟨TT, hTT⟩ : ∃ T : ByteArray, (⟨x.1.toArray⟩ : ByteArray) = T := ⟨_, rfl⟩
        obtain ⟨Z, hZ⟩ : ∃ Z, x.2 = Z := ⟨_, rfl⟩
        have HTT := Lib.hid hTT
        have HZZ := Lib.hid hZ
        have HAT := Lib.hid hat
        rw [hTT, hZ] at HAT HPR
        rw [hTT] at HRK
        rw [hZ] at HCS
        clear hat hav hx hlt hb hc hcs hTT hZ hbl
        go_wp2_with fail
        refine HAT.out.mono ?_
        rintro e w7 ⟨rfl, hb7⟩
        have HB7 := Lib.hid (bup HBi.out hb7)
        obtain ⟨y0, y1⟩ := HCA.out _ HB7.out i x HX.out
        rw [HTT.out] at y0
        rw [HZZ.out] at y1
        have hb7s : b < w7.heap.size := by have := HB7.out.size; omega
        clear hb7
        obtain ⟨w8, hw8⟩ : ∃ w8, w7.alloc (.cells #[.string TT, .int .i64 Z] 47) = w8 := ⟨_, rfl⟩
        have HB8 : Hid (Below w6.heap.size w6 w8) := by unfold Hid; rw [← hw8]; exact HB7.out.alloc HB7.out.size _
        have r8 : w8.rowIs w7.heap.size 47 2 (fun i => if i = 0 then .string TT else .int .i64 Z) := by rw [← hw8]; exact rows2 _ _ _ rfl rfl
        have HR8 := Lib.hid r8
        have HW8 := Lib.hid hw8
        clear hw8 r8
        go_wp2_with fail
        rw [HW8.out]
        refine (HRK.out _ HB8.out).mono ?_
        rintro e w9 ⟨rfl, hb9⟩
        have HB9 := Lib.hid (bup HB8.out hb9)
        have HR9 := Lib.hid (HR8.out.of_block (hb9.block _ HR8.out.lt))
        have HFX : Hid (∀ X, Below w9.heap.size w9 X → X.cell? ⟨w7.heap.size, 0, none⟩ = some (.string TT) ∧ X.cell? ⟨w7.heap.size, 1, none⟩ = some (.int .i64 Z) ∧ X.cell? ⟨b, o + i * 2, none⟩ = some (.string TT) ∧ X.cell? ⟨b, o + i * 2 + 1, none⟩ = some (.int .i64 Z) ∧ X.cell? ⟨M, 0, none⟩ = some (.int .i64 lo.n) ∧ X.cell? ⟨M, 1, none⟩ = some (.bool lo.open_) ∧ X.cell? ⟨M, 2, none⟩ = some (.int .i64 lo.inf) ∧ X.cell? ⟨M + 1, 0, none⟩ = some (.int .i64 hi.n) ∧ X.cell? ⟨M + 1, 1, none⟩ = some (.bool hi.open_) ∧ X.cell? ⟨M + 1, 2, none⟩ = some (.int .i64 hi.inf)) := fun X hX => by
          have hr := HR9.out.of_block (hX.block _ HR9.out.lt)
          obtain ⟨q0, q1⟩ := HCA.out _ (bup HB9.out hX) i x HX.out
          rw [HTT.out] at q0
          rw [HZZ.out] at q1
          obtain ⟨a0, a1, a2, a3, a4, a5, _, _⟩ := HK.out _ (bup (bup HB6.out HB9.out) hX)
          exact ⟨hr.cell (i := 0) (by omega), hr.cell (i := 1) (by omega), q0, q1, a0, a1, a2, a3, a4, a5⟩
        have heq : ∀ X : World, (binOp .neq 47 (.agg #[.string TT, .int .i64 Z]) (.agg #[.string TT, .int .i64 Z])).run Tryd.prog X = .ok (.bool false) X := by intro X; go_simp
        have HRI := Lib.hid (fun X => rin_any Z lo hi X)
        unfold bdV at HRI
        have H9 : Hid (Below w9.heap.size w9 w9) := Below.refl _ _
        have HBF : Hid (∀ X, Below w9.heap.size w9 X → Below w6.heap.size w6 X) := fun X hX => bup HB9.out hX
        have hi100 : i ≤ 100 := by have := HXI.out; have := HLN.out; omega
        have HSX : Hid (∀ X, Below w9.heap.size w9 X → Below w9.heap.size w9 X ∧ X.cell? ⟨w7.heap.size, 0, none⟩ = some (.string TT) ∧ X.cell? ⟨w7.heap.size, 1, none⟩ = some (.int .i64 Z) ∧ X.cell? ⟨b, o + i * 2, none⟩ = some (.string TT) ∧ X.cell? ⟨b, o + i * 2 + 1, none⟩ = some (.int .i64 Z)) := fun X hX => by
          obtain ⟨q0, q1, q2, q3, _⟩ := HFX.out X hX
          exact ⟨hX, q0, q1, q2, q3⟩
        clear y0 y1 hb7s hb9
        go_wp2_with fail
        by_cases hi0 : i = 0
        · have hz0 : ¬ (0 : Int) < (i : Int) := by omega
          have hz1 : ¬ 0 < i := by omega
          clear hi0
          obtain ⟨q0, q1, q2, q3, _⟩ := HFX.out w9 H9.out
          go_quiet (fail)
          all_goals
            have HB10 : Hid (Below w9.heap.size w9 (w9.drewN nq)) := below_drewN _ _ _
            obtain ⟨w10, hw10⟩ : ∃ w10, w9.drewN nq = w10 := ⟨_, rfl⟩
            rw [hw10] at HB10 ⊢
            clear hw10
            obtain ⟨q0, q1, _, _, a0, a1, a2, a3, a4, a5⟩ := HFX.out w10 HB10.out
            rcases HCS.out with ⟨rfl, hin⟩ | ⟨a, rfl, rfl, ha, hin⟩ | ⟨a, rfl, rfl, ha, ha2, hin⟩ | ⟨a, rfl, rfl, ha, ha2, hin⟩
            · rw [hin] at HRI
              clear hin HFC HFI HCS
              go_wp2_with fail
              refine (HRI.out _).mono ?_
              rintro e w11 ⟨rfl, hb11⟩
              have HB11 := Lib.hid (HBF.out _ (bup HB10.out hb11))
              clear hb11
              go_wp2
              go_roundw
              case rel => exact ⟨i + 1, by go_num, HXI.out, HB11.out⟩
              case measure => simp only [intOf]; have := HXI.out; omega
            · have ha2 : ¬ a ≤ i := by omega
              rw [hin] at HRI
              clear hin HFC HFI HCS
              go_wp2_with fail
              refine (HRI.out _).mono ?_
              rintro e w11 ⟨rfl, hb11⟩
              have HB11 := Lib.hid (HBF.out _ (bup HB10.out hb11))
              clear hb11
              go_wp2
              go_roundw
              case rel => exact ⟨i + 1, by go_num, HXI.out, HB11.out⟩
              case measure => simp only [intOf]; have := HXI.out; omega
            · have hs1 : IntKind.i64.wrap ((i : Int) - (a : Int)) = ((i - a : Nat) : Int) := by rw [IntWalk.i64_in _ (by omega)]; omega
              obtain ⟨q, hq⟩ : ∃ q, i - a = q := ⟨_, rfl⟩
              rw [hq] at hs1 ha2
              clear hq
              rw [hin] at HRI
              clear hin HFC HFI HCS
              go_wp2_with fail
              refine (HRI.out _).mono ?_
              rintro e w11 ⟨rfl, hb11⟩
              have HB11 := Lib.hid (HBF.out _ (bup HB10.out hb11))
              clear hb11
              go_wp2
              go_roundw
              case rel => exact ⟨i + 1, by go_num, HXI.out, HB11.out⟩
              case measure => simp only [intOf]; have := HXI.out; omega
            · have hs1 : IntKind.i64.wrap ((i : Int) - (a : Int)) = ((i - a : Nat) : Int) := by rw [IntWalk.i64_in _ (by omega)]; omega
              obtain ⟨q, hq⟩ : ∃ q, i - a = q := ⟨_, rfl⟩
              rw [hq] at hs1 ha2
              clear hq
              rw [hin] at HRI
              clear hin HFC HFI HCS
              go_wp2_with fail
              refine (HRI.out _).mono ?_
              rintro e w11 ⟨rfl, hb11⟩
              have HB11 := Lib.hid (HBF.out _ (bup HB10.out hb11))
              clear hb11
              go_wp2
              go_roundw
              case rel => exact ⟨i + 1, by go_num, HXI.out, HB11.out⟩
              case measure => simp only [intOf]; have := HXI.out; omega
        · have hz0 : (0 : Int) < (i : Int) := by omega
          have hz1 : 0 < i := by omega
          obtain ⟨j, hj⟩ : ∃ j, j + 1 = i := ⟨i - 1, by omega⟩
          obtain ⟨y, hy⟩ : ∃ y, L[j]? = some y := ⟨_, List.getElem?_eq_getElem (by have := HXI.out; omega)⟩
          have hs0 : IntKind.i64.wrap ((i : Int) - 1) = (j : Int) := by rw [IntWalk.i64_in _ (by omega)]; omega
          have hjl : (j : Int) < (L.length : Int) := by have := HXI.out; omega
          have HAH := Lib.hid (HPR.out j y hj hy)
          have HFY : Hid (∀ X, Below w9.heap.size w9 X → X.cell? ⟨b, o + j * 2, none⟩ = some (.string ⟨y.1.toArray⟩) ∧ X.cell? ⟨b, o + j * 2 + 1, none⟩ = some (.int .i64 y.2)) := fun X hX => HCA.out _ (bup HB9.out hX) j y hy
          obtain ⟨YT, hYT⟩ : ∃ T : ByteArray, (⟨y.1.toArray⟩ : ByteArray) = T := ⟨_, rfl⟩
          obtain ⟨YZ, hYZ⟩ : ∃ Z, y.2 = Z := ⟨_, rfl⟩
          rw [hYT, hYZ] at HAH HFY
          clear hi0 hy hYT hYZ hj HSA HS5 HS6
          have HSY : Hid (∀ X, Below w9.heap.size w9 X → Below w9.heap.size w9 X ∧ X.cell? ⟨w7.heap.size, 0, none⟩ = some (.string TT) ∧ X.cell? ⟨w7.heap.size, 1, none⟩ = some (.int .i64 Z) ∧ X.cell? ⟨b, o + i * 2, none⟩ = some (.string TT) ∧ X.cell? ⟨b, o + i * 2 + 1, none⟩ = some (.int .i64 Z) ∧ X.cell? ⟨b, o + j * 2, none⟩ = some (.string YT) ∧ X.cell? ⟨b, o + j * 2 + 1, none⟩ = some (.int .i64 YZ)) := fun X hX => by
            obtain ⟨q0, q1, q2, q3, q4⟩ := HSX.out X hX
            obtain ⟨y0, y1⟩ := HFY.out X hX
            exact ⟨q0, q1, q2, q3, q4, y0, y1⟩
          clear HSX
          go_region_held3 (fun X => Below w9.heap.size w9 X ∧ X.cell? ⟨w7.heap.size, 0, none⟩ = some (.string TT) ∧ X.cell? ⟨w7.heap.size, 1, none⟩ = some (.int .i64 Z) ∧ X.cell? ⟨b, o + i * 2, none⟩ = some (.string TT) ∧ X.cell? ⟨b, o + i * 2 + 1, none⟩ = some (.int .i64 Z) ∧ X.cell? ⟨b, o + j * 2, none⟩ = some (.string YT) ∧ X.cell? ⟨b, o + j * 2 + 1, none⟩ = some (.int .i64 YZ))
            (first | exact HSY.out _ HC1.out | exact HSY.out _ H9.out.drew | exact HSY.out _ H9.out)
            (first | (go_at_call 35; refine Calls.mono (HAH.out _) ?_; rintro en x1 ⟨rfl, hq⟩; have HC1 : Hid (Below w9.heap.size w9 x1) := (by first | exact hq | exact (Below.refl _ _).drew.trans hq); clear hq))
          all_goals
            have HB10 : Hid (Below w9.heap.size w9 (x1)) := HC1.out
            obtain ⟨w10, hw10⟩ : ∃ w10, x1 = w10 := ⟨_, rfl⟩
            rw [hw10] at HB10 ⊢
            clear hw10
            obtain ⟨q0, q1, _, _, a0, a1, a2, a3, a4, a5⟩ := HFX.out w10 HB10.out
            rcases HCS.out with ⟨rfl, hin⟩ | ⟨a, rfl, rfl, ha, hin⟩ | ⟨a, rfl, rfl, ha, ha2, hin⟩ | ⟨a, rfl, rfl, ha, ha2, hin⟩
            · rw [hin] at HRI
              clear hin HFC HFI HCS
              go_wp2_with fail
              refine (HRI.out _).mono ?_
              rintro e w11 ⟨rfl, hb11⟩
              have HB11 := Lib.hid (HBF.out _ (bup HB10.out hb11))
              clear hb11
              go_wp2
              go_roundw
              case rel => exact ⟨i + 1, by go_num, HXI.out, HB11.out⟩
              case measure => simp only [intOf]; have := HXI.out; omega
            · have ha2 : ¬ a ≤ i := by omega
              rw [hin] at HRI
              clear hin HFC HFI HCS
              go_wp2_with fail
              refine (HRI.out _).mono ?_
              rintro e w11 ⟨rfl, hb11⟩
              have HB11 := Lib.hid (HBF.out _ (bup HB10.out hb11))
              clear hb11
              go_wp2
              go_roundw
              case rel => exact ⟨i + 1, by go_num, HXI.out, HB11.out⟩
              case measure => simp only [intOf]; have := HXI.out; omega
            · have hs1 : IntKind.i64.wrap ((i : Int) - (a : Int)) = ((i - a : Nat) : Int) := by rw [IntWalk.i64_in _ (by omega)]; omega
              obtain ⟨q, hq⟩ : ∃ q, i - a = q := ⟨_, rfl⟩
              rw [hq] at hs1 ha2
              clear hq
              rw [hin] at HRI
              clear hin HFC HFI HCS
              go_wp2_with fail
              refine (HRI.out _).mono ?_
              rintro e w11 ⟨rfl, hb11⟩
              have HB11 := Lib.hid (HBF.out _ (bup HB10.out hb11))
              clear hb11
              go_wp2
              go_roundw
              case rel => exact ⟨i + 1, by go_num, HXI.out, HB11.out⟩
              case measure => simp only [intOf]; have := HXI.out; omega
            · have hs1 : IntKind.i64.wrap ((i : Int) - (a : Int)) = ((i - a : Nat) : Int) := by rw [IntWalk.i64_in _ (by omega)]; omega
              obtain ⟨q, hq⟩ : ∃ q, i - a = q := ⟨_, rfl⟩
              rw [hq] at hs1 ha2
              clear hq
              rw [hin] at HRI
              clear hin HFC HFI HCS
              go_wp2_with fail
              refine (HRI.out _).mono ?_
              rintro e w11 ⟨rfl, hb11⟩
              have HB11 := Lib.hid (HBF.out _ (bup HB10.out hb11))
              clear hb11
              go_wp2
              go_roundw
              case rel => exact ⟨i + 1, by go_num, HXI.out, HB11.out⟩
              case measure => simp only [intOf]; have := HXI.out; omega
      · have hge : ¬ (i : Int) < L.length := by omega
        have HA9 := Lib.hid (HAL.out wr (bup HB6.out hb))
        clear hlt hb
        go_wp2_with fail
        refine HA9.out.mono ?_
        rintro e w9 ⟨rfl, hb9⟩
        have HB9 := Lib.hid (bup (bup HB6.out HBi.out) hb9)
        clear hb9
        go_wp2
        go_ret
        exact ⟨rfl, HBM.out _ HB9.out⟩
  · have HB2 := Lib.hid (bup HB1.out hb2)
    have HA2 := Lib.hid (HAL.out _ HB2.out)
    clear hb2 hne
    go_wp2_with fail
    refine HA2.out.mono ?_
    rintro e w3 ⟨rfl, hb3⟩
    have HB3 := Lib.hid (bup HB2.out hb3)
    clear hb3
    go_wp2
    go_ret
    exact ⟨rfl, HBM.out _ HB3.out⟩

end Go.Proofs.YtcbiiioglklpoaaDoor
