/-
  The walk of DequeEnds at any row of numbers.
-/
import Derived.Test.YtkjcoengijedeabDlA
namespace Go.Proofs.Ytkjcoengijedeab
open Go.RowKit

/-- The first ones of what reads as a list. -/
theorem SlAt.first {w : World} {A : Option Addr} {n c m : Nat} {xs : List Value} (h : SlAt w A n c xs) (hm : m ≤ n) : SlAt w A m c (xs.take m) :=
  ⟨by rw [List.length_take, h.len]; omega, Nat.le_trans hm h.le, h.max, h.bare, fun hp => by
    obtain ⟨b, o, e, hb, hc⟩ := h.at_ (by omega)
    exact ⟨b, o, e, hb, fun j u hu => hc j u (by
      rw [List.getElem?_take] at hu
      split at hu
      · exact hu
      · cases hu)⟩⟩

set_option maxRecDepth 100000 in
set_option maxHeartbeats 16000000 in
theorem dequeEnds_any {A : Option Addr} {n c : Nat} {L0 : List Int} (w : World) (hL : SlAt w A n c (L0.map (Value.int .i64))) :
    Calls Try.prog 4 #[.slice A n c] w fun e w' => e = .returned (.bool true) ∧ Below w.heap.size w w' := by
  have hnc := hL.le
  have hcm := hL.max
  obtain ⟨m, L, hm, hm3, HL, hsp⟩ : ∃ (m : Nat) (L : List Int), m ≤ n ∧ m ≤ 300 ∧ Hid (SlAt w A m c (L.map (Value.int .i64))) ∧ ((300 < n ∧ Hid (300 = m)) ∨ (¬ 300 < n ∧ m = n)) := by
    by_cases h : 300 < n
    · exact ⟨300, L0.take 300, by omega, by omega, by unfold Hid; rw [List.map_take]; exact hL.first (by omega), Or.inl ⟨h, rfl⟩⟩
    · exact ⟨n, L0, Nat.le_refl _, by omega, hL, Or.inr ⟨h, rfl⟩⟩
  have HLN : Hid (L.length = m) := by unfold Hid; have := HL.out.len; simpa using this
  have HAW := Lib.hid (awake_any w)
  clear hL
  have HT : Hid (300 = 300) := rfl
  rcases hsp with ⟨h3, H4⟩ | ⟨h3, h4⟩
  case' inl => have h3b : (300 : Int) < (n : Int) := by omega
  case' inr =>
    have h3b : decide ((300 : Int) < (n : Int)) = false := decide_eq_false (by omega)
    subst h4
    have H4 := HT
  all_goals
    clear HT
    go_enter Try.func4, Try.ntmps4
    go_wp2_with fail
    refine HAW.out.mono ?_
    rintro e w1 ⟨rfl, hb1⟩
    have HB1 := Lib.hid hb1
    clear hb1
    obtain ⟨M0, hM0⟩ : ∃ M, w1.heap.size = M := ⟨_, rfl⟩
    obtain ⟨wa, hwa⟩ : ∃ wa, w1.alloc (.cells #[.pointer none] 39) = wa := ⟨_, rfl⟩
    obtain ⟨wb, hwb⟩ : ∃ wb, wa.alloc (.cells #[.pointer none] 39) = wb := ⟨_, rfl⟩
    have hza : wa.heap.size = M0 + 1 := by rw [← hwa, ← hM0]; simp
    have HBb : Hid (Below w.heap.size w wb) := by
      unfold Hid
      rw [← hwb, ← hwa]
      exact (HB1.out.alloc HB1.out.size _).alloc (by have := HB1.out.size; simp; omega) _
    have HT0 : Hid (TwoDq KDI wb w.heap.size (· = M0) M0 (· = M0 + 1) (M0 + 1) 2000 [] []) := by
      refine ⟨?_, ?_, fun k h1 h2 => by omega⟩
      · rw [← hwb]
        refine DqOn.below (w := wa) ?_ ((Below.refl _ _).alloc (Nat.le_refl _) _)
        rw [← hwa, ← hM0]
        exact (dq_zero w1).base_le HB1.out.size
      · rw [← hwb, ← hza]
        exact (dq_zero wa).base_le (by rw [hza, ← hM0]; have := HB1.out.size; omega)
    have HWA := Lib.hid hwa
    have HWB := Lib.hid hwb
    have HM0 := Lib.hid hM0
    clear hwa hwb hM0 hza
    go_wp2_with fail
    rw [HM0.out, HWA.out, HWB.out]
    try rw [H4.out]
    go_loopw [5] (fun iv wr => ∃ (i : Nat) (Fa Fb : Nat → Prop), iv = .int .i64 i ∧ i ≤ m ∧ TwoDq KDI wr w.heap.size Fa M0 Fb (M0 + 1) 2000 (L.take i) (L.take i).reverse ∧ Below w.heap.size w wr) (fun iv _ => m - (intOf iv).toNat)
    case atStart => exact ⟨0, _, _, rfl, Nat.zero_le _, HT0.out, HBb.out⟩
    case round =>
      obtain ⟨i, Fa, Fb, rfl, hi, ht, hb⟩ := hrel
      have HT := Lib.hid ht
      have HB := Lib.hid hb
      clear ht hb
      by_cases hlt : i < m
      · obtain ⟨y, hy⟩ : ∃ y, L[i]? = some y := ⟨_, List.getElem?_eq_getElem (by rw [HLN.out]; exact hlt)⟩
        have hyl := hy
        obtain ⟨b, o, u, rfl, hbl, hu, hc0⟩ := HL.out.cell hlt
        rw [List.getElem?_map, hy] at hu
        simp only [Option.map_some, Option.some.injEq] at hu
        subst hu
        have e0 := (HB.out.cell (p := ⟨b, o + i, none⟩) hbl).trans hc0
        have HE : Hid (∀ X, Below w.heap.size w X → X.cell? ⟨b, o + i, none⟩ = some (.int .i64 y)) := fun X hX => (hX.cell (p := ⟨b, o + i, none⟩) hbl).trans hc0
        have HTK : Hid (L.take (i + 1) = L.take i ++ [y]) := by unfold Hid; rw [List.take_add_one, hy]; rfl
        have HLT : Hid ((L.take i).length = i) := by unfold Hid; rw [List.length_take, HLN.out]; omega
        have hmo : moreI i ≤ 2000 := by unfold moreI; omega
        have HPU := Lib.hid (pushI_any wr HT.out.a y (by omega) (by rw [HLT.out]; exact hmo))
        have hic : (i : Int) < (m : Int) := by omega
        clear hy hyl hc0
        go_wp2_with fail
        refine HPU.out.mono ?_
        rintro e w4 ⟨rfl, Fa', hd4, hc4⟩
        rw [insAt_end] at hd4
        have HT4 := Lib.hid (HT.out.left hd4 hc4)
        have HB4 := Lib.hid (HB.out.trans (hc4.below HB.out.size (fun k hk => (HT.out.a.1 k hk).1)))
        have e4 := HE.out w4 HB4.out
        clear hd4 hc4 e0
        have HUN := Lib.hid (unshiftI_any w4 HT4.out.b y (by omega) (by rw [List.length_reverse, HLT.out]; exact hmo))
        go_wp2_with fail
        refine HUN.out.mono ?_
        rintro e w5 ⟨rfl, Fb', hd5, hc5⟩
        rw [insAt_zero] at hd5
        have HT5 := Lib.hid (HT4.out.symm.left hd5 hc5).symm
        have HB5 := Lib.hid (HB4.out.trans (hc5.below HB4.out.size (fun k hk => (HT4.out.b.1 k hk).1)))
        clear hd5 hc5 e4
        go_wp2
        go_roundw
        case rel => exact ⟨i + 1, Fa', Fb', by go_num, by omega, by rw [HTK.out, List.reverse_append]; exact HT5.out, HB5.out⟩
        case measure => simp only [intOf]; omega
      · obtain rfl : i = m := by omega
        have HTI : Hid (L.take i = L) := List.take_of_length_le (by rw [HLN.out]; exact Nat.le_refl _)
        go_wp2_with fail
        have HT2 : Hid (TwoDq KDI wr w.heap.size Fa M0 Fb (M0 + 1) 2000 (L.drop 0) (L.drop 0).reverse) := by
          have q := HT.out
          rw [HTI.out] at q
          exact q
        clear HT
        obtain ⟨wo, rfl⟩ : ∃ wo : World, wo = wr := ⟨_, rfl⟩
        go_loopw [6, 7, 8, 9, 10] (fun iv _ _ _ _ ws => ∃ (j : Nat) (Ga Gb : Nat → Prop), iv = .int .i64 j ∧ j ≤ i ∧ TwoDq KDI ws w.heap.size Ga M0 Gb (M0 + 1) 2000 (L.drop j) (L.drop j).reverse ∧ Below w.heap.size w ws) (fun iv _ _ _ _ _ => i - (intOf iv).toNat)
        case atStart => exact ⟨0, _, _, rfl, Nat.zero_le _, HT2.out, HB.out⟩
        case round =>
          obtain ⟨j, Ga, Gb, rfl, hj, ht, hb⟩ := hrel
          have HT := Lib.hid ht
          have HBs := Lib.hid hb
          clear ht hb
          by_cases hlt : j < i
          · obtain ⟨y, hy⟩ : ∃ y, L[j]? = some y := ⟨_, List.getElem?_eq_getElem (by rw [HLN.out]; exact hlt)⟩
            obtain ⟨b, o, u, rfl, hbl, hu, hc0⟩ := HL.out.cell hlt
            rw [List.getElem?_map, hy] at hu
            simp only [Option.map_some, Option.some.injEq] at hu
            subst hu
            have HE : Hid (∀ X, Below w.heap.size w X → X.cell? ⟨b, o + j, none⟩ = some (.int .i64 y)) := fun X hX => (hX.cell (p := ⟨b, o + j, none⟩) hbl).trans hc0
            have hdr : L.drop j = y :: L.drop (j + 1) := by
              obtain ⟨h1, h2⟩ := List.getElem?_eq_some_iff.1 hy
              rw [List.drop_eq_getElem_cons h1, h2]
            have HDL : Hid ((L.drop (j + 1)).length ≤ 300) := by unfold Hid; rw [List.length_drop, HLN.out]; omega
            have hta := HT.out
            rw [hdr, List.reverse_cons] at hta
            obtain ⟨L', hL'⟩ : ∃ L', L.drop (j + 1) = L' := ⟨_, rfl⟩
            have HLE := Lib.hid hL'
            rw [hL'] at hta HDL
            have HTA := Lib.hid hta
            have HSH := Lib.hid (shiftI_any wr hta.a (by omega))
            have hic : (j : Int) < (i : Int) := by omega
            clear hy hc0 hdr hta hL' HT
            go_wp2_with fail
            refine HSH.out.mono ?_
            rintro e w4 ⟨rfl, Ga', hd4, hc4⟩
            have HT4 := Lib.hid (HTA.out.left hd4 hc4)
            have HB4 := Lib.hid (HBs.out.trans (hc4.below HBs.out.size (fun k hk => (HTA.out.a.1 k hk).1)))
            clear hd4 hc4
            have HPO := Lib.hid (popI_any w4 HT4.out.b (by omega) (by rw [List.length_reverse]; have := HDL.out; omega))
            go_wp2_with fail
            refine HPO.out.mono ?_
            rintro e w5 ⟨rfl, Gb', hd5, hc5⟩
            have HT5 := Lib.hid (HT4.out.symm.left hd5 hc5).symm
            have HB5 := Lib.hid (HB4.out.trans (hc5.below HB4.out.size (fun k hk => (HT4.out.b.1 k hk).1)))
            have e5 := HE.out w5 HB5.out
            clear hd5 hc5
            go_wp2
            go_roundw
            case rel => exact ⟨j + 1, Ga', Gb', by go_num, by omega, by rw [HLE.out]; exact HT5.out, HB5.out⟩
            case measure => simp only [intOf]; omega
          · obtain rfl : j = i := by omega
            have hta := HT.out
            rw [show L.drop j = [] from List.drop_of_length_le (by rw [HLN.out]; exact Nat.le_refl _), List.reverse_nil] at hta
            have HPO := Lib.hid (popI_none wr hta.a)
            have HSH := Lib.hid (shiftI_none wr hta.b)
            have HLA : Hid (Calls Try.prog 17 #[.pointer (some ⟨M0, 0, none⟩)] wr fun e w' => e = .returned (.int .i64 0) ∧ w' = wr) := lenI_any wr hta.a
            have HLB : Hid (Calls Try.prog 17 #[.pointer (some ⟨M0 + 1, 0, none⟩)] wr fun e w' => e = .returned (.int .i64 0) ∧ w' = wr) := lenI_any wr hta.b
            clear hta HT
            go_wp2_with fail
            refine HPO.out.mono ?_
            rintro e w4 ⟨rfl, rfl⟩
            go_wp2_with fail
            refine HSH.out.mono ?_
            rintro e w4 ⟨rfl, rfl⟩
            go_wp2_with fail
            refine HLA.out.mono ?_
            rintro e w4 ⟨rfl, rfl⟩
            go_wp2_with fail
            refine HLB.out.mono ?_
            rintro e w4 ⟨rfl, rfl⟩
            go_wp2
            go_ret
            exact ⟨rfl, HBs.out⟩

end Go.Proofs.Ytkjcoengijedeab
