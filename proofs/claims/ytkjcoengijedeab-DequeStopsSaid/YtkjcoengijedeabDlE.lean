/-
  The walk of DequeStops at any texts and any number.
-/
import Derived.Test.YtkjcoengijedeabDlD
import Derived.Test.YtkjcoengijedeabDlB
namespace Go.Proofs.Ytkjcoengijedeab
open Go.RowKit

theorem take_kk {α : Type} {L : List α} {m n kk : Nat} (hL : L.length = n) (h : min m n = kk) : L.take m = L.take kk := by
  rw [← h, ← hL]
  exact List.take_eq_take_min

set_option maxRecDepth 100000 in
set_option maxHeartbeats 16000000 in
theorem dequeStops_any {A : Option Addr} {n0 c : Nat} {L0 : List ByteArray} (w : World) (hL : SlAt w A n0 c (L0.map Value.string)) (x : Int) (hx : 0 ≤ x) (hx2 : x ≤ 255) :
    Calls Try.prog 5 #[.slice A n0 c, .int .u8 x] w fun e w' => e = .returned (.bool true) ∧ Below w.heap.size w w' := by
  have hnc := hL.le
  have hcm := hL.max
  obtain ⟨n, L, hn, hn3, HL, hsp⟩ : ∃ (n : Nat) (L : List ByteArray), n ≤ n0 ∧ n ≤ 300 ∧ Hid (SlAt w A n c (L.map Value.string)) ∧ ((300 < n0 ∧ Hid (300 = n)) ∨ (¬ 300 < n0 ∧ n = n0)) := by
    by_cases h : 300 < n0
    · exact ⟨300, L0.take 300, by omega, by omega, by unfold Hid; rw [List.map_take]; exact hL.first (by omega), Or.inl ⟨h, rfl⟩⟩
    · exact ⟨n0, L0, Nat.le_refl _, by omega, hL, Or.inr ⟨h, rfl⟩⟩
  have HLN : Hid (L.length = n) := by unfold Hid; have := HL.out.len; simpa using this
  have HAW := Lib.hid (awake_any w)
  obtain ⟨m, hm, hm1, hm2⟩ : ∃ m : Nat, (1 : Int) + x = (m : Int) ∧ 1 ≤ m ∧ m ≤ 256 := ⟨(1 + x).toNat, by omega, by omega, by omega⟩
  have HM := Lib.hid hm
  have hwm : IntKind.i64.wrap (1 + x) = 1 + x := IntWalk.i64_in _ (by omega)
  have hwx : IntKind.i64.wrap x = x := IntWalk.i64_in _ (by omega)
  obtain ⟨kk, hkk⟩ : ∃ kk, min m n = kk := ⟨_, rfl⟩
  have HKK := Lib.hid hkk
  have hkm : kk ≤ m := by omega
  have hkn : kk ≤ n := by omega
  have HT : Hid (300 = 300) := rfl
  have hmin : (m ≤ n ∧ kk = m) ∨ (n < m ∧ kk = n) := by omega
  clear hL hm hkk
  rcases hsp with ⟨h3, H4⟩ | ⟨h3, h4⟩
  case' inl => have h3b : (300 : Int) < (n0 : Int) := by omega
  case' inr =>
    have h3b : decide ((300 : Int) < (n0 : Int)) = false := decide_eq_false (by omega)
    subst h4
    have H4 := HT
  all_goals
    clear HT
    go_enter Try.func5, Try.ntmps5
    go_wp2_with fail
    refine HAW.out.mono ?_
    rintro e w1 ⟨rfl, hb1⟩
    have HB1 := Lib.hid hb1
    clear hb1
    go_wp2_with fail
    try rw [H4.out]
    refine (ofS_any w1 (HL.out.below HB1.out) (by omega)).mono ?_
    rintro e w2 ⟨D, F, rfl, hd, hb2⟩
    have HB2 := Lib.hid (HB1.out.trans (hb2.mono HB1.out.size))
    have HD := Lib.hid (hd.more (show L.length ≤ 1000 by rw [HLN.out]; omega))
    clear hd hb2
    go_wp2_with fail
    rw [HM.out]
    have HW1 : Hid (Calls Try.prog 18 #[.pointer (some ⟨D, 0, none⟩), .bool false, .int .i64 m] w2 fun e w' => ∃ v, e = .returned (.tuple #[v, .bool true]) ∧ w'.ownsRow w2.heap.size 9 1 v kk ((L.take kk).map Value.string) ∧ Below w2.heap.size w2 w') := by
      have q := walked_any (m := m) false w2 HD.out (by omega) (by rw [HLN.out]; omega) hm1
      rw [if_neg (by decide), List.length_map, List.length_take, HLN.out, HKK.out, take_kk HLN.out HKK.out] at q
      exact q
    have HW2 : Hid (∀ X, Below w2.heap.size w2 X → Calls Try.prog 18 #[.pointer (some ⟨D, 0, none⟩), .bool true, .int .i64 m] X fun e w' => ∃ v, e = .returned (.tuple #[v, .bool true]) ∧ w'.ownsRow X.heap.size 9 1 v kk ((L.reverse.take kk).map Value.string) ∧ Below X.heap.size X w') := fun X hX => by
      have q := walked_any (m := m) true X (HD.out.below hX) (by omega) (by rw [HLN.out]; omega) hm1
      rw [if_pos rfl, List.length_map, List.length_take, List.length_reverse, HLN.out, HKK.out, take_kk (L := L.reverse) (by rw [List.length_reverse]; exact HLN.out) HKK.out] at q
      exact q
    refine HW1.out.mono ?_
    rintro e w3 ⟨va, rfl, hra, hb3⟩
    obtain ⟨A1, c1, rfl⟩ := own_form1 hra
    have HS1 := Lib.hid (SlAt.own hra)
    have HB3 := Lib.hid hb3
    clear hra hb3
    go_wp2_with fail
    refine (HW2.out w3 HB3.out).mono ?_
    rintro e w4 ⟨vb, rfl, hrb, hb4⟩
    obtain ⟨A2, c2, rfl⟩ := own_form1 hrb
    have HS2 := Lib.hid (SlAt.own hrb)
    have HS14 := Lib.hid (HS1.out.below hb4)
    have HB4 := Lib.hid (HB2.out.trans ((HB3.out.trans (hb4.mono HB3.out.size)).mono HB2.out.size))
    clear hrb hb4
    have HLK := Lib.hid ((HL.out.below HB4.out).first hkn)
    rw [← List.map_take] at HLK
    have HQ1 := Lib.hid (rsame_any w4 HS14.out HLK.out (by omega))
    rcases hmin with ⟨hmn, hmk⟩ | ⟨hmn, hmk⟩
    · subst hmk
      have hmi : (kk : Int) ≤ (n : Int) := by omega
      have hmi2 : ¬ (n : Int) < (kk : Int) := by omega
      go_wp2_with fail
      refine HQ1.out.mono ?_
      rintro e w5 ⟨rfl, hb5⟩
      have HB5 := Lib.hid (HB4.out.trans (hb5.mono HB4.out.size))
      have HS25 := Lib.hid (HS2.out.below hb5)
      clear hb5
      go_wp2_with fail
      go_loopw [12] (fun iv wr => ∃ i : Nat, iv = .int .i64 i ∧ i ≤ kk ∧ Below w5.heap.size w5 wr) (fun iv _ => kk - (intOf iv).toNat)
      case atStart => exact ⟨0, rfl, Nat.zero_le _, Below.refl _ _⟩
      case round =>
        obtain ⟨i, rfl, hi, hb⟩ := hrel
        have HBL := Lib.hid hb
        clear hb
        by_cases hlt : i < kk
        · obtain ⟨b1, o1, u1, rfl, hl1, hu1, hc1⟩ := HS25.out.cell hlt
          obtain ⟨b2, o2, u2, rfl, hl2, hu2, hc2⟩ := (HL.out.below HB5.out).cell (j := n - 1 - i) (by omega)
          obtain ⟨s, hs⟩ : ∃ s, L[n - 1 - i]? = some s := ⟨_, List.getElem?_eq_getElem (by rw [HLN.out]; omega)⟩
          rw [List.getElem?_map, List.getElem?_take, if_pos hlt, List.getElem?_reverse (by rw [HLN.out]; omega), HLN.out, hs] at hu1
          rw [List.getElem?_map, hs] at hu2
          simp only [Option.map_some, Option.some.injEq] at hu1 hu2
          subst hu1
          subst hu2
          have e1 := (HBL.out.cell (p := ⟨b1, o1 + i, none⟩) hl1).trans hc1
          have e2 := (HBL.out.cell (p := ⟨b2, o2 + (n - 1 - i), none⟩) hl2).trans hc2
          have hw1 : IntKind.i64.wrap ((n : Int) - 1) = (n : Int) - 1 := IntWalk.i64_in _ (by omega)
          have hw2 : IntKind.i64.wrap ((n : Int) - 1 - (i : Int)) = ((n - 1 - i : Nat) : Int) := by rw [IntWalk.i64_in _ (by omega)]; omega
          obtain ⟨p, hp⟩ : ∃ p, n - 1 - i = p := ⟨_, rfl⟩
          rw [hp] at e2 hw2
          have hpn : (p : Int) < (n : Int) := by omega
          have hin : (i : Int) < (kk : Int) := by omega
          have hp0 : (0 : Int) ≤ (p : Int) := by omega
          have hi0 : (0 : Int) ≤ (i : Int) := by omega
          clear hs hc1 hc2 hp
          go_wp2_with fail
          go_quiet (fail)
          go_wp2
          go_roundw
          case rel => exact ⟨i + 1, by go_num, by omega, HBL.out.trans (below_drewN _ _ _)⟩
          case measure => simp only [intOf]; omega
        · obtain rfl : i = kk := by omega
          go_wp2
          go_ret
          exact ⟨rfl, HB5.out.trans (HBL.out.mono HB5.out.size)⟩
    · subst hmk
      have hmi : (kk : Int) < (m : Int) := by omega
      have hmi2 : ¬ (m : Int) ≤ (kk : Int) := by omega
      go_wp2_with fail
      refine HQ1.out.mono ?_
      rintro e w5 ⟨rfl, hb5⟩
      have HB5 := Lib.hid (HB4.out.trans (hb5.mono HB4.out.size))
      have HS25 := Lib.hid (HS2.out.below hb5)
      clear hb5
      go_wp2_with fail
      go_loopw [12] (fun iv wr => ∃ i : Nat, iv = .int .i64 i ∧ i ≤ kk ∧ Below w5.heap.size w5 wr) (fun iv _ => kk - (intOf iv).toNat)
      case atStart => exact ⟨0, rfl, Nat.zero_le _, Below.refl _ _⟩
      case round =>
        obtain ⟨i, rfl, hi, hb⟩ := hrel
        have HBL := Lib.hid hb
        clear hb
        by_cases hlt : i < kk
        · obtain ⟨b1, o1, u1, rfl, hl1, hu1, hc1⟩ := HS25.out.cell hlt
          obtain ⟨b2, o2, u2, rfl, hl2, hu2, hc2⟩ := (HL.out.below HB5.out).cell (j := kk - 1 - i) (by omega)
          obtain ⟨s, hs⟩ : ∃ s, L[kk - 1 - i]? = some s := ⟨_, List.getElem?_eq_getElem (by rw [HLN.out]; omega)⟩
          rw [List.getElem?_map, List.getElem?_take, if_pos hlt, List.getElem?_reverse (by rw [HLN.out]; omega), HLN.out, hs] at hu1
          rw [List.getElem?_map, hs] at hu2
          simp only [Option.map_some, Option.some.injEq] at hu1 hu2
          subst hu1
          subst hu2
          have e1 := (HBL.out.cell (p := ⟨b1, o1 + i, none⟩) hl1).trans hc1
          have e2 := (HBL.out.cell (p := ⟨b2, o2 + (kk - 1 - i), none⟩) hl2).trans hc2
          have hw1 : IntKind.i64.wrap ((kk : Int) - 1) = (kk : Int) - 1 := IntWalk.i64_in _ (by omega)
          have hw2 : IntKind.i64.wrap ((kk : Int) - 1 - (i : Int)) = ((kk - 1 - i : Nat) : Int) := by rw [IntWalk.i64_in _ (by omega)]; omega
          obtain ⟨p, hp⟩ : ∃ p, kk - 1 - i = p := ⟨_, rfl⟩
          rw [hp] at e2 hw2
          have hpn : (p : Int) < (kk : Int) := by omega
          have hin : (i : Int) < (kk : Int) := by omega
          have hp0 : (0 : Int) ≤ (p : Int) := by omega
          have hi0 : (0 : Int) ≤ (i : Int) := by omega
          clear hs hc1 hc2 hp
          go_wp2_with fail
          go_quiet (fail)
          go_wp2
          go_roundw
          case rel => exact ⟨i + 1, by go_num, by omega, HBL.out.trans (below_drewN _ _ _)⟩
          case measure => simp only [intOf]; omega
        · obtain rfl : i = kk := by omega
          go_wp2
          go_ret
          exact ⟨rfl, HB5.out.trans (HBL.out.mono HB5.out.size)⟩

end Go.Proofs.Ytkjcoengijedeab
