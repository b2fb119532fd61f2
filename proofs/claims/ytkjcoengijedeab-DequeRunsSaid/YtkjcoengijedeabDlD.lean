/-
  The document's Same and the statements' same, where they are true. Conditions: what is held against one another reads as typed.
-/
import Derived.Test.YtkjcoengijedeabDlX
namespace Go.Proofs.Ytkjcoengijedeab
open Go.RowKit

set_option maxRecDepth 100000 in
set_option maxHeartbeats 8000000 in
theorem rsame_any {A B : Option Addr} {n c c' : Nat} {L : List ByteArray} (w : World) (ha : SlAt w A n c (L.map Value.string)) (hb : SlAt w B n c' (L.map Value.string)) (hn : n ≤ 1000000) :
    Calls Try.prog 19 #[.slice A n c, .slice B n c'] w fun e w' => e = .returned (.bool true) ∧ Below w.heap.size w w' := by
  have HA := Lib.hid ha
  have HB := Lib.hid hb
  clear ha hb
  go_enter Try.func19, Try.ntmps19
  go_wp2_with fail
  go_loopw [5] (fun iv wr => ∃ i : Nat, iv = .int .i64 i ∧ i ≤ n ∧ Below w.heap.size w wr) (fun iv _ => n - (intOf iv).toNat)
  case atStart => exact ⟨0, rfl, Nat.zero_le _, Below.refl _ _⟩
  case round =>
    obtain ⟨i, rfl, hi, hb⟩ := hrel
    have HBL := Lib.hid hb
    clear hb
    by_cases hlt : i < n
    · obtain ⟨b1, o1, u1, rfl, hl1, hu1, hc1⟩ := HA.out.cell hlt
      obtain ⟨b2, o2, u2, rfl, hl2, hu2, hc2⟩ := HB.out.cell hlt
      rw [hu1] at hu2
      injection hu2 with hu2
      subst hu2
      rw [List.getElem?_map] at hu1
      obtain ⟨s, hs⟩ : ∃ s, L[i]? = some s := by
        cases hq : L[i]? with
        | none => rw [hq] at hu1; cases hu1
        | some s => exact ⟨s, rfl⟩
      rw [hs] at hu1
      simp only [Option.map_some, Option.some.injEq] at hu1
      subst hu1
      have e1 := (HBL.out.cell (p := ⟨b1, o1 + i, none⟩) hl1).trans hc1
      have e2 := (HBL.out.cell (p := ⟨b2, o2 + i, none⟩) hl2).trans hc2
      have hin : (i : Int) < (n : Int) := by omega
      have hin2 : (0 : Int) ≤ (i : Int) := by omega
      clear hs hc1 hc2
      go_wp2_with fail
      go_quiet (fail)
      go_wp2
      go_roundw
      case rel => exact ⟨i + 1, by go_num, by omega, HBL.out.trans (below_drewN _ _ _)⟩
      case measure => simp only [intOf]; omega
    · obtain rfl : i = n := by omega
      go_wp2
      go_ret
      exact ⟨rfl, HBL.out⟩

set_option maxRecDepth 100000 in
set_option maxHeartbeats 8000000 in
theorem lsame_any {base D M : Nat} {F : Nat → Prop} {A : Option Addr} {n c : Nat} {L : List ByteArray} (w : World) (hD : DqOn KDS w base F D M L) (hM : M ≤ 400000) (ha : SlAt w A n c (L.map Value.string)) (hn : n ≤ 600) :
    Calls Try.prog 12 #[.pointer (some ⟨D, 0, none⟩), .slice A n c] w fun e w' => e = .returned (.bool true) ∧ Below w.heap.size w w' := by
  have hLn : L.length = n := by have := ha.len; simpa using this
  have HLN := Lib.hid hLn
  have HD := Lib.hid hD
  have HA := Lib.hid ha
  have HW1 : Hid (Calls Try.prog 18 #[.pointer (some ⟨D, 0, none⟩), .bool false, .int .i64 600] w fun e w' => ∃ v, e = .returned (.tuple #[v, .bool true]) ∧ w'.ownsRow w.heap.size 9 1 v n (L.map Value.string) ∧ Below w.heap.size w w') := by
    have q := walked_any (m := 600) false w hD hM (by omega) (by omega)
    rw [if_neg (by decide), List.take_of_length_le (by omega), List.length_map, hLn] at q
    exact q
  have HW2 : Hid (∀ X, Below w.heap.size w X → Calls Try.prog 18 #[.pointer (some ⟨D, 0, none⟩), .bool true, .int .i64 600] X fun e w' => ∃ v, e = .returned (.tuple #[v, .bool true]) ∧ w'.ownsRow X.heap.size 9 1 v n (L.reverse.map Value.string) ∧ Below X.heap.size X w') := fun X hX => by
    have q := walked_any (m := 600) true X (hD.below hX) hM (by omega) (by omega)
    rw [if_pos rfl, List.take_of_length_le (by rw [List.length_reverse]; omega), List.length_map, List.length_reverse, hLn] at q
    exact q
  have HLI : Hid (∀ X, Below w.heap.size w X → Calls Try.prog 20 #[.pointer (some ⟨D, 0, none⟩)] X fun e w' => ∃ v, e = .returned v ∧ w'.ownsRow X.heap.size 9 1 v n (L.map Value.string) ∧ Below X.heap.size X w') := fun X hX => by
    have q := listS_any X (hD.below hX) hM (by omega)
    rw [hLn] at q
    exact q
  have HLE : Hid (∀ X, Below w.heap.size w X → Calls Try.prog 11 #[.pointer (some ⟨D, 0, none⟩)] X fun e w' => e = .returned (.int .i64 n) ∧ w' = X) := fun X hX => by
    have q := lenS_any X (hD.below hX)
    rw [hLn] at q
    exact q
  clear hD ha hLn
  go_enter Try.func12, Try.ntmps12
  go_wp2_with fail
  refine HW1.out.mono ?_
  rintro e w1 ⟨va, rfl, hra, hb1⟩
  obtain ⟨A1, c1, rfl⟩ := own_form1 hra
  have HS1 := Lib.hid (SlAt.own hra)
  have HB1 := Lib.hid hb1
  clear hra hb1
  go_wp2_with fail
  refine (HW2.out w1 HB1.out).mono ?_
  rintro e w2 ⟨vb, rfl, hrb, hb2⟩
  obtain ⟨A2, c2, rfl⟩ := own_form1 hrb
  have HS2 := Lib.hid (SlAt.own hrb)
  have HS12 := Lib.hid (HS1.out.below hb2)
  have HB2 := Lib.hid (HB1.out.trans (hb2.mono HB1.out.size))
  clear hrb hb2
  have HQ1 := Lib.hid (rsame_any w2 HS12.out (HA.out.below HB2.out) (by omega))
  go_wp2_with fail
  refine HQ1.out.mono ?_
  rintro e w3 ⟨rfl, hb3⟩
  have HB3 := Lib.hid (HB2.out.trans (hb3.mono HB2.out.size))
  have HS23 := Lib.hid (HS2.out.below hb3)
  clear hb3
  go_wp2_with fail
  refine (HLI.out w3 HB3.out).mono ?_
  rintro e w4 ⟨vc, rfl, hrc, hb4⟩
  obtain ⟨A3, c3, rfl⟩ := own_form1 hrc
  have HS3 := Lib.hid (SlAt.own hrc)
  have HB4 := Lib.hid (HB3.out.trans (hb4.mono HB3.out.size))
  have HS24 := Lib.hid (HS23.out.below hb4)
  clear hrc hb4
  have HQ2 := Lib.hid (rsame_any w4 HS3.out (HA.out.below HB4.out) (by omega))
  go_wp2_with fail
  refine HQ2.out.mono ?_
  rintro e w5 ⟨rfl, hb5⟩
  have HB5 := Lib.hid (HB4.out.trans (hb5.mono HB4.out.size))
  have HS25 := Lib.hid (HS24.out.below hb5)
  clear hb5
  go_wp2_with fail
  refine (HLE.out w5 HB5.out).mono ?_
  rintro e w6 ⟨rfl, rfl⟩
  go_wp2_with fail
  go_loopw [9] (fun iv wr => ∃ i : Nat, iv = .int .i64 i ∧ i ≤ n ∧ Below w6.heap.size w6 wr) (fun iv _ => n - (intOf iv).toNat)
  case atStart => exact ⟨0, rfl, Nat.zero_le _, Below.refl _ _⟩
  case round =>
    obtain ⟨i, rfl, hi, hb⟩ := hrel
    have HBL := Lib.hid hb
    clear hb
    by_cases hlt : i < n
    · obtain ⟨b1, o1, u1, rfl, hl1, hu1, hc1⟩ := HS25.out.cell hlt
      obtain ⟨b2, o2, u2, rfl, hl2, hu2, hc2⟩ := (HA.out.below HB5.out).cell (j := n - 1 - i) (by omega)
      obtain ⟨s, hs⟩ : ∃ s, L[n - 1 - i]? = some s := ⟨_, List.getElem?_eq_getElem (by rw [HLN.out]; omega)⟩
      rw [List.getElem?_map, List.getElem?_reverse (by rw [HLN.out]; exact hlt), HLN.out, hs] at hu1
      rw [List.getElem?_map, hs] at hu2
      simp only [Option.map_some, Option.some.injEq] at hu1 hu2
      subst hu1
      subst hu2
      have e1 := (HBL.out.cell (p := ⟨b1, o1 + i, none⟩) hl1).trans hc1
      have e2 := (HBL.out.cell (p := ⟨b2, o2 + (n - 1 - i), none⟩) hl2).trans hc2
      have hw1 : IntKind.i64.wrap ((n : Int) - 1) = (n : Int) - 1 := IntWalk.i64_in _ (by omega)
      have hw2 : IntKind.i64.wrap ((n : Int) - 1 - (i : Int)) = ((n - 1 - i : Nat) : Int) := by rw [IntWalk.i64_in _ (by omega)]; omega
      obtain ⟨p, hp⟩ : ∃ p, n - 1 - i = p := ⟨_, rfl⟩
      rw [hp] at e2 hw2
      have hpn : (p : Int) < (n : Int) := by omega
      have hin : (i : Int) < (n : Int) := by omega
      have hp0 : (0 : Int) ≤ (p : Int) := by omega
      have hi0 : (0 : Int) ≤ (i : Int) := by omega
      clear hs hc1 hc2 hp
      go_wp2_with fail
      go_quiet (fail)
      go_wp2
      go_roundw
      case rel => exact ⟨i + 1, by go_num, by omega, HBL.out.trans (below_drewN _ _ _)⟩
      case measure => simp only [intOf]; omega
    · obtain rfl : i = n := by omega
      go_wp2
      go_ret
      exact ⟨rfl, HB5.out.trans (HBL.out.mono HB5.out.size)⟩

end Go.Proofs.Ytkjcoengijedeab
