/-
  Package deque (values: string): the walks of Set and Trim. Conditions: the row lies in memory as it reads.
-/
import Derived.Test.YtkjcoengijedeabGQjS
namespace Go.Proofs.Ytkjcoengijedeab
open Go.RowKit

theorem setS_nil (i : Int) (v : ByteArray) (w : World) : Calls Try.prog 27 #[.pointer none, .int .i64 i, .string v] w fun e w' => e = .returned (.int .i64 4) ∧ w' = w := by
  go_enter Try.func27, Try.ntmps27
  go_wp2
  go_ret
  exact ⟨rfl, rfl⟩

theorem trimS_nil (i j : Int) (w : World) : Calls Try.prog 29 #[.pointer none, .int .i64 i, .int .i64 j] w fun e w' => e = .returned (.int .i64 4) ∧ w' = w := by
  go_enter Try.func29, Try.ntmps29
  go_wp2
  go_ret
  exact ⟨rfl, rfl⟩

section
variable {base D M : Nat} {F : Nat → Prop} {L : List ByteArray}

theorem setS_no (w : World) (h : DqOn KDS w base F D M L) (i : Int) (v : ByteArray) (hi : ¬ (0 ≤ i ∧ i < L.length)) :
    Calls Try.prog 27 #[.pointer (some ⟨D, 0, none⟩), .int .i64 i, .string v] w fun e w' => e = .returned (.int .i64 5) ∧ w' = w := by
  have HL := Lib.hid (hasS_no w h i hi)
  clear h hi
  go_enter Try.func27, Try.ntmps27
  go_wp2_with fail
  refine HL.out.mono ?_
  rintro e w2 ⟨rfl, rfl⟩
  go_wp2
  go_ret
  exact ⟨rfl, rfl⟩

set_option maxRecDepth 100000 in
set_option maxHeartbeats 8000000 in
theorem setS_yes {i : Nat} (w : World) (h : DqOn KDS w base F D M L) (hM : M ≤ 400000) (v : ByteArray) (hi : i < L.length) :
    Calls Try.prog 27 #[.pointer (some ⟨D, 0, none⟩), .int .i64 i, .string v] w fun e w' => e = .returned (.int .i64 0) ∧ DqOn KDS w' base F D M (L.set i v) ∧ Chg F F w w' := by
  have HL := Lib.hid (hasS_yes w h (i : Int) (by omega) (by omega))
  obtain ⟨hF, hFD, ⟨_, rfl⟩ | ⟨R, g, N, c, f, S, hd, hFR, hFg, hNM, hr⟩⟩ := h
  · simp at hi
  · have hl := hr.len
    have hN : 0 < N := by omega
    have hpl : rp f N i < c := Nat.lt_of_lt_of_le (rp_lt hN i) hr.le
    have hrow := hr.row hN
    have HSL := Lib.hid (slotS_any R g N c f i w (by rw [← slV_pos hN]; exact hr.hd.cell (i := 0) (by omega)) (hr.hd.cell (i := 1) (by omega)) hN (by omega) (by have := hr.fst; omega) (by omega))
    have c0 := hd.cell (i := 0) (by omega)
    have et := hrow.cell hpl
    have ef := hrow.frozen (rp f N i)
    have HFIN : Hid (∀ n, DqOn KDS ((w.drewN n).setCell ⟨g, rp f N i, none⟩ (.string v)) base F D M (L.set i v) ∧ Chg F F w ((w.drewN n).setCell ⟨g, rp f N i, none⟩ (.string v))) := fun n => by
      have hs : ((w.drewN n).setCell ⟨g, rp f N i, none⟩ (.string v)).heap.size = w.heap.size := by simp [World.setCell, World.drewN]
      refine ⟨⟨fun k hk => by rw [hs]; exact hF k hk, hFD, Or.inr ⟨R, g, N, c, f, upd S (rp f N i) (.string v), World.rowIs.setOther (w := w.drewN n) hd (rowIs_ne hd hrow (by decide)) _, hFR, hFg, hNM, ⟨?_, fun _ => World.rowIs.set (w := w.drewN n) hrow _ _, hr.le, hr.fst, by rw [List.length_set]; exact hl, fun j x hx => ?_⟩⟩⟩, (Only.drewN _ _ _).set (q := ⟨g, rp f N i, none⟩) (hFg hN) _, fun k hk => Or.inl hk⟩
      · rw [List.length_set]
        exact World.rowIs.setOther (w := w.drewN n) hr.hd (rowIs_ne hr.hd hrow (by decide)) _
      · rw [List.getElem?_set] at hx
        by_cases e : i = j
        · subst e
          rw [if_pos rfl, if_pos hi] at hx
          injection hx with hx
          rw [upd_same, hx]
        · rw [if_neg e] at hx
          have hj := lt_of_some hx
          rw [upd_other _ _ (fun q => e (rp_inj (by omega) (by omega) q.symm))]
          exact hr.vals j x hx
    obtain ⟨p, hp⟩ : ∃ p, rp f N i = p := ⟨_, rfl⟩
    obtain ⟨old, hold⟩ : ∃ u, S p = u := ⟨_, rfl⟩
    rw [hp] at HSL et ef HFIN
    rw [hold] at et
    clear hd hr hrow hp hold hF hpl
    go_enter Try.func27, Try.ntmps27
    go_wp2_with fail
    refine HL.out.mono ?_
    rintro e w2 ⟨rfl, rfl⟩
    go_wp2_with fail
    refine HSL.out.mono ?_
    rintro e w3 ⟨rfl, n, rfl⟩
    go_wp2
    go_ret
    exact ⟨rfl, HFIN.out n⟩

theorem trimS_no (w : World) (h : DqOn KDS w base F D M L) (i j : Int) (hi : i < 0 ∨ j < i ∨ L.length < j) :
    Calls Try.prog 29 #[.pointer (some ⟨D, 0, none⟩), .int .i64 i, .int .i64 j] w fun e w' => e = .returned (.int .i64 5) ∧ w' = w := by
  have HL := Lib.hid (lenS_any w h)
  obtain ⟨k, hk⟩ : ∃ k, L.length = k := ⟨_, rfl⟩
  rw [hk] at HL hi
  clear h hk
  by_cases h0 : i < 0
  · clear hi
    go_enter Try.func29, Try.ntmps29
    go_wp2
    go_ret
    exact ⟨rfl, rfl⟩
  · have h0b : decide (i < 0) = false := decide_eq_false h0
    by_cases h1 : j < i
    · clear hi h0
      go_enter Try.func29, Try.ntmps29
      go_wp2
      go_ret
      exact ⟨rfl, rfl⟩
    · have h1b : decide (j < i) = false := decide_eq_false h1
      have h2 : (k : Int) < j := by omega
      clear hi h0 h1
      go_enter Try.func29, Try.ntmps29
      go_wp2_with fail
      refine HL.out.mono ?_
      rintro e w2 ⟨rfl, rfl⟩
      go_wp2
      go_ret
      exact ⟨rfl, rfl⟩

set_option maxRecDepth 100000 in
set_option maxHeartbeats 8000000 in
theorem trimS_yes {i j : Nat} (w : World) (h : DqOn KDS w base F D M L) (hM : M ≤ 400000) (hL : L.length ≤ 400000) (hij : i ≤ j) (hj : j ≤ L.length) :
    Calls Try.prog 29 #[.pointer (some ⟨D, 0, none⟩), .int .i64 i, .int .i64 j] w fun e w' => e = .returned (.int .i64 0) ∧ ∃ F', DqOn KDS w' base F' D M ((L.take j).drop i) ∧ Chg F F' w w' := by
  have HL := Lib.hid (lenS_any w h)
  have H := Lib.hid h
  obtain ⟨k, hk⟩ : ∃ k, L.length = k := ⟨_, rfl⟩
  have HK := Lib.hid hk
  rw [hk] at HL hj hL
  have h1 : ¬ (j : Int) < (i : Int) := by omega
  have h2 : ¬ (k : Int) < (j : Int) := by omega
  have hw : IntKind.i64.wrap ((k : Int) - (j : Int)) = ((k - j : Nat) : Int) := by rw [IntWalk.i64_in _ (by omega)]; omega
  have hwn : (k : Int) - (j : Int) = ((k - j : Nat) : Int) := by omega
  obtain ⟨d, hd⟩ : ∃ d, k - j = d := ⟨_, rfl⟩
  have HDD := Lib.hid hd
  rw [hd] at hw hwn
  have hdk : d ≤ k := by omega
  clear h hk hd
  go_enter Try.func29, Try.ntmps29
  go_wp2_with fail
  refine HL.out.mono ?_
  rintro e w2 ⟨rfl, rfl⟩
  go_wp2_with fail
  refine HL.out.mono ?_
  rintro e w2 ⟨rfl, rfl⟩
  go_wp2_with fail
  clear hwn hw
  go_loopw [26] (fun iv wr => ∃ (n : Nat) (F' : Nat → Prop), iv = .int .i64 n ∧ n ≤ d ∧ DqOn KDS wr base F' D M (L.take (k - n)) ∧ Chg F F' w2 wr) (fun iv _ => d - (intOf iv).toNat)
  case atStart => exact ⟨0, F, rfl, Nat.zero_le _, by rw [Nat.sub_zero, List.take_of_length_le (by rw [HK.out]; exact Nat.le_refl _)]; exact H.out, Chg.refl _ _⟩
  case round =>
    obtain ⟨n, F1, rfl, hn, hd1, hc1⟩ := hrel
    have HD1 := Lib.hid hd1
    have HC1 := Lib.hid hc1
    clear hd1 hc1
    by_cases hlt : n < d
    · have hkk := HDD.out
      obtain ⟨y, hy⟩ : ∃ y, L[k - (n + 1)]? = some y := ⟨_, List.getElem?_eq_getElem (by rw [HK.out]; omega)⟩
      have htk : L.take (k - n) = L.take (k - (n + 1)) ++ [y] := by
        rw [show k - n = k - (n + 1) + 1 by omega, List.take_add_one, hy]
        rfl
      have HPO := HD1.out
      rw [htk] at HPO
      have HP := Lib.hid (popS_any wr HPO hM (by rw [List.length_take, HK.out]; omega))
      have hni : (n : Int) < (d : Int) := by omega
      clear hy htk HPO hkk
      go_wp2_with fail
      refine HP.out.mono ?_
      rintro e w3 ⟨rfl, F3, hd3, hc3⟩
      have HD3 := Lib.hid hd3
      have HC3 := Lib.hid (HC1.out.trans hc3)
      clear hd3 hc3
      go_wp2
      go_roundw
      case rel => exact ⟨n + 1, F3, by go_num, by omega, HD3.out, HC3.out⟩
      case measure => simp only [intOf]; omega
    · obtain rfl : n = d := by omega
      have hkj : k - n = j := by have := HDD.out; omega
      have HD2 : Hid (DqOn KDS wr base F1 D M ((L.take j).drop 0)) := by have q := HD1.out; rw [hkj] at q; exact q
      have HLJ : Hid ((L.take j).length = j) := by unfold Hid; rw [List.length_take, HK.out]; omega
      clear hkj
      obtain ⟨L', hL'⟩ : ∃ L', L.take j = L' := ⟨_, rfl⟩
      rw [hL'] at HD2 HLJ
      have HLE := Lib.hid hL'
      clear hL' HD1
      obtain ⟨wo, rfl⟩ : ∃ wo : World, wo = wr := ⟨_, rfl⟩
      go_wp2_with fail
      go_loopw [32] (fun iv wr => ∃ (n : Nat) (F' : Nat → Prop), iv = .int .i64 n ∧ n ≤ i ∧ DqOn KDS wr base F' D M (L'.drop n) ∧ Chg F F' w2 wr) (fun iv _ => i - (intOf iv).toNat)
      case atStart => exact ⟨0, F1, rfl, Nat.zero_le _, HD2.out, HC1.out⟩
      case round =>
        obtain ⟨n, F4, rfl, hn, hd1, hc1⟩ := hrel
        have HD4 := Lib.hid hd1
        have HC4 := Lib.hid hc1
        clear hd1 hc1
        by_cases hlt : n < i
        · obtain ⟨y, hy⟩ : ∃ y, L'[n]? = some y := ⟨_, List.getElem?_eq_getElem (by rw [HLJ.out]; omega)⟩
          have htk : L'.drop n = y :: L'.drop (n + 1) := by
            obtain ⟨q1, q2⟩ := List.getElem?_eq_some_iff.1 hy
            rw [List.drop_eq_getElem_cons q1, q2]
          have HPO := HD4.out
          rw [htk] at HPO
          have HP := Lib.hid (shiftS_any wr HPO hM)
          have hni : (n : Int) < (i : Int) := by omega
          clear hy htk HPO
          go_wp2_with fail
          refine HP.out.mono ?_
          rintro e w3 ⟨rfl, F3, hd3, hc3⟩
          have HD3 := Lib.hid hd3
          have HC3 := Lib.hid (HC4.out.trans hc3)
          clear hd3 hc3
          go_wp2
          go_roundw
          case rel => exact ⟨n + 1, F3, by go_num, by omega, HD3.out, HC3.out⟩
          case measure => simp only [intOf]; omega
        · obtain rfl : n = i := by omega
          go_wp2
          go_ret
          rw [HLE.out]
          exact ⟨rfl, F4, HD4.out, HC4.out⟩

end

end Go.Proofs.Ytkjcoengijedeab
