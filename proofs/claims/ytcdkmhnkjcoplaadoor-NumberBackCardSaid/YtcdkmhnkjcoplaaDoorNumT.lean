/-
  The walks of Times, of size, and of the document's own Times. Conditions: the arguments are numbers of their kinds.
-/
import Derived.Test.YtcdkmhnkjcoplaaDoorNumA
import Derived.Test.YtcdkmhnkjcoplaaDoorNumM
import Derived.Test.YtcdkmhnkjcoplaaDoorShelf
import Derived.Lib.Hide
namespace Go.Proofs.YtcdkmhnkjcoplaaDoor
open Go.RowKit

/-- What a product answers. -/
def timesI (a b : Int) : Int × Int := if a * b < -9223372036854775808 ∨ 9223372036854775807 < a * b then (0, 11) else (a * b, 0)

set_option maxHeartbeats 400000 in
theorem size_any (n : Int) (w : World) (h0 : -9223372036854775808 ≤ n) (h1 : n ≤ 9223372036854775807) :
    Calls Tryd.prog 30 #[.int .i64 n] w fun e w' => e = .returned (.int .u64 (n.natAbs : Int)) ∧ w = w' := by
  by_cases h : n < 0
  · go_enter Tryd.func30, Tryd.ntmps30
    go_wp2
    go_ret
    exact ⟨ret_one (by first | omega | (simp only [IntKind.wrap_u64]; omega)), rfl⟩
  · go_enter Tryd.func30, Tryd.ntmps30
    go_wp2
    go_ret
    exact ⟨ret_one (by first | omega | (simp only [IntKind.wrap_u64]; omega)), rfl⟩

set_option maxHeartbeats 1000000 in
theorem refTimes_any (a b : Int) (w : World) (ha0 : -9223372036854775808 ≤ a) (ha1 : a ≤ 9223372036854775807) (hb0 : -9223372036854775808 ≤ b) (hb1 : b ≤ 9223372036854775807) :
    Calls Tryd.prog 18 #[.int .i64 a, .int .i64 b] w fun e w' => e = .returned (.tuple #[.int .i64 (timesI a b).1, .int .i64 (timesI a b).2]) ∧ w = w' := by
  by_cases a0 : a = 0
  · subst a0
    go_enter Tryd.func18, Tryd.ntmps18
    go_wp2
    go_ret2
    exact ⟨ret_two (by simp [timesI]) (by simp [timesI]), rfl⟩
  by_cases b0 : b = 0
  · subst b0
    go_enter Tryd.func18, Tryd.ntmps18
    go_wp2
    go_ret2
    exact ⟨ret_two (by simp [timesI]) (by simp [timesI]), rfl⟩
  have hA0 : (a == 0) = false := by simpa using a0
  have hB0 : (b == 0) = false := by simpa using b0
  by_cases b1 : b = -1
  · subst b1
    by_cases aL : a = -9223372036854775808
    · subst aL
      go_enter Tryd.func18, Tryd.ntmps18
      go_wp2
      go_ret2
      exact ⟨ret_two (by simp [timesI]) (by simp [timesI]), rfl⟩
    · have hA : (a == -9223372036854775808) = false := by simpa using aL
      have hA1 : ¬ a = 0 := a0
      have hT : (wrap64 (-wrap64 (-a)) != a) = false := by
        rw [IntWalk.wrap64_in (-a) (by omega), Int.neg_neg, IntWalk.wrap64_in a (by omega)]; simp
      have hR : timesI a (-1) = (-a, 0) := by unfold timesI; rw [if_neg (by omega)]; congr 1; omega
      have HR := Lib.hid hR
      clear hR
      go_enter Tryd.func18, Tryd.ntmps18
      go_wp2
      all_goals go_ret2
      all_goals exact ⟨ret_two (by rw [HR.out] <;> (dsimp only; omega)) (by rw [HR.out]), rfl⟩
  by_cases a1 : a = -1
  · subst a1
    by_cases bL : b = -9223372036854775808
    · subst bL
      go_enter Tryd.func18, Tryd.ntmps18
      go_wp2
      go_ret2
      exact ⟨ret_two (by simp [timesI]) (by simp [timesI]), rfl⟩
    · have hT : (wrap64 ((wrap64 (-1 * b)).tdiv b) != -1) = false := by rw [times_fit (-1) b b0 (by omega) (by omega)]; simp
      have hT2 : (wrap64 ((wrap64 (-b)).tdiv b) != -1) = false := by rw [← hT]; congr 4; omega
      have hR : timesI (-1) b = (-b, 0) := by unfold timesI; rw [if_neg (by omega)]; congr 1; omega
      have HR := Lib.hid hR
      clear hR
      go_enter Tryd.func18, Tryd.ntmps18
      go_wp2
      all_goals go_ret2
      all_goals exact ⟨ret_two (by rw [HR.out] <;> (dsimp only; omega)) (by rw [HR.out]), rfl⟩
  have hA1 : (a == -1) = false := by simpa using a1
  have hB1 : (b == -1) = false := by simpa using b1
  by_cases hf : -9223372036854775808 ≤ a * b ∧ a * b ≤ 9223372036854775807
  · have hT : (wrap64 ((wrap64 (a * b)).tdiv b) != a) = false := by rw [times_fit a b b0 hf ⟨ha0, ha1⟩]; simp
    have hR : timesI a b = (a * b, 0) := by unfold timesI; rw [if_neg (by omega)]
    have HR := Lib.hid hR
    have HF := Lib.hid hf
    clear hR hf
    go_enter Tryd.func18, Tryd.ntmps18
    go_wp2
    go_ret2
    exact ⟨ret_two (by rw [HR.out, IntWalk.wrap64_in _ HF.out]) (by rw [HR.out]), rfl⟩
  · have hT : (wrap64 ((wrap64 (a * b)).tdiv b) != a) = true := by
      rw [bne_iff_ne]
      exact times_over a b b0 b1 (by omega) ⟨hb0, hb1⟩ ⟨ha0, ha1⟩
    have hR : timesI a b = (0, 11) := by unfold timesI; rw [if_pos (by omega)]
    have HR := Lib.hid hR
    clear hR hf
    go_enter Tryd.func18, Tryd.ntmps18
    go_wp2
    go_ret2
    exact ⟨ret_two (by rw [HR.out] <;> (dsimp only; omega)) (by rw [HR.out]), rfl⟩

/-- Mul64, where nothing goes beyond. -/
theorem mul_small (x y p : Nat) (hx : x < 18446744073709551616) (hy : y < 18446744073709551616) (hp : x * y = p) (h : p < 18446744073709551616) (w : World) :
    Calls Tryd.prog 29 #[.int .u64 x, .int .u64 y] w fun e w' => e = .returned (.tuple #[.int .u64 0, .int .u64 (p : Int)]) ∧ w = w' :=
  (Tryd.bits_Mul64 x y hx hy w).mono fun e w' ⟨he, hw⟩ => ⟨by rw [he, hp, Nat.div_eq_of_lt h, Nat.mod_eq_of_lt h]; rfl, hw.symm⟩
theorem mul_big (x y q l : Nat) (hx : x < 18446744073709551616) (hy : y < 18446744073709551616) (hq : x * y / 18446744073709551616 = q) (hl : x * y % 18446744073709551616 = l) (w : World) :
    Calls Tryd.prog 29 #[.int .u64 x, .int .u64 y] w fun e w' => e = .returned (.tuple #[.int .u64 (q : Int), .int .u64 (l : Int)]) ∧ w = w' :=
  (Tryd.bits_Mul64 x y hx hy w).mono fun e w' ⟨he, hw⟩ => ⟨by rw [he, hq, hl], hw.symm⟩

theorem abs_mul (a b : Int) : (a * b < 0 ∨ 0 ≤ a * b) ∧ (a * b).natAbs = a.natAbs * b.natAbs ∧ (a < 0 → 0 ≤ b → a * b ≤ 0) ∧ (0 ≤ a → b < 0 → a * b ≤ 0) ∧ (a < 0 → b < 0 → 0 ≤ a * b) ∧ (0 ≤ a → 0 ≤ b → 0 ≤ a * b) :=
  ⟨by omega, Int.natAbs_mul a b, fun h1 h2 => Int.mul_nonpos_of_nonpos_of_nonneg (by omega) h2, fun h1 h2 => Int.mul_nonpos_of_nonneg_of_nonpos h1 (by omega), fun h1 h2 => Int.mul_nonneg_of_nonpos_of_nonpos (by omega) (by omega), Int.mul_nonneg⟩

set_option maxHeartbeats 1000000 in
theorem times_any (a b : Int) (w : World) (ha0 : -9223372036854775808 ≤ a) (ha1 : a ≤ 9223372036854775807) (hb0 : -9223372036854775808 ≤ b) (hb1 : b ≤ 9223372036854775807) :
    Calls Tryd.prog 17 #[.int .i64 a, .int .i64 b] w fun e w' => e = .returned (.tuple #[.int .i64 (timesI a b).1, .int .i64 (timesI a b).2]) ∧ w = w' := by
  obtain ⟨-, hm, m1, m2, m3, m4⟩ := abs_mul a b
  have hx : a.natAbs < 18446744073709551616 := by omega
  have hy : b.natAbs < 18446744073709551616 := by omega
  obtain ⟨p, hp⟩ : ∃ p, a.natAbs * b.natAbs = p := ⟨_, rfl⟩
  rw [hp] at hm
  by_cases h : p < 18446744073709551616
  · have HP := Lib.hid hp
    have HH := Lib.hid h
    obtain ⟨r, hr⟩ : ∃ r, timesI a b = r := ⟨_, rfl⟩
    have HR := Lib.hid hr
    have hr' : r = if a * b < -9223372036854775808 ∨ 9223372036854775807 < a * b then (0, 11) else (a * b, 0) := hr.symm
    generalize a * b = ab at hm m1 m2 m3 m4 hr'
    have HM := Lib.hid hm
    have H1 := Lib.hid m1
    have H2 := Lib.hid m2
    have H3 := Lib.hid m3
    have H4 := Lib.hid m4
    have HR' := Lib.hid hr'
    clear hp hr hr' hm m1 m2 m3 m4
    by_cases a0 : a < 0 <;> by_cases b0 : b < 0 <;> by_cases hs : p ≤ 9223372036854775807 <;> by_cases ht : p ≤ 9223372036854775808
    all_goals
      first | (have hna : (!decide (a < 0)) = false := by simpa using a0) | (have hna : (!decide (a < 0)) = true := by simpa using a0)
      first | (have hnb : (!decide (b < 0)) = false := by simpa using b0) | (have hnb : (!decide (b < 0)) = true := by simpa using b0)
      first | (have hnn : (!(decide (a < 0) == decide (b < 0))) = false := by simp [a0, b0]; done) | (have hnn : (!(decide (a < 0) == decide (b < 0))) = true := by simp [a0, b0]; done)
      try (exfalso; omega)
    all_goals
      go_enter Tryd.func17, Tryd.ntmps17
      go_wp2_with (first | (go_at_call 30; refine (size_any _ _ (by omega) (by omega)).mono ?_; rintro e w' ⟨rfl, rfl⟩) | (go_at_call 29; refine (mul_small _ _ p hx hy HP.out HH.out _).mono ?_; rintro e w' ⟨rfl, rfl⟩))
    all_goals go_ret2
    all_goals
      have hm := HM.out
      have h1 := H1.out
      have h2 := H2.out
      have h3 := H3.out
      have h4 := H4.out
      exact ⟨ret_two (by rw [HR.out, HR'.out]; (try unfold wrap64); split <;> first | omega | (dsimp only; omega)) (by rw [HR.out, HR'.out]; split <;> first | rfl | (exfalso; omega)), rfl⟩
  · have hR : timesI a b = (0, 11) := by
      unfold timesI
      rw [if_pos (by omega)]
    have HR := Lib.hid hR
    obtain ⟨q, hq⟩ : ∃ q, a.natAbs * b.natAbs / 18446744073709551616 = q := ⟨_, rfl⟩
    obtain ⟨l, hl⟩ : ∃ l, a.natAbs * b.natAbs % 18446744073709551616 = l := ⟨_, rfl⟩
    have hq1 : 1 ≤ q := by rw [hp] at hq; omega
    have hqm : q ≤ 18446744073709551615 := by
      have : a.natAbs * b.natAbs ≤ 9223372036854775808 * 9223372036854775808 := Nat.mul_le_mul (by omega) (by omega)
      omega
    have hlm : l ≤ 18446744073709551615 := by omega
    have HQ := Lib.hid hq
    have HL := Lib.hid hl
    clear hR hm m1 m2 m3 m4 hp h hq hl
    by_cases a0 : a < 0 <;> by_cases b0 : b < 0
    all_goals
      first | (have hna : (!decide (a < 0)) = false := by simpa using a0) | (have hna : (!decide (a < 0)) = true := by simpa using a0)
      first | (have hnb : (!decide (b < 0)) = false := by simpa using b0) | (have hnb : (!decide (b < 0)) = true := by simpa using b0)
      first | (have hnn : (!(decide (a < 0) == decide (b < 0))) = false := by simp [a0, b0]; done) | (have hnn : (!(decide (a < 0) == decide (b < 0))) = true := by simp [a0, b0]; done)
    all_goals
      go_enter Tryd.func17, Tryd.ntmps17
      go_wp2_with (first | (go_at_call 30; refine (size_any _ _ (by omega) (by omega)).mono ?_; rintro e w' ⟨rfl, rfl⟩) | (go_at_call 29; refine (mul_big _ _ q l hx hy HQ.out HL.out _).mono ?_; rintro e w' ⟨rfl, rfl⟩))
    all_goals go_ret2
    all_goals exact ⟨ret_two (by rw [HR.out]) (by rw [HR.out]), rfl⟩

end Go.Proofs.YtcdkmhnkjcoplaaDoor
