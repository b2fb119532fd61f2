/-
  Plain facts about numbers and their texts: what Parse answers (parseV), that a number's text is parsed as it and that whatever is parsed is its number's text. No program; no conditions but those typed.
-/
import Derived.Lib.ItoaNum
import Derived.IntWalk
namespace Go.Proofs.YtcbiiioglklpoaaDoor
open Go.RowKit

/-! ### Products -/

theorem times_fit (a b : Int) (hb : b ≠ 0) (h : -9223372036854775808 ≤ a * b ∧ a * b ≤ 9223372036854775807) (ha : -9223372036854775808 ≤ a ∧ a ≤ 9223372036854775807) :
    wrap64 ((wrap64 (a * b)).tdiv b) = a := by
  rw [IntWalk.wrap64_in _ h, Int.mul_tdiv_cancel _ hb, IntWalk.wrap64_in _ ha]

theorem times_over (a b : Int) (hb : b ≠ 0) (hb1 : b ≠ -1) (h : a * b < -9223372036854775808 ∨ 9223372036854775807 < a * b) (hb2 : -9223372036854775808 ≤ b ∧ b ≤ 9223372036854775807) (ha : -9223372036854775808 ≤ a ∧ a ≤ 9223372036854775807) :
    wrap64 ((wrap64 (a * b)).tdiv b) ≠ a := by
  intro e
  have hone : b ≠ 1 := by rintro rfl; omega
  have hq : -9223372036854775808 ≤ wrap64 (a * b) ∧ wrap64 (a * b) ≤ 9223372036854775807 := by unfold wrap64; omega
  have hw : ∃ k : Int, wrap64 (a * b) = a * b - k * 18446744073709551616 := by
    refine ⟨(a * b + 9223372036854775808) / 18446744073709551616, ?_⟩
    unfold wrap64
    omega
  obtain ⟨k, hk⟩ := hw
  generalize wrap64 (a * b) = q at *
  have h1 : b * q.tdiv b + q.tmod b = q := Int.mul_tdiv_add_tmod q b
  have h2 : (q.tmod b).natAbs < b.natAbs := by
    rw [Int.natAbs_tmod]
    exact Nat.mod_lt _ (by omega)
  have h3 : (q.tdiv b).natAbs ≤ q.natAbs := by
    rw [Int.natAbs_tdiv]
    exact Nat.div_le_self _ _
  have h4 : wrap64 (q.tdiv b) = q.tdiv b := by
    apply IntWalk.wrap64_in
    refine ⟨by omega, ?_⟩
    by_cases ht : q.tdiv b = 9223372036854775808
    · rw [ht] at h1
      omega
    · omega
  rw [h4] at e
  rw [e, Int.mul_comm] at h1
  generalize a * b = p at *
  omega

/-! ### Texts -/

/-- The digits behind n, taken away one by one. -/
def digs : List UInt8 → Int → Option Int
  | [], n => some n
  | c :: l, n => if 48 ≤ c.toNat ∧ c.toNat ≤ 57 ∧ -9223372036854775808 ≤ n * 10 - ((c.toNat : Int) - 48) then digs l (n * 10 - ((c.toNat : Int) - 48)) else none

/-- What becomes of the digits' number. -/
def endV (below : Bool) : Option Int → Option Int
  | none => none
  | some n => if below then some n else if n = -9223372036854775808 then none else some (-n)

/-- What Parse answers: the number, or none. -/
def parseV (l : List UInt8) : Option Int :=
  if l.head? = some 45 then (if l.tail = [] ∨ l.tail.head? = some 48 then none else endV true (digs l.tail 0))
  else (if l = [] ∨ (l.head? = some 48 ∧ 1 < l.length) then none else endV false (digs l 0))

def valV (o : Option Int) : Int := o.getD 0
def errV (o : Option Int) : Int := if o.isSome then 0 else 10

theorem digs_append : ∀ (l m : List UInt8) (n : Int), digs (l ++ m) n = (digs l n).bind (digs m)
  | [], _, _ => rfl
  | c :: l, m, n => by
    simp only [List.cons_append, digs]
    split
    · exact digs_append l m _
    · rfl

theorem digs_neg : ∀ (l : List UInt8) (n m : Int), n ≤ 0 → digs l n = some m → m ≤ n * 10 ^ l.length
  | [], n, m, _, h => by simp [digs] at h; subst h; simp
  | c :: l, n, m, hn, h => by
    simp only [digs] at h
    split at h
    · rename_i hc
      have := digs_neg l _ m (by omega) h
      refine Int.le_trans this ?_
      rw [List.length_cons, Int.pow_succ, Int.mul_comm (10 ^ l.length) 10, ← Int.mul_assoc]
      refine Int.mul_le_mul_of_nonneg_right (by omega) (Int.pow_nonneg (by decide))
    · cases h

theorem digs_dec (u : Nat) : digs (Lib.decDigits u) 0 = if u ≤ 9223372036854775808 then some (-(u : Int)) else none := by
  induction u using Nat.strongRecOn with
  | ind u ih =>
    rw [Lib.decDigits]
    split
    · rename_i h
      have e : (UInt8.ofNat (48 + u)).toNat = 48 + u := by rw [UInt8.toNat_ofNat']; omega
      simp only [digs, e]
      rw [if_pos ⟨by omega, by omega, by omega⟩, if_pos (by omega)]
      congr 1; omega
    · rename_i h
      have e : (UInt8.ofNat (48 + u % 10)).toNat = 48 + u % 10 := by rw [UInt8.toNat_ofNat']; omega
      rw [digs_append, ih (u / 10) (by omega)]
      by_cases h1 : u / 10 ≤ 9223372036854775808
      · rw [if_pos h1]
        simp only [Option.bind_some, digs, e]
        by_cases h2 : u ≤ 9223372036854775808
        · rw [if_pos ⟨by omega, by omega, by omega⟩, if_pos h2]
          congr 1; omega
        · rw [if_neg (by omega), if_neg h2]
      · rw [if_neg h1, if_neg (by omega)]
        rfl

theorem decDigits_head (u : Nat) : ∃ c l, Lib.decDigits u = c :: l ∧ 48 ≤ c.toNat ∧ c.toNat ≤ 57 ∧ (c = 48 → u = 0) := by
  induction u using Nat.strongRecOn with
  | ind u ih =>
    rw [Lib.decDigits]
    split
    · rename_i h
      have e : (UInt8.ofNat (48 + u)).toNat = 48 + u := by rw [UInt8.toNat_ofNat']; omega
      refine ⟨_, [], rfl, by omega, by omega, fun hc => ?_⟩
      rw [hc] at e
      have : (48 : UInt8).toNat = 48 := rfl
      omega
    · obtain ⟨c, l, h1, h2, h3, h4⟩ := ih (u / 10) (by omega)
      refine ⟨c, l ++ [UInt8.ofNat (48 + u % 10)], by rw [h1]; rfl, h2, h3, fun hc => ?_⟩
      have := h4 hc
      omega

theorem decDigits_zero : Lib.decDigits 0 = [48] := by rw [Lib.decDigits]; rfl

/-- A number's text is parsed as it. -/
theorem parse_itoa (n : Int) (h0 : -9223372036854775808 ≤ n) (h1 : n ≤ 9223372036854775807) : parseV (Lib.itoa n) = some n := by
  unfold Lib.itoa
  split
  · rename_i h
    obtain ⟨c, l, e, hc0, hc1, hz⟩ := decDigits_head n.natAbs
    unfold parseV
    rw [List.head?_cons, if_pos rfl, List.tail_cons, if_neg (by
      rw [e]
      rintro (h | h)
      · cases h
      · simp only [List.head?_cons, Option.some.injEq] at h
        have := hz h
        omega), digs_dec, if_pos (by omega)]
    simp only [endV, if_true]
    congr 1; omega
  · rename_i h
    obtain ⟨c, l, e, hc0, hc1, hz⟩ := decDigits_head n.toNat
    unfold parseV
    rw [if_neg (by
      rw [e]
      intro h
      simp only [List.head?_cons, Option.some.injEq] at h
      subst h
      exact absurd hc0 (by decide)), if_neg (by
      rintro (h | ⟨h, h'⟩)
      · rw [e] at h; cases h
      · rw [e] at h
        simp only [List.head?_cons, Option.some.injEq] at h
        have := hz h
        rw [this, decDigits_zero] at h'
        exact absurd h' (by decide)), digs_dec, if_pos (by omega)]
    simp only [endV]
    rw [if_neg (by decide), if_neg (by omega)]
    congr 1; omega

theorem digs_is : ∀ (l : List UInt8) (m : Int), l ≠ [] → l.head? ≠ some 48 → digs l 0 = some m → m < 0 ∧ -9223372036854775808 ≤ m ∧ l = Lib.decDigits m.natAbs := by
  intro l
  induction hl : l.length generalizing l with
  | zero => intro m h; exact absurd (List.length_eq_zero_iff.1 hl) h
  | succ k ih =>
    intro m hne hh h
    obtain ⟨l', c, rfl⟩ : ∃ l' c, l = l' ++ [c] := ⟨l.dropLast, l.getLast hne, (List.dropLast_concat_getLast hne).symm⟩
    rw [digs_append] at h
    by_cases hl' : l' = []
    · subst hl'
      simp only [digs, Option.bind_some] at h
      split at h
      · rename_i hc
        simp only [Option.some.injEq] at h
        have hc48 : c.toNat ≠ 48 := by
          intro e
          apply hh
          simp only [List.nil_append, List.head?_cons, Option.some.injEq]
          exact UInt8.toNat_inj.1 (by rw [e]; rfl)
        refine ⟨by omega, by omega, ?_⟩
        have : m.natAbs = c.toNat - 48 := by omega
        rw [this, Lib.decDigits_one (by omega)]
        simp only [List.nil_append, List.cons.injEq, and_true]
        apply UInt8.toNat_inj.1
        rw [UInt8.toNat_ofNat']
        omega
      · cases h
    · obtain ⟨m', h1, h2⟩ := Option.bind_eq_some_iff.1 h
      have hh' : l'.head? ≠ some 48 := by
        intro e
        apply hh
        rw [List.head?_append, e]; rfl
      obtain ⟨g1, g2, g3⟩ := ih l' (by simp at hl; omega) m' hl' hh' h1
      simp only [digs] at h2
      split at h2
      · rename_i hc
        simp only [Option.some.injEq] at h2
        refine ⟨by omega, by omega, ?_⟩
        rw [Lib.decDigits, dif_neg (by omega), show m.natAbs / 10 = m'.natAbs from by omega, ← g3]
        congr 2
        apply UInt8.toNat_inj.1
        rw [UInt8.toNat_ofNat']
        omega
      · cases h2

/-- Whatever is parsed is its number's text. -/
theorem itoa_parse (l : List UInt8) (n : Int) (h : parseV l = some n) : Lib.itoa n = l ∧ -9223372036854775808 ≤ n ∧ n ≤ 9223372036854775807 := by
  unfold parseV at h
  split at h
  · rename_i hb
    split at h
    · cases h
    · rename_i hd
      obtain ⟨r, rfl⟩ : ∃ r, l = 45 :: r := by
        cases l with
        | nil => cases hb
        | cons c r => simp at hb; exact ⟨r, by rw [hb]⟩
      simp only [List.tail_cons, not_or] at h hd
      cases hm : digs r 0 with
      | none => rw [hm] at h; cases h
      | some m =>
        rw [hm] at h
        simp only [endV, if_true, Option.some.injEq] at h
        subst h
        obtain ⟨g1, g2, g3⟩ := digs_is r m hd.1 hd.2 hm
        exact ⟨by unfold Lib.itoa; rw [if_pos g1, ← g3], g2, by omega⟩
  · rename_i hb
    split at h
    · cases h
    · rename_i hd
      simp only [not_or, not_and] at hd
      cases hm : digs l 0 with
      | none => rw [hm] at h; cases h
      | some m =>
        rw [hm] at h
        simp only [endV] at h
        rw [if_neg (by decide)] at h
        split at h
        · cases h
        · rename_i hL
          simp only [Option.some.injEq] at h
          subst h
          by_cases h48 : l.head? = some 48
          · have := hd.2 h48
            obtain ⟨r, rfl⟩ : ∃ r, l = 48 :: r := by
              cases l with
              | nil => cases h48
              | cons c r => simp at h48; exact ⟨r, by rw [h48]⟩
            obtain rfl : r = [] := by cases r with | nil => rfl | cons _ _ => simp at this
            simp [digs] at hm
            subst hm
            exact ⟨by unfold Lib.itoa; rw [if_neg (by decide)]; exact decDigits_zero, by decide, by decide⟩
          · obtain ⟨g1, g2, g3⟩ := digs_is l m hd.1 h48 hm
            exact ⟨by unfold Lib.itoa; rw [if_neg (by omega), show (-m).toNat = m.natAbs from by omega, ← g3], by omega, by omega⟩

/-! ### Package number's own way to the same -/

/-- The digits, none a 0 ahead. -/
def digsZ : List UInt8 → Int → Option Int
  | [], n => some n
  | c :: l, n => if 48 ≤ c.toNat ∧ c.toNat ≤ 57 ∧ ¬ (n = 0 ∧ c.toNat = 48) ∧ -9223372036854775808 ≤ n * 10 - ((c.toNat : Int) - 48) then digsZ l (n * 10 - ((c.toNat : Int) - 48)) else none
def endZ (below : Bool) : Option Int → Option Int
  | none => none
  | some n => if n = 0 then none else if below then some n else if n = -9223372036854775808 then none else some (-n)

theorem digsZ_neg : ∀ (l : List UInt8) (n : Int), n < 0 → digsZ l n = digs l n
  | [], _, _ => rfl
  | c :: l, n, h => by
    simp only [digsZ, digs]
    by_cases hc : 48 ≤ c.toNat ∧ c.toNat ≤ 57 ∧ -9223372036854775808 ≤ n * 10 - ((c.toNat : Int) - 48)
    · rw [if_pos hc, if_pos ⟨hc.1, hc.2.1, by omega, hc.2.2⟩]
      exact digsZ_neg l _ (by omega)
    · rw [if_neg hc, if_neg (by omega)]

theorem endZ_neg (b : Bool) (l : List UInt8) (n : Int) (h : n < 0) : endZ b (digsZ l n) = endV b (digs l n) := by
  rw [digsZ_neg l n h]
  cases hm : digs l n with
  | none => rfl
  | some m =>
    have := digs_neg l n m (by omega) hm
    have h2 : n * 10 ^ l.length ≤ n * 1 := by
      have : (1 : Int) ≤ 10 ^ l.length := (by have : (0 : Int) < 10 ^ l.length := Int.pow_pos (by decide); omega)
      exact Int.mul_le_mul_of_nonpos_left (by omega) this
    simp only [endZ, endV]
    rw [if_neg (by omega)]

theorem endZ_zero (b : Bool) (l : List UInt8) (h : l = [] ∨ l.head? = some 48) : endZ b (digsZ l 0) = none := by
  rcases h with rfl | h
  · simp [digsZ, endZ]
  · cases l with
    | nil => cases h
    | cons c r =>
      simp at h
      subst h
      simp [digsZ, endZ]

theorem endZ_first (b : Bool) (c : UInt8) (r : List UInt8) (h : c ≠ 48) : endZ b (digsZ (c :: r) 0) = endV b (digs (c :: r) 0) := by
  have hc48 : c.toNat ≠ 48 := fun e => h (UInt8.toNat_inj.1 (by rw [e]; rfl))
  simp only [digsZ, digs]
  by_cases hc : 48 ≤ c.toNat ∧ c.toNat ≤ 57 ∧ -9223372036854775808 ≤ 0 * 10 - ((c.toNat : Int) - 48)
  · rw [if_pos hc, if_pos ⟨hc.1, hc.2.1, by omega, hc.2.2⟩]
    exact endZ_neg b r _ (by omega)
  · rw [if_neg hc, if_neg (by omega)]
    rfl

/-- It is what Parse answers: behind a minus. -/
theorem parse_minus (r : List UInt8) : endZ true (digsZ r 0) = parseV (45 :: r) := by
  unfold parseV
  rw [List.head?_cons, if_pos rfl, List.tail_cons]
  split
  · rename_i h; exact endZ_zero true r h
  · rename_i h
    cases r with
    | nil => exact absurd (Or.inl rfl) h
    | cons c r => exact endZ_first true c r (fun e => h (Or.inr (by rw [e]; rfl)))

/-- .. and without one. -/
theorem parse_plain (l : List UInt8) (h0 : l ≠ [48]) (h : l.head? ≠ some 45) : endZ false (digsZ l 0) = parseV l := by
  unfold parseV
  rw [if_neg h]
  split
  · rename_i h1
    exact endZ_zero false l (h1.imp id And.left)
  · rename_i h1
    cases l with
    | nil => exact absurd (Or.inl rfl) h1
    | cons c r =>
      refine endZ_first false c r fun e => ?_
      subst e
      cases r with
      | nil => exact h0 rfl
      | cons d r => exact h1 (Or.inr ⟨rfl, by simp⟩)

/-- The test on the way. -/
theorem test_div (n k : Int) (hk : 0 ≤ k) (hk9 : k ≤ 9) : (n < (-9223372036854775808 + k).tdiv 10) ↔ n * 10 - k < -9223372036854775808 := by
  have h1 := Int.mul_tdiv_add_tmod (-9223372036854775808 + k) 10
  have h2 : ((-9223372036854775808 + k).tmod 10).natAbs < 10 := by
    rw [Int.natAbs_tmod]
    exact Nat.mod_lt _ (by decide)
  have h3 : (-9223372036854775808 + k).tmod 10 ≤ 0 := by
    have := Int.tmod_nonneg (a := -(-9223372036854775808 + k)) 10 (by omega)
    rw [Int.neg_tmod] at this
    omega
  omega

end Go.Proofs.YtcbiiioglklpoaaDoor
