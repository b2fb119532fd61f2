/-
  Reading an ID's text, plainly. No program's code.
-/
import Derived.Test.YtbecjaamheibmaaRtA
namespace Go.Proofs.Ytbecjaamheibmaa

/-- A digit's value, or -1. -/
def dgV (c : UInt8) : Int := Lib.indexByte hexT c
theorem dgV_ge (c : UInt8) : -1 ≤ dgV c := Lib.indexByte_ge _ _
theorem dgV_get {c : UInt8} {d : Nat} (h : dgV c = (d : Int)) : hexT[d]? = some c ∧ ∀ k, k < d → hexT[k]? ≠ some c := Lib.indexByte_some h
theorem dgV_lt (c : UInt8) : dgV c < 16 := by
  by_cases h : 0 ≤ dgV c
  · obtain ⟨d, hd⟩ : ∃ d : Nat, dgV c = (d : Int) := ⟨(dgV c).toNat, by omega⟩
    have := (List.getElem?_eq_some_iff.1 (dgV_get hd).1).1
    have h16 : hexT.length = 16 := rfl
    omega
  · omega
theorem dgV_none {c : UInt8} (h : dgV c < 0) : ∀ k : Nat, hexT[k]? ≠ some c := Lib.indexByte_none (by have := dgV_ge c; show dgV c = -1; omega)
/-- The first place at which a digit stands. -/
theorem dgV_of {c : UInt8} {d : Nat} (h1 : hexT[d]? = some c) (h2 : ∀ k, k < d → hexT[k]? ≠ some c) : dgV c = (d : Int) := by
  by_cases h : dgV c < 0
  · exact absurd h1 (dgV_none h d)
  · obtain ⟨e, he⟩ : ∃ e : Nat, dgV c = (e : Int) := ⟨(dgV c).toNat, by omega⟩
    obtain ⟨q1, q2⟩ := dgV_get he
    rcases Nat.lt_trichotomy d e with g | g | g
    · exact absurd h1 (q2 d g)
    · rw [he, g]
    · exact absurd q1 (h2 e g)
theorem dgV_neg {c : UInt8} (h : ∀ k, k < 16 → hexT[k]? ≠ some c) : dgV c < 0 := by
  by_cases g : dgV c < 0
  · exact g
  · obtain ⟨e, he⟩ : ∃ e : Nat, dgV c = (e : Int) := ⟨(dgV c).toNat, by omega⟩
    exact absurd (dgV_get he).1 (h e (by have := dgV_lt c; omega))
theorem dgV_hex {d : Nat} (h : d < 16) : dgV (hexC d) = (d : Int) := by
  rcases (by omega : d = 0 ∨ d = 1 ∨ d = 2 ∨ d = 3 ∨ d = 4 ∨ d = 5 ∨ d = 6 ∨ d = 7 ∨ d = 8 ∨ d = 9 ∨ d = 10 ∨ d = 11 ∨ d = 12 ∨ d = 13 ∨ d = 14 ∨ d = 15) with rfl | rfl | rfl | rfl | rfl | rfl | rfl | rfl | rfl | rfl | rfl | rfl | rfl | rfl | rfl | rfl <;> decide

def rdN (l : Tx) : Nat := l.foldl (fun a c => a * 16 + (dgV c).toNat) 0
def rdOk (l : Tx) : Prop := ∀ c ∈ l, 0 ≤ dgV c
theorem rdN_snoc (l : Tx) (c : UInt8) : rdN (l ++ [c]) = rdN l * 16 + (dgV c).toNat := by unfold rdN; rw [List.foldl_append]; rfl
theorem rd_take {x : Tx} {i : Nat} {c : UInt8} (h : x[i]? = some c) : rdN (x.take (i + 1)) = rdN (x.take i) * 16 + (dgV c).toNat := by
  rw [List.take_add_one, h]
  exact rdN_snoc _ _
theorem rdN_lt (x : Tx) : ∀ i, i ≤ x.length → rdN (x.take i) < 16 ^ i
  | 0, _ => by simp [rdN]
  | i + 1, h => by
    have ih := rdN_lt x i (by omega)
    rw [rd_take (List.getElem?_eq_getElem (by omega)), Nat.pow_succ]
    have := dgV_lt (x[i]'(by omega))
    omega
theorem rdOk_take {x : Tx} {i : Nat} {c : UInt8} (h : x[i]? = some c) (hk : rdOk (x.take i)) (hc : 0 ≤ dgV c) : rdOk (x.take (i + 1)) := by
  rw [List.take_add_one, h]
  intro d hd
  rcases List.mem_append.1 hd with hd | hd
  · exact hk d hd
  · have : d = c := by simpa using hd
    rw [this]
    exact hc

/-- Does a text tell an ID? -/
def rdIs (x : Tx) : Prop := x.length = 16 ∧ rdOk x ∧ rdN x ≠ 0
open Classical in
noncomputable def rdV (x : Tx) : Nat := if rdIs x then rdN x else 0
open Classical in
noncomputable def rdE (x : Tx) : Int := if rdIs x then 0 else 192
theorem rd_yes {x : Tx} (h : rdIs x) : rdV x = rdN x ∧ rdE x = 0 := by unfold rdV rdE; rw [if_pos h, if_pos h]; exact ⟨rfl, rfl⟩
theorem rd_no {x : Tx} (h : ¬ rdIs x) : rdV x = 0 ∧ rdE x = 192 := by unfold rdV rdE; rw [if_neg h, if_neg h]; exact ⟨rfl, rfl⟩

theorem rd_text_take (n : Nat) : ∀ i, i ≤ 16 → n < 16 ^ 16 → rdN ((textX n).take i) = n / 16 ^ (16 - i)
  | 0, _, h => by
    rw [List.take_zero, Nat.sub_zero, Nat.div_eq_of_lt h]
    rfl
  | i + 1, hi, h => by
    rw [rd_take (textX_get (by omega)), rd_text_take n i (by omega) h, dgV_hex (hexD_lt n i), Int.toNat_natCast]
    unfold hexD
    rw [show 16 - i = (15 - i) + 1 by omega, Nat.pow_succ, ← Nat.div_div_eq_div_mul, show 16 - (i + 1) = 15 - i by omega]
    have := Nat.div_add_mod (n / 16 ^ (15 - i)) 16
    omega
theorem rd_text (n : Nat) (h : n ≤ 18446744073709551615) : rdN (textX n) = n ∧ rdOk (textX n) := by
  constructor
  · have := rd_text_take n 16 (Nat.le_refl _) (by have : (16 : Nat) ^ 16 = 18446744073709551616 := by decide
                                                  omega)
    rwa [List.take_of_length_le (by rw [textX_len]; exact Nat.le_refl _), Nat.sub_self, Nat.pow_zero, Nat.div_one] at this
  · intro c hc
    unfold textX at hc
    obtain ⟨i, _, rfl⟩ := List.mem_map.1 hc
    rw [dgV_hex (hexD_lt n i)]
    omega
theorem rd_back (n : Nat) (h : n ≤ 18446744073709551615) : (n = 0 ∧ rdE (textX n) = 192) ∨ (n ≠ 0 ∧ rdE (textX n) = 0 ∧ rdV (textX n) = n) := by
  obtain ⟨h1, h2⟩ := rd_text n h
  by_cases h0 : n = 0
  · left
    exact ⟨h0, (rd_no (fun q => q.2.2 (by rw [h1]; exact h0))).2⟩
  · right
    have := rd_yes (x := textX n) ⟨textX_len n, h2, by rw [h1]; exact h0⟩
    exact ⟨h0, this.2, by rw [this.1, h1]⟩

end Go.Proofs.Ytbecjaamheibmaa
