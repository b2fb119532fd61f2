/-
  The last bytes of a stream, plainly: slots that go round, what is put in, what is told. No program's code.
-/
import Derived.WalkKit
namespace Go.Proofs.Ytbecjaamheibmaa

/-- A text. -/
abbrev Tx := List UInt8

/-- The last s bytes. -/
def lastN (s : Nat) (X : Tx) : Tx := X.drop (X.length - s)
theorem lastN_len (s : Nat) (X : Tx) : (lastN s X).length = min X.length s := by unfold lastN; rw [List.length_drop]; omega
theorem lastN_nil (s : Nat) : lastN s [] = [] := by simp [lastN]
theorem lastN_all {s : Nat} {X : Tx} (h : X.length ≤ s) : lastN s X = X := by unfold lastN; rw [show X.length - s = 0 by omega]; rfl
theorem lastN_feed (s : Nat) (X b : Tx) : (lastN s X ++ b).drop ((lastN s X ++ b).length - s) = lastN s (X ++ b) := by
  unfold lastN
  have h1 : (X.drop (X.length - s) ++ b).length - s = X.length - (X.length - s) + b.length - s := by rw [List.length_append, List.length_drop]
  rw [h1]
  by_cases h : X.length ≤ s
  · rw [show X.length - s = 0 by omega, List.drop_zero, List.length_append, Nat.sub_zero]
  · rw [List.length_append, show X.length + b.length - s = X.length - s + b.length by omega, show X.length - (X.length - s) + b.length - s = b.length by omega]
    have e : (X ++ b).drop (X.length - s) = X.drop (X.length - s) ++ b := List.drop_append_of_le_length (by omega)
    rw [← List.drop_drop, e]
theorem lastN_keep {s : Nat} {X b : Tx} (h : (lastN s X ++ b).length ≤ s) : lastN s X ++ b = lastN s (X ++ b) := by
  rw [← lastN_feed, show (lastN s X ++ b).length - s = 0 by omega]
  rfl

theorem getD_cat {X b : Tx} {n : Nat} (h : X.length ≤ n) : (X ++ b).getD n 0 = b.getD (n - X.length) 0 := by
  rw [List.getD_eq_getElem?_getD, List.getElem?_append_right h, List.getD_eq_getElem?_getD]
theorem getD_cat' {X b : Tx} {n : Nat} (h : n < X.length) : (X ++ b).getD n 0 = X.getD n 0 := by
  rw [List.getD_eq_getElem?_getD, List.getElem?_append_left h, List.getD_eq_getElem?_getD]
theorem getD_drop (X : Tx) (k n : Nat) : (X.drop k).getD n 0 = X.getD (k + n) 0 := by
  rw [List.getD_eq_getElem?_getD, List.getElem?_drop, List.getD_eq_getElem?_getD]
theorem ext_getD {a b : Tx} (hl : a.length = b.length) (h : ∀ j, j < a.length → a.getD j 0 = b.getD j 0) : a = b := by
  refine List.ext_getElem hl fun j h1 h2 => ?_
  have := h j h1
  rwa [List.getD_eq_getElem?_getD, List.getD_eq_getElem?_getD, List.getElem?_eq_getElem h1, List.getElem?_eq_getElem h2] at this

/-- Places that go round. -/
theorem mod_add (s a j : Nat) (hs : 0 < s) (hj : j < s) : (a + j) % s = if a % s + j < s then a % s + j else a % s + j - s := by
  have h := Nat.mod_lt a hs
  rw [Nat.add_mod, Nat.mod_eq_of_lt hj]
  split
  · exact Nat.mod_eq_of_lt (by omega)
  · rw [Nat.mod_eq_sub_mod (by omega)]
    exact Nat.mod_eq_of_lt (by omega)
theorem mod_apart {s n x : Nat} (h1 : n < x) (h2 : x < n + s) : x % s ≠ n % s := by
  intro e
  have hs : 0 < s := by omega
  have q := mod_add s n (x - n) hs (by omega)
  rw [show n + (x - n) = x by omega, e] at q
  have := Nat.mod_lt n hs
  split at q <;> omega

/-- Byte n of the stream X stands at place n modulo s, if it is one of the last s. -/
def Slots (s : Nat) (X : Tx) (S : Nat → UInt8) : Prop := ∀ n, n < X.length → X.length ≤ n + s → S (n % s) = X.getD n 0

theorem Slots.nil (s : Nat) (S : Nat → UInt8) : Slots s [] S := fun n h => by simp at h

/-- A row over which some bytes are laid from a place on. -/
def ovl (S : Nat → UInt8) (q n : Nat) (b : Nat → UInt8) : Nat → UInt8 := fun j => if q ≤ j ∧ j < q + n then b (j - q) else S j

/-- How many slots: room for what is there, all if it goes round. -/
def Room (s : Nat) (X : Tx) (m : Nat) : Prop := m ≤ s ∧ (m = s ∨ X.length ≤ m)

theorem Slots.grow {s m : Nat} {X : Tx} {S : Nat → UInt8} (h : Slots s X S) (hm : Room s X m) (hs : 0 < s) (Z : Nat → UInt8) : Slots s X (ovl Z 0 m S) := by
  intro n h1 h2
  have hp : n % s < m := by
    rcases hm.2 with e | e
    · rw [e]; exact Nat.mod_lt _ hs
    · exact Nat.lt_of_le_of_lt (Nat.mod_le _ _) (by omega)
  unfold ovl
  rw [if_pos ⟨Nat.zero_le _, by omega⟩, Nat.sub_zero]
  exact h n h1 h2

theorem Slots.put {s m k q n1 : Nat} {X b : Tx} {S : Nat → UInt8} (h : Slots s X S) (hs : 0 < s) (hm : Room s (X ++ b) m) (hk : k = min b.length s) (hq : q = ((X ++ b).length - k) % s) (hn : n1 = min (m - q) k) :
    Slots s (X ++ b) (ovl (ovl S q n1 fun j => (b.drop (b.length - k)).getD j 0) 0 (k - n1) fun j => (b.drop (b.length - k)).getD (n1 + j) 0) := by
  intro n h1 h2
  obtain ⟨hm1, hm2⟩ := hm
  rw [List.length_append] at *
  obtain ⟨a, ha⟩ : ∃ a, X.length + b.length - k = a := ⟨_, rfl⟩
  rw [ha] at hq
  have hq1 : q < s := by rw [hq]; exact Nat.mod_lt _ hs
  have hqa : q ≤ a := by rw [hq]; exact Nat.mod_le _ _
  have hsm : m = s ∨ q = a := by
    rcases hm2 with e | e
    · exact Or.inl e
    · by_cases e2 : m = s
      · exact Or.inl e2
      · right
        rw [hq]
        exact Nat.mod_eq_of_lt (by omega)
  by_cases hna : a ≤ n
  · obtain ⟨j, rfl⟩ : ∃ j, n = a + j := ⟨n - a, by omega⟩
    have hj : j < k := by omega
    have hv : (X ++ b).getD (a + j) 0 = (b.drop (b.length - k)).getD j 0 := by
      rw [getD_cat (by omega), getD_drop]
      congr 1
      omega
    rw [hv, mod_add s a j hs (by omega), ← hq]
    by_cases hlt : q + j < s
    · rw [if_pos hlt]
      unfold ovl
      rw [if_neg (by omega), if_pos (by omega)]
      congr 1
      omega
    · rw [if_neg hlt]
      unfold ovl
      rw [if_pos (by omega)]
      have e3 : n1 + (q + j - s - 0) = j := by
        rcases hsm with e | e <;> omega
      dsimp only
      rw [e3]
  · have hnX : n < X.length := by omega
    rw [getD_cat' hnX, ← h n hnX (by omega)]
    have hp := Nat.mod_lt n hs
    have hfar : ∀ j, j < k → (a + j) % s ≠ n % s := fun j hj => mod_apart (by omega) (by omega)
    obtain ⟨p, hpe⟩ : ∃ p, n % s = p := ⟨_, rfl⟩
    rw [hpe] at hfar hp ⊢
    have hf2 : ∀ j, j < k → (if q + j < s then q + j else q + j - s) ≠ p := fun j hj => by
      have := hfar j hj
      rwa [mod_add s a j hs (by omega), ← hq] at this
    unfold ovl
    have g2 : ¬ (0 ≤ p ∧ p < 0 + (k - n1)) := fun e => by
      have := hf2 (n1 + p) (by omega)
      rw [if_neg (by omega)] at this
      omega
    have g1 : ¬ (q ≤ p ∧ p < q + n1) := fun e => by
      have := hf2 (p - q) (by omega)
      rw [if_pos (by omega)] at this
      omega
    rw [if_neg g2, if_neg g1]

/-- What the last n bytes are, read in two pieces. -/
theorem Slots.tail {s m n q n1 : Nat} {X : Tx} {S : Nat → UInt8} (h : Slots s X S) (hs : 0 < s) (hm : Room s X m) (hn : n ≤ X.length) (hns : n ≤ s) (hq : q = (X.length - n) % s) (h1 : n1 = min (m - q) n) (Z : Nat → UInt8) :
    ∀ j, j < n → ovl (ovl Z 0 n1 fun j => S (q + j)) n1 (n - n1) S j = (X.drop (X.length - n)).getD j 0 := by
  intro j hj
  obtain ⟨hm1, hm2⟩ := hm
  obtain ⟨a, ha⟩ : ∃ a, X.length - n = a := ⟨_, rfl⟩
  rw [ha] at hq ⊢
  have hq1 : q < s := by rw [hq]; exact Nat.mod_lt _ hs
  have hsm : m = s ∨ q = a := by
    rcases hm2 with e | e
    · exact Or.inl e
    · by_cases e2 : m = s
      · exact Or.inl e2
      · right
        rw [hq]
        exact Nat.mod_eq_of_lt (by omega)
  rw [getD_drop, ← h (a + j) (by omega) (by omega), mod_add s a j hs (by omega), ← hq]
  unfold ovl
  by_cases hlt : j < n1
  · rw [if_neg (by omega), if_pos (by omega), if_pos (by omega)]
    congr 1
  · rw [if_pos (by omega), if_neg (by omega)]
    congr 1
    omega

end Go.Proofs.Ytbecjaamheibmaa
