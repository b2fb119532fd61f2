/-
  Plain theory of a row with two ends: a value put in at a place, taken out; places around a ring; what each round of the two moving loops leaves. No program's code.
-/
import Derived.Test.YtbecjaamheibmaaRows
namespace Go.Proofs.Ytbecjaamheibmaa

section
variable {α : Type}

/-- A value ahead of the one at a place. -/
def insAt (L : List α) (i : Nat) (v : α) : List α := L.take i ++ v :: L.drop i
/-- The value at a place is taken out. -/
def delAt (L : List α) (i : Nat) : List α := L.take i ++ L.drop (i + 1)

theorem insAt_length {L : List α} {i : Nat} (h : i ≤ L.length) (v : α) : (insAt L i v).length = L.length + 1 := by
  unfold insAt
  rw [List.length_append, List.length_cons, List.length_take, List.length_drop]
  omega
theorem delAt_length {L : List α} {i : Nat} (h : i < L.length) : (delAt L i).length = L.length - 1 := by
  unfold delAt
  rw [List.length_append, List.length_take, List.length_drop]
  omega

theorem insAt_get {L : List α} {i : Nat} (h : i ≤ L.length) (v : α) (m : Nat) : (insAt L i v)[m]? = if m < i then L[m]? else if m = i then some v else L[m - 1]? := by
  unfold insAt
  by_cases h1 : m < i
  · rw [if_pos h1, List.getElem?_append_left (by rw [List.length_take]; omega), List.getElem?_take, if_pos h1]
  · rw [if_neg h1, List.getElem?_append_right (by rw [List.length_take]; omega), List.length_take, Nat.min_eq_left h]
    by_cases h2 : m = i
    · rw [if_pos h2, h2, Nat.sub_self]
      rfl
    · rw [if_neg h2, show m - i = (m - 1 - i) + 1 from by omega, List.getElem?_cons_succ, List.getElem?_drop]
      congr 1
      omega

theorem delAt_get {L : List α} {i : Nat} (h : i < L.length) (m : Nat) : (delAt L i)[m]? = if m < i then L[m]? else L[m + 1]? := by
  unfold delAt
  by_cases h1 : m < i
  · rw [if_pos h1, List.getElem?_append_left (by rw [List.length_take]; omega), List.getElem?_take, if_pos h1]
  · rw [if_neg h1, List.getElem?_append_right (by rw [List.length_take]; omega), List.length_take, Nat.min_eq_left (by omega), List.getElem?_drop]
    congr 1
    omega

/-- A place of a ring. -/
def rp (f N i : Nat) : Nat := (f + i) % N

theorem rp_lt {f N : Nat} (h : 0 < N) (i : Nat) : rp f N i < N := Nat.mod_lt _ h
theorem rp_inj {f N i j : Nat} (hi : i < N) (hj : j < N) (h : rp f N i = rp f N j) : i = j := by
  unfold rp at h
  have h1 := Nat.div_add_mod (f + i) N
  have h2 := Nat.div_add_mod (f + j) N
  rw [h] at h1
  rcases Nat.lt_trichotomy ((f + i) / N) ((f + j) / N) with q | q | q
  · have : N * ((f + i) / N + 1) ≤ N * ((f + j) / N) := Nat.mul_le_mul_left N q
    rw [Nat.mul_add, Nat.mul_one] at this
    omega
  · rw [q] at h1
    omega
  · have : N * ((f + j) / N + 1) ≤ N * ((f + i) / N) := Nat.mul_le_mul_left N q
    rw [Nat.mul_add, Nat.mul_one] at this
    omega
/-- One place back around, one place on. -/
theorem rp_back {f N : Nat} (hN : 0 < N) (i : Nat) : rp ((f + N - 1) % N) N (i + 1) = rp f N i := by
  unfold rp
  rw [Nat.mod_add_mod, show f + N - 1 + (i + 1) = f + i + N from by omega, Nat.add_mod_right]
theorem rp_on (f N i : Nat) : rp ((f + 1 + N) % N) N i = rp f N (i + 1) := by
  unfold rp
  rw [Nat.mod_add_mod, show f + 1 + N + i = f + (i + 1) + N from by omega, Nat.add_mod_right]

def upd (S : Nat → Value) (p : Nat) (v : Value) : Nat → Value := fun j => if j = p then v else S j
theorem upd_same (S : Nat → Value) (p : Nat) (v : Value) : upd S p v p = v := if_pos rfl
theorem upd_other (S : Nat → Value) {p j : Nat} (v : Value) (h : j ≠ p) : upd S p v j = S j := if_neg h

/-- Of a list, seen from an end, the first j values have gone outwards. -/
def InsInv (enc : α → Value) (S : Nat → Value) (P : Nat → Nat) (E : List α) (j : Nat) : Prop := ∀ i x, E[i]? = some x → S (P (if i < j then i else i + 1)) = enc x
/-- .. of the values ahead of a place those from i on have gone inwards. -/
def DelInv (enc : α → Value) (S : Nat → Value) (P : Nat → Nat) (E : List α) (place i : Nat) : Prop := ∀ m x, E[m]? = some x → m ≠ place → S (P (if m < i ∨ place < m then m else m + 1)) = enc x

theorem lt_of_some {L : List α} {i : Nat} {x : α} (h : L[i]? = some x) : i < L.length := (List.getElem?_eq_some_iff.1 h).1

theorem ins_get {enc : α → Value} {S : Nat → Value} {P : Nat → Nat} {E : List α} {j : Nat} {y : α} (h : InsInv enc S P E j) (hy : E[j]? = some y) : S (P (j + 1)) = enc y := by
  have q := h j y hy
  rwa [if_neg (Nat.lt_irrefl j)] at q

theorem ins_step {enc : α → Value} {S : Nat → Value} {P : Nat → Nat} {E : List α} {j : Nat} {y : α} (h : InsInv enc S P E j) (hy : E[j]? = some y) (hP : ∀ a b, a ≤ E.length → b ≤ E.length → P a = P b → a = b) : InsInv enc (upd S (P j) (enc y)) P E (j + 1) := by
  intro i x hx
  have h1 := lt_of_some hx
  have h2 := lt_of_some hy
  rcases Nat.lt_trichotomy i j with q | q | q
  · rw [if_pos (by omega), upd_other _ _ (fun e => by have := hP _ _ (by omega) (by omega) e; omega)]
    have := h i x hx
    rwa [if_pos q] at this
  · subst q
    rw [if_pos (by omega), upd_same]
    rw [hy] at hx
    injection hx with hx
    rw [hx]
  · rw [if_neg (by omega), upd_other _ _ (fun e => by have := hP _ _ (by omega) (by omega) e; omega)]
    have := h i x hx
    rwa [if_neg (by omega)] at this

theorem ins_end {enc : α → Value} {S : Nat → Value} {P : Nat → Nat} {E : List α} {j : Nat} {v : α} (h : InsInv enc S P E j) (hj : j ≤ E.length) (hP : ∀ a b, a ≤ E.length → b ≤ E.length → P a = P b → a = b) : ∀ i x, (insAt E j v)[i]? = some x → upd S (P j) (enc v) (P i) = enc x := by
  intro i x hx
  have hl := lt_of_some hx
  rw [insAt_length hj] at hl
  rw [insAt_get hj] at hx
  rcases Nat.lt_trichotomy i j with q | q | q
  · rw [if_pos q] at hx
    rw [upd_other _ _ (fun e => by have := hP _ _ (by omega) (by omega) e; omega)]
    have := h i x hx
    rwa [if_pos q] at this
  · subst q
    rw [if_neg (Nat.lt_irrefl i), if_pos rfl] at hx
    injection hx with hx
    rw [upd_same, hx]
  · rw [if_neg (by omega), if_neg (by omega)] at hx
    rw [upd_other _ _ (fun e => by have := hP _ _ (by omega) (by omega) e; omega)]
    have := h (i - 1) x hx
    rwa [if_neg (by omega), show i - 1 + 1 = i from by omega] at this

theorem del_get {enc : α → Value} {S : Nat → Value} {P : Nat → Nat} {E : List α} {place i : Nat} {y : α} (h : DelInv enc S P E place (i + 1)) (hi : i < place) (hy : E[i]? = some y) : S (P i) = enc y := by
  have q := h i y hy (by omega)
  rwa [if_pos (by omega)] at q

theorem del_step {enc : α → Value} {S : Nat → Value} {P : Nat → Nat} {E : List α} {place i : Nat} {y : α} (h : DelInv enc S P E place (i + 1)) (hi : i < place) (hp : place < E.length) (hy : E[i]? = some y) (hP : ∀ a b, a < E.length → b < E.length → P a = P b → a = b) : DelInv enc (upd S (P (i + 1)) (enc y)) P E place i := by
  intro m x hx hm
  have h1 := lt_of_some hx
  have hq := h m x hx hm
  by_cases q1 : place < m
  · rw [if_pos (Or.inr q1)] at hq ⊢
    rw [upd_other _ _ (fun e => by have := hP _ _ (by omega) (by omega) e; omega)]
    exact hq
  · rcases Nat.lt_trichotomy m i with q | q | q
    · rw [if_pos (by omega)] at hq ⊢
      rw [upd_other _ _ (fun e => by have := hP _ _ (by omega) (by omega) e; omega)]
      exact hq
    · subst q
      rw [if_neg (by omega), upd_same]
      rw [hy] at hx
      injection hx with hx
      rw [hx]
    · rw [if_neg (by omega)] at hq ⊢
      rw [upd_other _ _ (fun e => by have := hP _ _ (by omega) (by omega) e; omega)]
      exact hq

theorem del_get' {enc : α → Value} {S : Nat → Value} {P : Nat → Nat} {E : List α} {place j : Nat} {y : α} (h : DelInv enc S P E place j) (h0 : 0 < j) (hj : j ≤ place) (hy : E[j - 1]? = some y) : S (P (j - 1)) = enc y := by
  obtain ⟨i, rfl⟩ : ∃ i, j = i + 1 := ⟨j - 1, by omega⟩
  exact del_get h (by omega) hy

theorem del_step' {enc : α → Value} {S : Nat → Value} {P : Nat → Nat} {E : List α} {place j : Nat} {y : α} (h : DelInv enc S P E place j) (h0 : 0 < j) (hj : j ≤ place) (hp : place < E.length) (hy : E[j - 1]? = some y) (hP : ∀ a b, a < E.length → b < E.length → P a = P b → a = b) : DelInv enc (upd S (P j) (enc y)) P E place (j - 1) := by
  obtain ⟨i, rfl⟩ : ∃ i, j = i + 1 := ⟨j - 1, by omega⟩
  exact del_step h (by omega) hp hy hP

theorem del_end {enc : α → Value} {S : Nat → Value} {P : Nat → Nat} {E : List α} {place : Nat} (z : Value) (h : DelInv enc S P E place 0) (hp : place < E.length) (hP : ∀ a b, a < E.length → b < E.length → P a = P b → a = b) : ∀ i x, (delAt E place)[i]? = some x → upd S (P 0) z (P (i + 1)) = enc x := by
  intro i x hx
  have hl := lt_of_some hx
  rw [delAt_length hp] at hl
  rw [delAt_get hp] at hx
  rw [upd_other _ _ (fun e => by have := hP _ _ (by omega) (by omega) e; omega)]
  by_cases q : i < place
  · rw [if_pos q] at hx
    have := h i x hx (by omega)
    rwa [if_neg (by omega)] at this
  · rw [if_neg q] at hx
    have := h (i + 1) x hx (by omega)
    rwa [if_pos (Or.inr (by omega))] at this

theorem get_reverse {L : List α} {i : Nat} {x : α} (h : L.reverse[i]? = some x) : L[L.length - 1 - i]? = some x := by
  have hl := lt_of_some h
  rw [List.length_reverse] at hl
  rwa [List.getElem?_reverse hl] at h

theorem insAt_reverse {L : List α} {i : Nat} (h : i ≤ L.length) (v : α) (m : Nat) (x : α) (hx : (insAt L i v)[m]? = some x) : (insAt L.reverse (L.length - i) v)[L.length - m]? = some x := by
  have hl := lt_of_some hx
  rw [insAt_length h] at hl
  rw [insAt_get h] at hx
  rw [insAt_get (by rw [List.length_reverse]; omega)]
  rcases Nat.lt_trichotomy m i with q | q | q
  · rw [if_pos q] at hx
    rw [if_neg (by omega), if_neg (by omega), List.getElem?_reverse (by omega), ← hx]
    congr 1
    omega
  · rw [if_neg (by omega), if_pos q] at hx
    rw [if_neg (by omega), if_pos (by omega)]
    exact hx
  · rw [if_neg (by omega), if_neg (by omega)] at hx
    rw [if_pos (by omega), List.getElem?_reverse (by omega), ← hx]
    congr 1
    omega

theorem delAt_reverse {L : List α} {i : Nat} (h : i < L.length) (m : Nat) (x : α) (hx : (delAt L i)[m]? = some x) : (delAt L.reverse (L.length - 1 - i))[L.length - 2 - m]? = some x := by
  have hl := lt_of_some hx
  rw [delAt_length h] at hl
  rw [delAt_get h] at hx
  rw [delAt_get (by rw [List.length_reverse]; omega)]
  by_cases q : m < i
  · rw [if_pos q] at hx
    rw [if_neg (by omega), List.getElem?_reverse (by omega), ← hx]
    congr 1
    omega
  · rw [if_neg q] at hx
    rw [if_pos (by omega), List.getElem?_reverse (by omega), ← hx]
    congr 1
    omega

end

end Go.Proofs.Ytbecjaamheibmaa
