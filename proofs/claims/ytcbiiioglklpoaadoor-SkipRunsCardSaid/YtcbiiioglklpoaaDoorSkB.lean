/-
  Plain theory of members in order: the order is total and strict; how many stand ahead of one; what putting one in and taking one out make of a row in order; ranges of scores. No program's code.
-/
import Derived.Test.YtcbiiioglklpoaaDoorSkA
import Derived.Sort.Walk0
import Derived.Lib.Bytealg
namespace Go.Proofs.YtcbiiioglklpoaaDoor

/-- Does one stand ahead of another one? -/
def ahd (a b : Mb) : Bool := decide (a.2 < b.2) || (decide (a.2 = b.2) && decide (a.1 < b.1))

theorem ahd_iff {a b : Mb} : ahd a b = true ↔ a.2 < b.2 ∨ a.2 = b.2 ∧ a.1 < b.1 := by simp [ahd]

theorem u8lex_trans {x y z : List UInt8} (h : x < y) (k : y < z) : x < z := List.lt_trans h k

theorem u8lex_or : ∀ {x y : List UInt8}, x < y ∨ x = y ∨ y < x
  | [], [] => Or.inr (Or.inl rfl)
  | [], b :: y => Or.inl (List.nil_lt_cons b y)
  | a :: x, [] => Or.inr (Or.inr (List.nil_lt_cons a x))
  | a :: x, b :: y => by
    rcases UInt8.lt_or_lt_of_ne (a := a) (b := b) |> fun h => (Classical.em (a = b)) with h | h
    · subst h
      rcases u8lex_or (x := x) (y := y) with h1 | h1 | h1
      · exact Or.inl (List.cons_lt_cons_iff.2 (Or.inr ⟨rfl, h1⟩))
      · exact Or.inr (Or.inl (by rw [h1]))
      · exact Or.inr (Or.inr (List.cons_lt_cons_iff.2 (Or.inr ⟨rfl, h1⟩)))
    · rcases UInt8.lt_or_lt_of_ne h with h1 | h1
      · exact Or.inl (List.cons_lt_cons_iff.2 (Or.inl h1))
      · exact Or.inr (Or.inr (List.cons_lt_cons_iff.2 (Or.inl h1)))

theorem ahd_irrefl (a : Mb) : ahd a a = false := by
  have := List.lt_irrefl a.1
  simp [ahd, this]
theorem ahd_trans {a b c : Mb} (h : ahd a b = true) (k : ahd b c = true) : ahd a c = true := by
  rw [ahd_iff] at *
  rcases h with h | ⟨h, h2⟩ <;> rcases k with k | ⟨k, k2⟩
  · exact Or.inl (by omega)
  · exact Or.inl (by omega)
  · exact Or.inl (by omega)
  · exact Or.inr ⟨by omega, u8lex_trans h2 k2⟩
theorem ahd_or (a b : Mb) : ahd a b = true ∨ a = b ∨ ahd b a = true := by
  obtain ⟨a1, a2⟩ := a
  obtain ⟨b1, b2⟩ := b
  simp only [ahd_iff, Prod.mk.injEq]
  rcases (by omega : a2 < b2 ∨ b2 < a2 ∨ a2 = b2) with h | h | h
  · exact Or.inl (Or.inl h)
  · exact Or.inr (Or.inr (Or.inl h))
  · rcases u8lex_or (x := a1) (y := b1) with h1 | h1 | h1
    · exact Or.inl (Or.inr ⟨h, h1⟩)
    · exact Or.inr (Or.inl ⟨h1, h⟩)
    · exact Or.inr (Or.inr (Or.inr ⟨h.symm, h1⟩))
theorem ahd_asymm {a b : Mb} (h : ahd a b = true) : ahd b a = false := by
  cases hq : ahd b a with
  | false => rfl
  | true =>
    have := ahd_trans h hq
    rw [ahd_irrefl] at this
    cases this

/-! ### what package skip compares by -/
theorem cmpB_lt : ∀ {x y : List UInt8}, Lib.compareBytes x y < 0 ↔ x < y
  | [], [] => by simp [Lib.compareBytes, List.lt_irrefl]
  | [], b :: y => by simp [Lib.compareBytes, List.nil_lt_cons]
  | a :: x, [] => by simp [Lib.compareBytes]
  | a :: x, b :: y => by
    unfold Lib.compareBytes
    rw [List.cons_lt_cons_iff]
    by_cases h : a < b
    · simp [h]
    · by_cases h2 : b < a
      · have hne : a ≠ b := fun e => by subst e; exact h h2
        simp [h, h2, hne]
      · have e : a = b := by
          rcases Classical.em (a = b) with e | e
          · exact e
          · rcases UInt8.lt_or_lt_of_ne e with q | q
            · exact absurd q h
            · exact absurd q h2
        subst e
        rw [if_neg h, if_neg h2]
        simp only [h, false_or, true_and]
        exact cmpB_lt

/-- What compare answers. -/
def cmpM (a b : Mb) : Int := if a.2 = b.2 then Lib.compareBytes a.1 b.1 else if a.2 < b.2 then -1 else 1

theorem cmpM_ahd (a b : Mb) : decide (cmpM a b < 0) = ahd a b := by
  unfold cmpM ahd
  by_cases h : a.2 = b.2
  · have := cmpB_lt (x := a.1) (y := b.1)
    simp [h, this]
  · by_cases h2 : a.2 < b.2
    · simp [h, h2]
    · simp [h, h2]

/-! ### rows in order -/
abbrev InOrd (L : List Mb) : Prop := L.Pairwise fun a b => ahd a b = true

theorem InOrd.get {L : List Mb} (h : InOrd L) {i j : Nat} {x y : Mb} (hij : i < j) (hx : L[i]? = some x) (hy : L[j]? = some y) : ahd x y = true := by
  obtain ⟨h1, rfl⟩ := List.getElem?_eq_some_iff.1 hx
  obtain ⟨h2, rfl⟩ := List.getElem?_eq_some_iff.1 hy
  exact List.pairwise_iff_getElem.1 h i j h1 h2 hij

/-- How many at the beginning are such. -/
def cntB (A : Mb → Bool) (L : List Mb) : Nat := (L.takeWhile A).length

theorem cntB_le (A : Mb → Bool) (L : List Mb) : cntB A L ≤ L.length := (List.takeWhile_prefix A).length_le

/-- Those at the beginning, and no other one, where what is such lies ahead of what isn't. -/
theorem cntB_iff {A : Mb → Bool} {L : List Mb} (h : InOrd L) (hA : ∀ x y, ahd x y = true → A y = true → A x = true) {j : Nat} {x : Mb} (hx : L[j]? = some x) : A x = true ↔ j < cntB A L := by
  induction L generalizing j with
  | nil => simp at hx
  | cons a L ih =>
    obtain ⟨h1, h2⟩ := List.pairwise_cons.1 h
    unfold cntB
    rw [List.takeWhile_cons]
    by_cases ha : A a = true
    · rw [if_pos ha]
      rcases j with _ | j
      · simp at hx
        subst hx
        simp [ha]
      · rw [List.getElem?_cons_succ] at hx
        rw [ih h2 hx]
        simp [cntB]
    · rw [if_neg ha]
      simp only [List.length_nil, Nat.not_lt_zero, iff_false]
      intro hx2
      rcases j with _ | j
      · simp at hx
        subst hx
        exact ha hx2
      · rw [List.getElem?_cons_succ] at hx
        exact ha (hA a x (h1 x (List.mem_of_getElem? hx)) hx2)

/-- The place that a member has, or would have. -/
def rkM (m : Mb) (L : List Mb) : Nat := cntB (fun x => ahd x m) L

theorem rkM_iff {L : List Mb} (h : InOrd L) (m : Mb) {j : Nat} {x : Mb} (hx : L[j]? = some x) : ahd x m = true ↔ j < rkM m L := cntB_iff h (fun _ _ h1 h2 => ahd_trans h1 h2) hx

theorem rkM_self {L : List Mb} (h : InOrd L) {j : Nat} {x : Mb} (hx : L[j]? = some x) : rkM x L = j := by
  have h1 := rkM_iff h x hx
  rw [ahd_irrefl] at h1
  have hj := (List.getElem?_eq_some_iff.1 hx).1
  rcases Nat.lt_or_ge (rkM x L) j with h2 | h2
  · have hl : rkM x L < L.length := by omega
    have h3 := (h.get h2 (List.getElem?_eq_getElem hl) hx)
    have := (rkM_iff h x (List.getElem?_eq_getElem hl)).1 h3
    omega
  · have : ¬ j < rkM x L := fun e => by have := h1.2 e; cases this
    omega

/-- Put in at its place, a row stays in order. -/
theorem InOrd.ins {L : List Mb} (h : InOrd L) {m : Mb} (hm : m ∉ L) : InOrd (insAt L (rkM m L) m) := by
  have hle := cntB_le (fun x => ahd x m) L
  unfold insAt
  refine List.pairwise_append.2 ⟨h.sublist (List.take_sublist _ _), List.pairwise_cons.2 ⟨fun x hx => ?_, h.sublist (List.drop_sublist _ _)⟩, fun x hx y hy => ?_⟩
  · obtain ⟨j, hj⟩ := List.mem_iff_getElem?.1 hx
    rw [List.getElem?_drop] at hj
    have h1 : ¬ ahd x m = true := fun e => by
      have := (rkM_iff h m hj).1 e
      omega
    rcases ahd_or m x with q | q | q
    · exact q
    · exact absurd (q ▸ List.mem_of_getElem? hj) hm
    · exact absurd q h1
  · obtain ⟨i, hi⟩ := List.mem_iff_getElem?.1 hx
    rw [List.getElem?_take] at hi
    split at hi
    · rename_i hlt
      have h1 := (rkM_iff h m hi).2 hlt
      rcases List.mem_cons.1 hy with rfl | hy
      · exact h1
      · obtain ⟨j, hj⟩ := List.mem_iff_getElem?.1 hy
        rw [List.getElem?_drop] at hj
        exact h.get (by omega) hi hj
    · cases hi

theorem InOrd.del {L : List Mb} (h : InOrd L) (k : Nat) : InOrd (delAt L k) := by
  unfold delAt
  refine List.pairwise_append.2 ⟨h.sublist (List.take_sublist _ _), h.sublist (List.drop_sublist _ _), fun x hx y hy => ?_⟩
  obtain ⟨i, hi⟩ := List.mem_iff_getElem?.1 hx
  obtain ⟨j, hj⟩ := List.mem_iff_getElem?.1 hy
  rw [List.getElem?_take] at hi
  rw [List.getElem?_drop] at hj
  split at hi
  · exact h.get (by omega) hi hj
  · cases hi

theorem insAt_perm {L : List Mb} {p : Nat} (m : Mb) : (insAt L p m).Perm (m :: L) := by
  unfold insAt
  refine List.perm_middle.trans ?_
  rw [List.take_append_drop]

/-- Two rows in order of the same members are one. -/
theorem InOrd.unique {L L' : List Mb} (h : InOrd L) (h' : InOrd L') (hp : L.Perm L') : L = L' :=
  List.Perm.eq_of_pairwise (fun a b _ _ h1 h2 => by rw [ahd_asymm h1] at h2; cases h2) h h' hp

end Go.Proofs.YtcbiiioglklpoaaDoor
