/-
  Plain theory of members by scores with ways ahead on each level: where a way leads, the trail of a place, what laying a member and taking one out make of every way. No program's code.
-/
import Derived.Test.YtcbiiioglklpoaaDoorDqA
namespace Go.Proofs.YtcbiiioglklpoaaDoor

/-- A member: its text, its score. -/
abbrev Mb := List UInt8 × Int
/-- A node: its block, its member. -/
abbrev Nd := Nat × Mb

theorem insAt_perm' {α : Type} {L : List α} {p : Nat} (y : α) : (insAt L p y).Perm (y :: L) := by
  unfold insAt
  refine List.perm_middle.trans ?_
  rw [List.take_append_drop]

section
variable (lv : Mb → Nat)

/-- The first node of a level among some: how far, and its block. -/
def fstAt (i : Nat) : List Nd → Option (Nat × Nat)
  | [] => none
  | x :: xs => if i < lv x.2 then some (1, x.1) else (fstAt i xs).map fun r => (r.1 + 1, r.2)

theorem fstAt_cons (i : Nat) (x : Nd) (xs : List Nd) : fstAt lv i (x :: xs) = if i < lv x.2 then some (1, x.1) else (fstAt lv i xs).map fun r => (r.1 + 1, r.2) := rfl

theorem fstAt_append (i : Nat) : ∀ (xs ys : List Nd), fstAt lv i (xs ++ ys) = match fstAt lv i xs with | some r => some r | none => (fstAt lv i ys).map fun r => (r.1 + xs.length, r.2)
  | [], ys => by
    simp [fstAt]
  | x :: xs, ys => by
    rw [List.cons_append, fstAt_cons, fstAt_cons]
    by_cases h : i < lv x.2
    · simp [h]
    · simp only [h, if_false]
      rw [fstAt_append i xs ys]
      cases h1 : fstAt lv i xs with
      | some r => rfl
      | none =>
        cases h2 : fstAt lv i ys with
        | none => rfl
        | some r => simp [Nat.add_assoc]

theorem fstAt_none {i : Nat} : ∀ {xs : List Nd}, fstAt lv i xs = none ↔ ∀ x ∈ xs, lv x.2 ≤ i
  | [] => by simp [fstAt]
  | x :: xs => by
    unfold fstAt
    by_cases h : i < lv x.2
    · simp only [h, if_true]
      constructor
      · intro e; cases e
      · intro e; have := e x (by simp); omega
    · simp only [h, if_false, Option.map_eq_none_iff, fstAt_none (xs := xs), List.mem_cons, forall_eq_or_imp]
      exact ⟨fun e => ⟨by omega, e⟩, fun e => e.2⟩

theorem fstAt_some {i d b : Nat} : ∀ {xs : List Nd}, fstAt lv i xs = some (d, b) → 1 ≤ d ∧ d ≤ xs.length ∧ (∃ m, xs[d - 1]? = some (b, m) ∧ i < lv m) ∧ ∀ j x, j < d - 1 → xs[j]? = some x → lv x.2 ≤ i
  | [], h => by simp [fstAt] at h
  | x :: xs, h => by
    unfold fstAt at h
    by_cases hx : i < lv x.2
    · simp only [hx, if_true, Option.some.injEq, Prod.mk.injEq] at h
      obtain ⟨rfl, rfl⟩ := h
      exact ⟨Nat.le_refl _, by simp, ⟨x.2, by simp, hx⟩, fun j y hj => by omega⟩
    · simp only [hx, if_false, Option.map_eq_some_iff] at h
      obtain ⟨⟨d', b'⟩, h1, h2⟩ := h
      simp only [Prod.mk.injEq] at h2
      obtain ⟨rfl, rfl⟩ := h2
      obtain ⟨q1, q2, ⟨m, q3, q4⟩, q5⟩ := fstAt_some h1
      refine ⟨by omega, by simp; omega, ⟨m, ?_, q4⟩, fun j y hj hy => ?_⟩
      · rw [show d' + 1 - 1 = (d' - 1) + 1 from by omega, List.getElem?_cons_succ]
        exact q3
      · rcases j with _ | j
        · simp at hy
          subst hy
          omega
        · rw [List.getElem?_cons_succ] at hy
          exact q5 j y (by omega) hy

/-- The node of a place on a level's trail: the last one up to p that stands so high (0: the head). -/
def IsTr (ns : List Nd) (i p k : Nat) : Prop := k ≤ p ∧ (k = 0 ∨ ∃ x, ns[k - 1]? = some x ∧ i < lv x.2) ∧ fstAt lv i ((ns.take p).drop k) = none

/-- Does the node of a place stand on a level? -/
def OnLv (ns : List Nd) (i k : Nat) : Prop := k = 0 ∨ ∃ x, ns[k - 1]? = some x ∧ i < lv x.2

variable {lv} {ns : List Nd} {i p k : Nat}

theorem take_drop_split (hk : k ≤ p) (hp : p ≤ ns.length) : ns.drop k = (ns.take p).drop k ++ ns.drop p := by
  conv => lhs; rw [← List.take_append_drop p ns]
  rw [List.drop_append, List.length_take, Nat.min_eq_left hp, show k - p = 0 from by omega, List.drop_zero]

theorem seg_len (hk : k ≤ p) (hp : p ≤ ns.length) : ((ns.take p).drop k).length = p - k := by
  rw [List.length_drop, List.length_take]; omega

/-- The way of the trail's node: to the first one behind p. -/
theorem IsTr.way (h : IsTr lv ns i p k) (hp : p ≤ ns.length) : fstAt lv i (ns.drop k) = (fstAt lv i (ns.drop p)).map fun r => (r.1 + (p - k), r.2) := by
  rw [take_drop_split h.1 hp, fstAt_append, h.2.2, seg_len h.1 hp]

/-- A node on the level up to p whose way leads beyond p, or nowhere, is the trail's. -/
theorem IsTr.of_way (hk : k ≤ p) (hl : OnLv lv ns i k) (h : ∀ d b, fstAt lv i (ns.drop k) = some (d, b) → p < k + d) : IsTr lv ns i p k := by
  refine ⟨hk, hl, ?_⟩
  cases hq : fstAt lv i ((ns.take p).drop k) with
  | none => rfl
  | some r =>
    obtain ⟨d, b⟩ := r
    obtain ⟨q1, q2, _⟩ := fstAt_some lv hq
    have hd : d ≤ p - k := by
      rw [List.length_drop, List.length_take] at q2
      omega
    have e : fstAt lv i (ns.drop k) = some (d, b) := by
      by_cases hp : p ≤ ns.length
      · rw [take_drop_split hk hp, fstAt_append, hq]
      · rw [List.take_of_length_le (by omega)] at hq
        exact hq
    have := h d b e
    omega

/-- There is one trail node alone. -/
theorem IsTr.unique {k' : Nat} (h : IsTr lv ns i p k) (h' : IsTr lv ns i p k') : k = k' := by
  have key : ∀ {a b : Nat}, IsTr lv ns i p a → IsTr lv ns i p b → ¬ a < b := fun {a b} ha hb hlt => by
    obtain ⟨b1, b2, _⟩ := hb
    rcases b2 with b2 | ⟨x, b2, b3⟩
    · omega
    · have := (fstAt_none lv).1 ha.2.2 x (List.mem_iff_getElem?.2 ⟨b - 1 - a, by rw [List.getElem?_drop, List.getElem?_take, if_pos (by omega), show a + (b - 1 - a) = b - 1 from by omega]; exact b2⟩)
      omega
  have h1 := key h h'
  have h2 := key h' h
  omega

/-- A node on the level that stands up to p and is not the trail's: its way ends up to p. -/
theorem way_before {k' : Nat} (h : IsTr lv ns i p k') (hk : k ≤ p) (hl : OnLv lv ns i k) (hne : k ≠ k') : ∃ r, fstAt lv i ((ns.take p).drop k) = some r := by
  cases hq : fstAt lv i ((ns.take p).drop k) with
  | some r => exact ⟨r, rfl⟩
  | none => exact absurd (IsTr.unique ⟨hk, hl, hq⟩ h) hne

/-! ### a node is laid at a place -/
theorem insAt_take (hp : p ≤ ns.length) (y : Nd) : (insAt ns p y).take p = ns.take p := by
  unfold insAt
  rw [List.take_append_of_le_length (by rw [List.length_take]; omega), List.take_take, Nat.min_self]

theorem insAt_drop_le (hk : k ≤ p) (hp : p ≤ ns.length) (y : Nd) : (insAt ns p y).drop k = (ns.take p).drop k ++ y :: ns.drop p := by
  unfold insAt
  rw [List.drop_append, List.length_take, Nat.min_eq_left hp, show k - p = 0 from by omega, List.drop_zero]

theorem insAt_drop_gt (hk : p < k) (hp : p ≤ ns.length) (y : Nd) : (insAt ns p y).drop k = ns.drop (k - 1) := by
  unfold insAt
  rw [List.drop_append, List.length_take, Nat.min_eq_left hp, List.drop_of_length_le (by rw [List.length_take]; omega), List.nil_append, show k - p = (k - 1 - p) + 1 from by omega, List.drop_succ_cons, List.drop_drop]
  congr 1
  omega

/-- Ways of nodes ahead that aren't the trail's stay. -/
theorem lay_way_other {k' : Nat} (y : Nd) (h : IsTr lv ns i p k') (hk : k ≤ p) (hl : OnLv lv ns i k) (hne : k ≠ k') (hp : p ≤ ns.length) : fstAt lv i ((insAt ns p y).drop k) = fstAt lv i (ns.drop k) := by
  obtain ⟨r, hr⟩ := way_before h hk hl hne
  rw [insAt_drop_le hk hp, take_drop_split hk hp, fstAt_append, fstAt_append, hr]

/-- The trail's way leads to the new node, if it stands so high; else one place further. -/
theorem lay_way_tr (y : Nd) (h : IsTr lv ns i p k) (hp : p ≤ ns.length) :
    fstAt lv i ((insAt ns p y).drop k) = if i < lv y.2 then some (p + 1 - k, y.1) else (fstAt lv i (ns.drop k)).map fun r => (r.1 + 1, r.2) := by
  rw [insAt_drop_le h.1 hp, fstAt_append, h.2.2, seg_len h.1 hp, h.way hp]
  have := h.1
  rw [fstAt_cons]
  by_cases hy : i < lv y.2
  · simp only [hy, if_true, Option.map_some]
    congr 2
    omega
  · simp only [hy, if_false]
    cases fstAt lv i (ns.drop p) with
    | none => rfl
    | some r =>
      simp only [Option.map_some]
      congr 2
      omega

/-- The new node's own way. -/
theorem lay_way_new (y : Nd) (hp : p ≤ ns.length) : (insAt ns p y).drop (p + 1) = ns.drop p := by
  rw [insAt_drop_gt (by omega) hp]
  rfl

/-- The trail behind the new node. -/
theorem lay_tr (y : Nd) (h : IsTr lv ns i p k) (hp : p ≤ ns.length) : IsTr lv (insAt ns p y) i (p + 1) (if i < lv y.2 then p + 1 else k) := by
  have hy : (insAt ns p y)[p]? = some y := by rw [insAt_get hp, if_neg (by omega), if_pos rfl]
  by_cases hl : i < lv y.2
  · rw [if_pos hl]
    refine ⟨Nat.le_refl _, Or.inr ⟨y, hy, hl⟩, ?_⟩
    rw [List.drop_of_length_le (by rw [List.length_take]; omega)]
    rfl
  · rw [if_neg hl]
    refine IsTr.of_way (by have := h.1; omega) ?_ ?_
    · rcases h.2.1 with h2 | ⟨x, h2, h3⟩
      · exact Or.inl h2
      · rcases Nat.eq_zero_or_pos k with h0 | h0
        · exact Or.inl h0
        · exact Or.inr ⟨x, by rw [insAt_get hp, if_pos (by have := h.1; omega)]; exact h2, h3⟩
    · intro d b e
      rw [lay_way_tr y h hp, if_neg hl, h.way hp] at e
      have := h.1
      cases hq : fstAt lv i (ns.drop p) with
      | none => rw [hq] at e; cases e
      | some r =>
        rw [hq] at e
        simp only [Option.map_some, Option.some.injEq, Prod.mk.injEq] at e
        have := (fstAt_some lv (show fstAt lv i (ns.drop p) = some (r.1, r.2) from hq)).1
        omega

/-! ### the node behind a place is taken out -/
theorem del_as_ins {y : Nd} (hy : ns[p]? = some y) : ns = insAt (delAt ns p) p y := by
  have hp : p < ns.length := (List.getElem?_eq_some_iff.1 hy).1
  have e : ns[p] = y := (List.getElem?_eq_some_iff.1 hy).2
  unfold insAt delAt
  rw [List.take_append_of_le_length (by rw [List.length_take]; omega), List.take_take, Nat.min_self, List.drop_append, List.length_take, Nat.min_eq_left (by omega), List.drop_of_length_le (by rw [List.length_take]; omega), List.nil_append, Nat.sub_self, List.drop_zero]
  rw [← e, ← List.drop_eq_getElem_cons hp, List.take_append_drop]

/-- The trail of p is that of the row without the node behind p. -/
theorem del_tr (hp : p < ns.length) (h : IsTr lv ns i p k) : IsTr lv (delAt ns p) i p k := by
  have e : (delAt ns p).take p = ns.take p := by
    unfold delAt
    rw [List.take_append_of_le_length (by rw [List.length_take]; omega), List.take_take, Nat.min_self]
  refine ⟨h.1, ?_, by rw [e]; exact h.2.2⟩
  rcases h.2.1 with h2 | ⟨x, h2, h3⟩
  · exact Or.inl h2
  · rcases Nat.eq_zero_or_pos k with h0 | h0
    · exact Or.inl h0
    · exact Or.inr ⟨x, by rw [delAt_get hp, if_pos (by have := h.1; omega)]; exact h2, h3⟩

end

end Go.Proofs.YtcbiiioglklpoaaDoor
