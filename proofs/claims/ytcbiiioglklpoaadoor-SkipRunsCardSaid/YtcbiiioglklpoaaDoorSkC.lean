/-
  Plain theory of members by their texts, of ranges of scores. No program's code.
-/
import Derived.Test.YtcbiiioglklpoaaDoorSkB
namespace Go.Proofs.YtcbiiioglklpoaaDoor

/-- No two have one text. -/
abbrev Each (L : List Mb) : Prop := (L.map (·.1)).Nodup

/-- The place of a member. -/
def fndM (L : List Mb) (m : List UInt8) : Option Nat := L.findIdx? fun x => decide (x.1 = m)

theorem fndM_some {L : List Mb} {m : List UInt8} {k : Nat} (h : fndM L m = some k) : ∃ n, L[k]? = some (m, n) ∧ k < L.length := by
  unfold fndM at h
  obtain ⟨h1, h2, _⟩ := List.findIdx?_eq_some_iff_getElem.1 h
  have e := of_decide_eq_true h2
  exact ⟨L[k].2, by rw [List.getElem?_eq_getElem h1, ← e], h1⟩
theorem fndM_first {L : List Mb} {m : List UInt8} {k : Nat} (h : fndM L m = some k) {j : Nat} {x : Mb} (hj : j < k) (hx : L[j]? = some x) : x.1 ≠ m := by
  unfold fndM at h
  obtain ⟨h1, _, h3⟩ := List.findIdx?_eq_some_iff_getElem.1 h
  have := h3 j hj
  obtain ⟨h4, rfl⟩ := List.getElem?_eq_some_iff.1 hx
  simpa using this
theorem fndM_none {L : List Mb} {m : List UInt8} : fndM L m = none ↔ m ∉ L.map (·.1) := by
  unfold fndM
  rw [List.findIdx?_eq_none_iff]
  simp only [decide_eq_false_iff_not, List.mem_map, not_exists, not_and]

theorem Each.one {L : List Mb} (h : Each L) {i j : Nat} {x y : Mb} (hx : L[i]? = some x) (hy : L[j]? = some y) (e : x.1 = y.1) : i = j := by
  obtain ⟨h1, rfl⟩ := List.getElem?_eq_some_iff.1 hx
  obtain ⟨h2, rfl⟩ := List.getElem?_eq_some_iff.1 hy
  have key : ∀ {a b : Nat} (ha : a < L.length) (hb : b < L.length), a < b → L[a].1 ≠ L[b].1 := fun ha hb hab => by
    have := List.pairwise_iff_getElem.1 h _ _ (by simpa using ha) (by simpa using hb) hab
    simpa using this
  rcases Nat.lt_or_ge i j with q | q
  · exact absurd e (key h1 h2 q)
  · rcases Nat.lt_or_ge j i with q' | q'
    · exact absurd e.symm (key h2 h1 q')
    · omega

theorem Each.find {L : List Mb} (h : Each L) {k : Nat} {x : Mb} (hx : L[k]? = some x) : fndM L x.1 = some k := by
  cases hq : fndM L x.1 with
  | none => exact absurd (List.mem_map.2 ⟨x, List.mem_of_getElem? hx, rfl⟩) (fndM_none.1 hq)
  | some j =>
    obtain ⟨n, hn, _⟩ := fndM_some hq
    rw [h.one hx hn rfl]

theorem Each.ins {L : List Mb} (h : Each L) {x : Mb} (p : Nat) (hx : fndM L x.1 = none) : Each (insAt L p x) := by
  refine ((insAt_perm (L := L) (p := p) x).map (·.1)).nodup_iff.2 ?_
  rw [List.map_cons, List.nodup_cons]
  exact ⟨fndM_none.1 hx, h⟩

theorem delAt_sub (L : List Mb) (k : Nat) : (delAt L k).Sublist L := by
  unfold delAt
  conv => rhs; rw [← List.take_append_drop k L]
  refine List.Sublist.append (List.Sublist.refl _) ?_
  rw [← List.drop_drop]
  exact List.drop_sublist _ _

theorem Each.del {L : List Mb} (h : Each L) (k : Nat) : Each (delAt L k) := ((delAt_sub L k).map _).nodup h

theorem Each.find_del {L : List Mb} (h : Each L) {m : List UInt8} {k : Nat} (hk : fndM L m = some k) : fndM (delAt L k) m = none := by
  rw [fndM_none]
  intro hm
  obtain ⟨x, hx, e⟩ := List.mem_map.1 hm
  obtain ⟨j, hj⟩ := List.mem_iff_getElem?.1 hx
  obtain ⟨n, hn, hl⟩ := fndM_some hk
  rw [delAt_get hl] at hj
  split at hj
  · have := h.one hj hn e
    omega
  · have := h.one hj hn e
    omega

/-- What Put makes of a row. -/
def putM (L : List Mb) (m : List UInt8) (n : Int) : List Mb := match fndM L m with
  | some k => insAt (delAt L k) (rkM (m, n) (delAt L k)) (m, n)
  | none => insAt L (rkM (m, n) L) (m, n)

theorem not_mem_of_find {L : List Mb} {m : List UInt8} {n : Int} (h : fndM L m = none) : (m, n) ∉ L := fun e => fndM_none.1 h (List.mem_map.2 ⟨(m, n), e, rfl⟩)

/-- A row in order, each text once. -/
def Ord (L : List Mb) : Prop := InOrd L ∧ Each L

theorem Ord.nil : Ord [] := ⟨List.Pairwise.nil, List.Pairwise.nil⟩
theorem Ord.ins {L : List Mb} (h : Ord L) {m : List UInt8} (n : Int) (hm : fndM L m = none) : Ord (insAt L (rkM (m, n) L) (m, n)) :=
  ⟨h.1.ins (not_mem_of_find hm), h.2.ins (x := (m, n)) _ hm⟩
theorem Ord.del {L : List Mb} (h : Ord L) (k : Nat) : Ord (delAt L k) := ⟨h.1.del k, h.2.del k⟩
theorem Ord.put {L : List Mb} (h : Ord L) (m : List UInt8) (n : Int) : Ord (putM L m n) := by
  unfold putM
  cases hq : fndM L m with
  | none => exact h.ins n hq
  | some k => exact (h.del k).ins n (h.2.find_del hq)

theorem rkM_le (m : Mb) (L : List Mb) : rkM m L ≤ L.length := cntB_le _ L

/-- Put again what is there changes nothing. -/
theorem insAt_delAt {L : List Mb} {k : Nat} {x : Mb} (hk : L[k]? = some x) : insAt (delAt L k) k x = L := by
  have hp : k < L.length := (List.getElem?_eq_some_iff.1 hk).1
  have e : L[k] = x := (List.getElem?_eq_some_iff.1 hk).2
  unfold insAt delAt
  rw [List.take_append_of_le_length (by rw [List.length_take]; omega), List.take_take, Nat.min_self, List.drop_append, List.length_take, Nat.min_eq_left (by omega), List.drop_of_length_le (by rw [List.length_take]; omega), List.nil_append, Nat.sub_self, List.drop_zero]
  rw [← e, ← List.drop_eq_getElem_cons hp, List.take_append_drop]

theorem Ord.put_same {L : List Mb} (h : Ord L) {k : Nat} {m : List UInt8} {n : Int} (hk : L[k]? = some (m, n)) : putM L m n = L := by
  have hf := h.2.find hk
  refine InOrd.unique (h.put m n).1 h.1 ?_
  unfold putM
  rw [hf]
  exact (insAt_perm _).trans (by
    have := (insAt_perm (L := delAt L k) (p := k) (m, n)).symm
    rw [insAt_delAt hk] at this
    exact this)

theorem putM_length {L : List Mb} {m : List UInt8} {n : Int} : (putM L m n).length = if (fndM L m).isSome then L.length else L.length + 1 := by
  unfold putM
  cases hq : fndM L m with
  | none => rw [insAt_length (rkM_le _ _)]; rfl
  | some k =>
    obtain ⟨_, _, hl⟩ := fndM_some hq
    rw [insAt_length (rkM_le _ _), delAt_length hl]
    simp
    omega

/-! ### ranges of scores -/
structure Bd where
  n : Int
  open_ : Bool
  inf : Int

def abvB (n : Int) (b : Bd) : Bool := if b.inf = -1 then true else if b.inf = 1 then false else decide (b.n < n) || (!b.open_ && decide (n = b.n))
def blwB (n : Int) (b : Bd) : Bool := if b.inf = -1 then false else if b.inf = 1 then true else decide (n < b.n) || (!b.open_ && decide (n = b.n))
def inB (n : Int) (l h : Bd) : Bool := abvB n l && blwB n h

theorem abvB_mono {n m : Int} {b : Bd} (h : n ≤ m) (hn : abvB n b = true) : abvB m b = true := by
  unfold abvB at *
  split
  · rfl
  · rename_i h1
    rw [if_neg h1] at hn
    split
    · rename_i h2
      rw [if_pos h2] at hn
      cases hn
    · rename_i h2
      rw [if_neg h2] at hn
      simp at hn ⊢
      rcases hn with hn | ⟨hn, hn2⟩
      · exact Or.inl (by omega)
      · rcases (by omega : b.n < m ∨ m = b.n) with q | q
        · exact Or.inl q
        · exact Or.inr ⟨hn, q⟩
theorem blwB_mono {n m : Int} {b : Bd} (h : n ≤ m) (hn : blwB m b = true) : blwB n b = true := by
  unfold blwB at *
  split
  · rename_i h1
    rw [if_pos h1] at hn
    cases hn
  · rename_i h1
    rw [if_neg h1] at hn
    split
    · rfl
    · rename_i h2
      rw [if_neg h2] at hn
      simp at hn ⊢
      rcases hn with hn | ⟨hn, hn2⟩
      · exact Or.inl (by omega)
      · rcases (by omega : n < b.n ∨ n = b.n) with q | q
        · exact Or.inl q
        · exact Or.inr ⟨hn, q⟩

def fromM (l : Bd) (L : List Mb) : Nat := cntB (fun x => !abvB x.2 l) L
def uptoM (h : Bd) (L : List Mb) : Nat := cntB (fun x => blwB x.2 h) L
def toM (l h : Bd) (L : List Mb) : Nat := max (fromM l L) (uptoM h L)

theorem ahd_le {a b : Mb} (h : ahd a b = true) : a.2 ≤ b.2 := by rw [ahd_iff] at h; omega

theorem toM_le (l h : Bd) (L : List Mb) : toM l h L ≤ L.length := Nat.max_le.2 ⟨cntB_le _ _, cntB_le _ _⟩
theorem fromM_le (l h : Bd) (L : List Mb) : fromM l L ≤ toM l h L := Nat.le_max_left _ _

theorem fromM_down (l : Bd) : ∀ x y, ahd x y = true → (!abvB y.2 l) = true → (!abvB x.2 l) = true := fun x y h1 h2 => by
  cases hq : abvB x.2 l with
  | false => rfl
  | true =>
    rw [abvB_mono (ahd_le h1) hq] at h2
    cases h2
theorem uptoM_down (h : Bd) : ∀ x y, ahd x y = true → blwB y.2 h = true → blwB x.2 h = true := fun _ _ h1 h2 => blwB_mono (ahd_le h1) h2

theorem inB_iff {L : List Mb} (hL : InOrd L) (l h : Bd) {j : Nat} {x : Mb} (hx : L[j]? = some x) : inB x.2 l h = true ↔ fromM l L ≤ j ∧ j < toM l h L := by
  have h1 := cntB_iff hL (fromM_down l) hx
  have h2 := cntB_iff hL (uptoM_down h) hx
  change _ ↔ j < fromM l L at h1
  change _ ↔ j < uptoM h L at h2
  unfold inB toM
  cases ha : abvB x.2 l with
  | true =>
    rw [ha] at h1
    simp at h1
    rw [Bool.true_and, h2]
    omega
  | false =>
    rw [ha] at h1
    simp at h1
    simp
    omega

end Go.Proofs.YtcbiiioglklpoaaDoor
