/-
  Plain facts on hash tables that move bit by bit: how many keys there are, how the table grows and shrinks; that values play no part; all keys in order. No program.
-/
import Derived.Test.YtcjoakbaldeaoaaTaA
namespace Go.Proofs.Ytcjoakbaldeaoaa

section
variable {α β : Type} (h : List UInt8 → Nat)

/-- How many there are in a row of rows. -/
def cnt {γ : Type} : List (List γ) → Nat
  | [] => 0
  | l :: R => l.length + cnt R

theorem cnt_flatten {γ : Type} : ∀ R : List (List γ), R.flatten.length = cnt R
  | [] => rfl
  | l :: R => by rw [List.flatten_cons, List.length_append, cnt_flatten R, cnt]

theorem cnt_modify {γ : Type} (f : List γ → List γ) : ∀ (R : List (List γ)) (i : Nat), i < R.length → cnt (R.modify i f) + (R.getD i []).length = cnt R + (f (R.getD i [])).length
  | [], i, hi => absurd hi (Nat.not_lt_zero i)
  | l :: R, 0, _ => by
    simp only [List.modify_zero_cons, cnt, List.getD_cons_zero]
    omega
  | l :: R, i + 1, hi => by
    have ih := cnt_modify f R i (by simpa using hi)
    simp only [List.modify_succ_cons, cnt, List.getD_cons_succ]
    omega

theorem cnt_set {γ : Type} : ∀ (R : List (List γ)) (i : Nat), i < R.length → cnt (R.set i []) + (R.getD i []).length = cnt R
  | [], i, hi => absurd hi (Nat.not_lt_zero i)
  | l :: R, 0, _ => by
    simp only [List.set_cons_zero, cnt, List.getD_cons_zero, List.length_nil]
    omega
  | l :: R, i + 1, hi => by
    have ih := cnt_set R i (by simpa using hi)
    simp only [List.set_cons_succ, cnt, List.getD_cons_succ]
    omega

theorem cnt_blank {γ : Type} (n : Nat) : cnt (List.replicate n ([] : List γ)) = 0 := by
  induction n with
  | zero => rfl
  | succ n ih => rw [List.replicate_succ, cnt, ih]; rfl

theorem cnt_zero {γ : Type} : ∀ R : List (List γ), (∀ i, i < R.length → R.getD i [] = []) → cnt R = 0
  | [], _ => rfl
  | l :: R, he => by
    have h0 := he 0 (by simp)
    rw [List.getD_cons_zero] at h0
    rw [cnt, h0, cnt_zero R (fun i hi => by have := he (i + 1) (by simpa using hi); rwa [List.getD_cons_succ] at this)]
    rfl

theorem cnt_spread (l : List (List UInt8 × α)) : ∀ B : List (List (List UInt8 × α)), 0 < B.length → cnt (spread h B l) = cnt B + l.length := by
  induction l with
  | nil => intro B _; rfl
  | cons x l ih =>
    intro B hB
    show cnt (spread h (B.modify (h x.1 % B.length) (· ++ [x])) l) = _
    rw [ih _ (by rw [List.length_modify]; exact hB)]
    have := cnt_modify (· ++ [x]) B (h x.1 % B.length) (Nat.mod_lt _ hB)
    rw [List.length_append, List.length_singleton] at this
    rw [List.length_cons]
    omega

theorem setL_length (k : List UInt8) (v : α) (l : List (List UInt8 × α)) : (setL l k v).length = l.length := by
  have := congrArg List.length (setL_keys k v l)
  rwa [List.length_map, List.length_map] at this

theorem delL_length (k : List UInt8) : ∀ l : List (List UInt8 × α), (seekL l k).isSome = true → (delL l k).length + 1 = l.length
  | [], hs => by cases hs
  | x :: l, hs => by
    rw [delL]
    by_cases hx : x.1 = k
    · rw [if_pos hx, List.length_cons]
    · rw [if_neg hx, List.length_cons, List.length_cons, delL_length k l (by
        unfold seekL at hs ⊢
        rwa [List.find?_cons_of_neg (by simpa using hx)] at hs)]

/-- So many keys as the table says. -/
def Counts (t : Tb α) : Prop := cnt t.A + cnt t.B = t.n

theorem counts_step {t : Tb α} (hk : Kept h t) (hc : Counts t) : Counts (stepT h t) := by
  unfold stepT
  by_cases hB : t.B.length = 0
  · rw [if_pos hB]; exact hc
  rw [if_neg hB]
  have hm := hk.mv hB
  have hBp : 0 < t.B.length := Nat.pos_of_ne_zero hB
  have hc : cnt t.A + cnt t.B = t.n := hc
  by_cases hlast : t.moved + 1 = t.A.length
  · rw [if_pos hlast]
    show cnt (spread h t.B (t.A.getD t.moved [])) + cnt (if _ then _ else _) = t.n
    have h1 := cnt_set t.A t.moved hm
    have h2 : cnt (t.A.set t.moved []) = 0 := cnt_zero _ fun i hi => by
      rw [List.length_set] at hi
      rw [List.getD_eq_getElem?_getD, List.getElem?_set]
      by_cases e : t.moved = i
      · rw [if_pos e, if_pos hm]; rfl
      · rw [if_neg e, ← List.getD_eq_getElem?_getD]; exact hk.empty i (by omega)
    rw [cnt_spread h _ _ hBp]
    split
    · rw [cnt_blank]; omega
    · show cnt t.B + _ + 0 = t.n; omega
  · rw [if_neg hlast]
    show cnt (t.A.set t.moved []) + cnt (spread h t.B (t.A.getD t.moved [])) = t.n
    have h1 := cnt_set t.A t.moved hm
    rw [cnt_spread h _ _ hBp]
    omega

theorem counts_put {t : Tb α} (hk : Kept h t) (hc : Counts t) (k : List UInt8) (v : α) : Counts (putS h t k v) := by
  have hc : cnt t.A + cnt t.B = t.n := hc
  unfold putS
  by_cases hA : (seekR h t.A k).isSome = true
  · rw [if_pos hA]
    have := cnt_modify (setL · k v) t.A (h k % t.A.length) (Nat.mod_lt _ hk.pos)
    rw [setL_length] at this
    show cnt (t.A.modify _ _) + cnt t.B = t.n
    omega
  rw [if_neg hA]
  by_cases hB : (seekR h t.B k).isSome = true
  · rw [if_pos hB]
    have := cnt_modify (setL · k v) t.B (h k % t.B.length) (Nat.mod_lt _ (seekR_isSome h hB))
    rw [setL_length] at this
    show cnt t.A + cnt (t.B.modify _ _) = t.n
    omega
  rw [if_neg hB]
  by_cases hz : t.B.length = 0
  · rw [if_pos hz]
    have := cnt_modify (· ++ [(k, v)]) t.A (h k % t.A.length) (Nat.mod_lt _ hk.pos)
    rw [List.length_append, List.length_singleton] at this
    have hb0 : cnt t.B = 0 := by rw [List.length_eq_zero_iff.1 hz]; rfl
    show cnt (t.A.modify _ _) + cnt (if _ then _ else _) = t.n + 1
    split
    · rw [cnt_blank]; omega
    · show _ + 0 = _; omega
  · rw [if_neg hz]
    have := cnt_modify (· ++ [(k, v)]) t.B (h k % t.B.length) (Nat.mod_lt _ (Nat.pos_of_ne_zero hz))
    rw [List.length_append, List.length_singleton] at this
    show cnt t.A + cnt (t.B.modify _ _) = t.n + 1
    omega

theorem counts_del {t : Tb α} (hk : Kept h t) (hc : Counts t) (k : List UInt8) : Counts (delS h t k) := by
  have hc : cnt t.A + cnt t.B = t.n := hc
  unfold delS
  by_cases hA : (seekR h t.A k).isSome = true
  · rw [if_pos hA]
    have := cnt_modify (delL · k) t.A (h k % t.A.length) (Nat.mod_lt _ hk.pos)
    have hl := delL_length k _ (show (seekL (t.A.getD (h k % t.A.length) []) k).isSome = true from hA)
    show cnt (t.A.modify _ _) + cnt (if _ then _ else _) = t.n - 1
    split
    · rename_i hz
      have hb0 : cnt t.B = 0 := by rw [List.length_eq_zero_iff.1 hz.1]; rfl
      rw [cnt_blank]
      omega
    · omega
  rw [if_neg hA]
  by_cases hB : (seekR h t.B k).isSome = true
  · rw [if_pos hB]
    have := cnt_modify (delL · k) t.B (h k % t.B.length) (Nat.mod_lt _ (seekR_isSome h hB))
    have hl := delL_length k _ (show (seekL (t.B.getD (h k % t.B.length) []) k).isSome = true from hB)
    show cnt t.A + cnt (t.B.modify _ _) = t.n - 1
    omega
  · rw [if_neg hB]; exact hc

/-- How a table grows and shrinks. -/
structure Grows (t : Tb α) : Prop where
  pw : ∃ i, 2 ≤ i ∧ t.A.length = 2 ^ i
  two : t.B.length = 0 ∨ t.B.length = 2 * t.A.length ∨ (2 * t.B.length = t.A.length ∧ 4 ≤ t.B.length)
  full : t.B.length = 0 → t.n ≤ t.A.length

theorem grows_new : Grows (newT : Tb α) := ⟨⟨2, Nat.le_refl 2, rfl⟩, Or.inl rfl, fun _ => Nat.zero_le 4⟩

theorem grows_step {t : Tb α} (hg : Grows t) : Grows (stepT h t) := by
  unfold stepT
  by_cases hB : t.B.length = 0
  · rw [if_pos hB]; exact hg
  rw [if_neg hB]
  obtain ⟨i, hi, hA⟩ := hg.pw
  by_cases hlast : t.moved + 1 = t.A.length
  · rw [if_pos hlast]
    refine ⟨?_, ?_, ?_⟩
    · show ∃ i, 2 ≤ i ∧ (spread h t.B (t.A.getD t.moved [])).length = 2 ^ i
      rw [spread_length]
      rcases hg.two with h0 | h2 | ⟨h2, h4⟩
      · exact absurd h0 hB
      · exact ⟨i + 1, by omega, by rw [h2, hA, Nat.pow_succ]; omega⟩
      · obtain ⟨j, rfl⟩ : ∃ j, i = j + 1 := ⟨i - 1, by omega⟩
        rw [Nat.pow_succ] at hA
        have hj : t.B.length = 2 ^ j := by omega
        refine ⟨j, ?_, hj⟩
        rcases Nat.lt_or_ge j 2 with q | q
        · exfalso
          have : j = 0 ∨ j = 1 := by omega
          rcases this with rfl | rfl
          · rw [hj] at h4; exact absurd h4 (by decide)
          · rw [hj] at h4; exact absurd h4 (by decide)
        · exact q
    · show (if _ then _ else _ : List _).length = 0 ∨ (if _ then _ else _ : List _).length = 2 * (spread h t.B (t.A.getD t.moved [])).length ∨ _
      rw [spread_length]
      split
      · right; left; rw [List.length_replicate]
      · left; rfl
    · show (if _ then _ else _ : List _).length = 0 → t.n ≤ (spread h t.B (t.A.getD t.moved [])).length
      rw [spread_length]
      split
      · intro h0
        rw [List.length_replicate] at h0
        omega
      · intro _; omega
  · rw [if_neg hlast]
    refine ⟨⟨i, hi, by rw [List.length_set]; exact hA⟩, ?_, fun h0 => ?_⟩
    · show (spread h t.B (t.A.getD t.moved [])).length = 0 ∨ (spread h t.B (t.A.getD t.moved [])).length = 2 * (t.A.set t.moved []).length ∨ (2 * (spread h t.B (t.A.getD t.moved [])).length = (t.A.set t.moved []).length ∧ _)
      rw [spread_length, List.length_set]
      exact hg.two
    · rw [spread_length] at h0; exact absurd h0 hB

theorem grows_put {t : Tb α} (hg : Grows t) (k : List UInt8) (v : α) : Grows (putS h t k v) := by
  obtain ⟨i, hi, hA⟩ := hg.pw
  unfold putS
  split
  · refine ⟨⟨i, hi, by rw [List.length_modify]; exact hA⟩, ?_, ?_⟩
    · rw [List.length_modify]; exact hg.two
    · rw [List.length_modify]; exact hg.full
  · split
    · refine ⟨⟨i, hi, hA⟩, ?_, ?_⟩
      · rw [List.length_modify]; exact hg.two
      · rw [List.length_modify]; exact hg.full
    · split
      · refine ⟨⟨i, hi, by rw [List.length_modify]; exact hA⟩, ?_, ?_⟩
        · rw [List.length_modify]
          show (if _ then _ else _ : List _).length = 0 ∨ (if _ then _ else _ : List _).length = _ ∨ _
          split
          · right; left; rw [List.length_replicate]
          · left; rfl
        · rw [List.length_modify]
          show (if _ then _ else _ : List _).length = 0 → t.n + 1 ≤ t.A.length
          split
          · intro h0
            rw [List.length_replicate] at h0
            have := Nat.two_pow_pos i
            omega
          · intro _; omega
      · rename_i hz
        refine ⟨⟨i, hi, hA⟩, ?_, fun h0 => ?_⟩
        · rw [List.length_modify]; exact hg.two
        · rw [List.length_modify] at h0; exact absurd h0 hz

theorem pow_half {i : Nat} (hi : 2 ≤ i) (h4 : 4 < 2 ^ i) : 2 * (2 ^ i / 2) = 2 ^ i ∧ 4 ≤ 2 ^ i / 2 := by
  obtain ⟨j, rfl⟩ : ∃ j, i = j + 1 := ⟨i - 1, by omega⟩
  rw [Nat.pow_succ] at h4 ⊢
  have hj : 2 ≤ j := by
    rcases Nat.lt_or_ge j 2 with q | q
    · have : j = 1 := by omega
      subst this
      exact absurd h4 (by decide)
    · exact q
  have : 2 ^ 2 ≤ 2 ^ j := Nat.pow_le_pow_right (by decide) hj
  omega

theorem grows_del {t : Tb α} (hg : Grows t) (k : List UInt8) : Grows (delS h t k) := by
  obtain ⟨i, hi, hA⟩ := hg.pw
  unfold delS
  split
  · refine ⟨⟨i, hi, by rw [List.length_modify]; exact hA⟩, ?_, ?_⟩
    · rw [List.length_modify]
      show (if _ then _ else _ : List _).length = 0 ∨ (if _ then _ else _ : List _).length = _ ∨ _
      split
      · rename_i hc
        rw [List.length_replicate, hA]
        rw [hA] at hc
        exact Or.inr (Or.inr (pow_half hi hc.2.1))
      · exact hg.two
    · rw [List.length_modify]
      show (if _ then _ else _ : List _).length = 0 → t.n - 1 ≤ t.A.length
      split
      · rename_i hc
        intro h0
        rw [List.length_replicate, hA] at h0
        rw [hA] at hc
        have := pow_half hi hc.2.1
        omega
      · intro h0; have := hg.full h0; omega
  · split
    · refine ⟨⟨i, hi, hA⟩, ?_, fun h0 => ?_⟩
      · rw [List.length_modify]; exact hg.two
      · rw [List.length_modify] at h0
        show t.n - 1 ≤ t.A.length
        have := hg.full h0
        omega
    · exact hg

/-! Values play no part. -/

def mapL (f : α → β) (l : List (List UInt8 × α)) : List (List UInt8 × β) := l.map fun x => (x.1, f x.2)
def mapR (f : α → β) (R : List (List (List UInt8 × α))) : List (List (List UInt8 × β)) := R.map (mapL f)
def mapT (f : α → β) (t : Tb α) : Tb β := ⟨mapR f t.A, mapR f t.B, t.moved, t.n⟩

theorem mapR_length (f : α → β) (R : List (List (List UInt8 × α))) : (mapR f R).length = R.length := List.length_map _

theorem seekL_map (f : α → β) (l : List (List UInt8 × α)) (k : List UInt8) : seekL (mapL f l) k = (seekL l k).map f := by
  induction l with
  | nil => rfl
  | cons x l ih =>
    unfold seekL mapL at ih ⊢
    rw [List.map_cons]
    by_cases hx : x.1 = k
    · rw [List.find?_cons_of_pos (by simpa using hx), List.find?_cons_of_pos (by simpa using hx)]; rfl
    · rw [List.find?_cons_of_neg (by simpa using hx), List.find?_cons_of_neg (by simpa using hx)]; exact ih

theorem getD_map (f : α → β) (R : List (List (List UInt8 × α))) (i : Nat) : (mapR f R).getD i [] = mapL f (R.getD i []) := by
  unfold mapR
  rw [List.getD_eq_getElem?_getD, List.getElem?_map, List.getD_eq_getElem?_getD]
  cases R[i]? <;> rfl

theorem seekR_map (f : α → β) (R : List (List (List UInt8 × α))) (k : List UInt8) : seekR h (mapR f R) k = (seekR h R k).map f := by
  unfold seekR
  rw [mapR_length, getD_map, seekL_map]

theorem setL_map (f : α → β) (k : List UInt8) (v : α) : ∀ l : List (List UInt8 × α), setL (mapL f l) k (f v) = mapL f (setL l k v)
  | [] => rfl
  | x :: l => by
    have ih := setL_map f k v l
    unfold mapL at ih ⊢
    rw [List.map_cons, setL, setL]
    dsimp only
    split
    · rfl
    · rw [ih]; rfl

theorem delL_map (f : α → β) (k : List UInt8) : ∀ l : List (List UInt8 × α), delL (mapL f l) k = mapL f (delL l k)
  | [] => rfl
  | x :: l => by
    have ih := delL_map f k l
    unfold mapL at ih ⊢
    rw [List.map_cons, delL, delL]
    dsimp only
    split
    · rfl
    · rw [ih]; rfl

theorem modify_map (f : α → β) (g : List (List UInt8 × α) → List (List UInt8 × α)) (g' : List (List UInt8 × β) → List (List UInt8 × β)) (hg : ∀ l, g' (mapL f l) = mapL f (g l)) : ∀ (R : List (List (List UInt8 × α))) (i : Nat), (mapR f R).modify i g' = mapR f (R.modify i g)
  | [], i => by cases i <;> rfl
  | l :: R, 0 => by
    show (mapL f l :: mapR f R).modify 0 g' = mapL f (g l) :: mapR f R
    rw [List.modify_zero_cons, hg]
  | l :: R, i + 1 => by
    show (mapL f l :: mapR f R).modify (i + 1) g' = _
    rw [List.modify_succ_cons, modify_map f g g' hg R i, List.modify_succ_cons]
    rfl

theorem spread_map (f : α → β) (l : List (List UInt8 × α)) : ∀ B : List (List (List UInt8 × α)), spread h (mapR f B) (mapL f l) = mapR f (spread h B l) := by
  induction l with
  | nil => intro B; rfl
  | cons x l ih =>
    intro B
    show spread h ((mapR f B).modify (h x.1 % (mapR f B).length) (· ++ [(x.1, f x.2)])) (mapL f l) = mapR f (spread h (B.modify (h x.1 % B.length) (· ++ [x])) l)
    rw [mapR_length, modify_map f (· ++ [x]) (· ++ [(x.1, f x.2)]) (fun l => by unfold mapL; rw [List.map_append]; rfl), ih]

theorem mapR_blank (f : α → β) (n : Nat) : mapR f (List.replicate n []) = List.replicate n [] := by
  unfold mapR
  rw [List.map_replicate]
  rfl

theorem step_map (f : α → β) (t : Tb α) : stepT h (mapT f t) = mapT f (stepT h t) := by
  unfold stepT
  show (if (mapR f t.B).length = 0 then mapT f t else if t.moved + 1 = (mapR f t.A).length then (⟨spread h (mapR f t.B) ((mapR f t.A).getD t.moved []), if (mapR f t.B).length < t.n then List.replicate (2 * (mapR f t.B).length) [] else [], 0, t.n⟩ : Tb β) else ⟨(mapR f t.A).set t.moved [], spread h (mapR f t.B) ((mapR f t.A).getD t.moved []), t.moved + 1, t.n⟩) = _
  rw [mapR_length, mapR_length, getD_map, spread_map]
  by_cases hB : t.B.length = 0
  · rw [if_pos hB, if_pos hB]
  · rw [if_neg hB, if_neg hB]
    by_cases hl : t.moved + 1 = t.A.length
    · rw [if_pos hl, if_pos hl]
      unfold mapT
      dsimp only
      congr 1
      split
      · rw [mapR_blank]
      · rfl
    · rw [if_neg hl, if_neg hl]
      unfold mapT
      dsimp only
      congr 1
      unfold mapR
      rw [List.map_set]
      rfl

theorem put_map (f : α → β) (t : Tb α) (k : List UInt8) (v : α) : putS h (mapT f t) k (f v) = mapT f (putS h t k v) := by
  unfold putS
  have e1 : ∀ R : List (List (List UInt8 × α)), (seekR h (mapR f R) k).isSome = (seekR h R k).isSome := fun R => by rw [seekR_map]; cases seekR h R k <;> rfl
  have e2 := modify_map f (setL · k v) (setL · k (f v)) (fun l => setL_map f k v l)
  have e3 := modify_map f (· ++ [(k, v)]) (· ++ [(k, f v)]) (fun l => by unfold mapL; rw [List.map_append]; rfl)
  unfold mapT
  dsimp only
  rw [e1, e1, mapR_length, mapR_length, e2, e2, e3, e3]
  split
  · rfl
  · split
    · rfl
    · split
      · dsimp only
        congr 1
        split
        · rw [mapR_blank]
        · rfl
      · rfl

theorem del_map (f : α → β) (t : Tb α) (k : List UInt8) : delS h (mapT f t) k = mapT f (delS h t k) := by
  unfold delS
  have e1 : ∀ R : List (List (List UInt8 × α)), (seekR h (mapR f R) k).isSome = (seekR h R k).isSome := fun R => by rw [seekR_map]; cases seekR h R k <;> rfl
  have e2 := modify_map f (delL · k) (delL · k) (fun l => delL_map f k l)
  unfold mapT
  dsimp only
  rw [e1, e1, mapR_length, mapR_length, e2, e2]
  split
  · dsimp only
    congr 1
    split
    · rw [mapR_blank]
    · rfl
  · split
    · rfl
    · rfl

theorem look_map (f : α → β) (t : Tb α) (k : List UInt8) : lookT h (mapT f t) k = (lookT h t k).map f := by
  unfold lookT mapT
  dsimp only
  rw [seekR_map, seekR_map]
  cases seekR h t.A k <;> rfl

theorem new_map (f : α → β) : mapT f (newT : Tb α) = newT := rfl

/-- All keys and values, in order. -/
def allT (t : Tb α) : List (List UInt8 × α) := t.A.flatten ++ t.B.flatten

theorem all_length {t : Tb α} (hc : Counts t) : (allT t).length = t.n := by
  unfold allT
  rw [List.length_append, cnt_flatten, cnt_flatten]
  exact hc

theorem all_map (f : α → β) (t : Tb α) : allT (mapT f t) = mapL f (allT t) := by
  unfold allT mapT mapL
  dsimp only
  rw [List.map_append]
  unfold mapR mapL
  rw [List.map_flatten, List.map_flatten]

end

end Go.Proofs.Ytcjoakbaldeaoaa
