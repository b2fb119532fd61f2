/-
  Plain facts: hash tables that move bit by bit, as rows of rows: what a call makes, and that a key's value is what was last put there. No program.
-/
import Derived.Test.YtcjoakbaldeaoaaProg
namespace Go.Proofs.Ytcjoakbaldeaoaa

section
variable {α : Type} (h : List UInt8 → Nat)

/-- A table: its buckets, those of the second row, how many were moved, how many keys. -/
structure Tb (α : Type) where
  A : List (List (List UInt8 × α))
  B : List (List (List UInt8 × α))
  moved : Nat
  n : Nat

def newT : Tb α := ⟨[[], [], [], []], [], 0, 0⟩

/-- Each goes behind its own bucket's. -/
def spread (B : List (List (List UInt8 × α))) (l : List (List UInt8 × α)) : List (List (List UInt8 × α)) := l.foldl (fun B x => B.modify (h x.1 % B.length) (· ++ [x])) B

/-- A bucket is moved, while the table moves. -/
def stepT (t : Tb α) : Tb α :=
  if t.B.length = 0 then t
  else if t.moved + 1 = t.A.length then
    ⟨spread h t.B (t.A.getD t.moved []), if t.B.length < t.n then List.replicate (2 * t.B.length) [] else [], 0, t.n⟩
  else ⟨t.A.set t.moved [], spread h t.B (t.A.getD t.moved []), t.moved + 1, t.n⟩

def seekL (l : List (List UInt8 × α)) (k : List UInt8) : Option α := (l.find? fun x => decide (x.1 = k)).map (·.2)

def seekR (R : List (List (List UInt8 × α))) (k : List UInt8) : Option α := seekL (R.getD (h k % R.length) []) k

/-- A key's value. -/
def lookT (t : Tb α) (k : List UInt8) : Option α := match seekR h t.A k with
  | some v => some v
  | none => seekR h t.B k

def setL (l : List (List UInt8 × α)) (k : List UInt8) (v : α) : List (List UInt8 × α) := match l with
  | [] => []
  | x :: l => if x.1 = k then (x.1, v) :: l else x :: setL l k v

def delL (l : List (List UInt8 × α)) (k : List UInt8) : List (List UInt8 × α) := match l with
  | [] => []
  | x :: l => if x.1 = k then l else x :: delL l k

/-- Put, behind the move. -/
def putS (t : Tb α) (k : List UInt8) (v : α) : Tb α :=
  if (seekR h t.A k).isSome then { t with A := t.A.modify (h k % t.A.length) (setL · k v) }
  else if (seekR h t.B k).isSome then { t with B := t.B.modify (h k % t.B.length) (setL · k v) }
  else if t.B.length = 0 then
    ⟨t.A.modify (h k % t.A.length) (· ++ [(k, v)]), if t.A.length < t.n + 1 then List.replicate (2 * t.A.length) [] else [], t.moved, t.n + 1⟩
  else { t with B := t.B.modify (h k % t.B.length) (· ++ [(k, v)]), n := t.n + 1 }

/-- Del, behind the move. -/
def delS (t : Tb α) (k : List UInt8) : Tb α :=
  if (seekR h t.A k).isSome then
    ⟨t.A.modify (h k % t.A.length) (delL · k), if t.B.length = 0 ∧ 4 < t.A.length ∧ (t.n - 1) * 8 < t.A.length then List.replicate (t.A.length / 2) [] else t.B, t.moved, t.n - 1⟩
  else if (seekR h t.B k).isSome then { t with B := t.B.modify (h k % t.B.length) (delL · k), n := t.n - 1 }
  else t

/-- Each key stands in its own bucket, once. -/
structure Row (R : List (List (List UInt8 × α))) : Prop where
  own : ∀ (i : Nat) (l : List (List UInt8 × α)), R[i]? = some l → ∀ x ∈ l, h x.1 % R.length = i
  once : ∀ (i : Nat) (l : List (List UInt8 × α)), R[i]? = some l → (l.map (·.1)).Nodup

/-- What every table keeps. -/
structure Kept (t : Tb α) : Prop where
  a : Row h t.A
  b : Row h t.B
  pos : 0 < t.A.length
  one : ∀ k, (seekR h t.A k).isSome = true → seekR h t.B k = none
  empty : ∀ (i : Nat), i < t.moved → t.A.getD i [] = []
  mv : t.B.length ≠ 0 → t.moved < t.A.length
  still : t.B.length = 0 → t.moved = 0

theorem seekL_nil (k : List UInt8) : seekL ([] : List (List UInt8 × α)) k = none := rfl

theorem seekL_none {l : List (List UInt8 × α)} {k : List UInt8} : seekL l k = none ↔ ∀ x ∈ l, x.1 ≠ k := by
  unfold seekL
  rw [Option.map_eq_none_iff, List.find?_eq_none]
  simp

theorem seekL_app (l m : List (List UInt8 × α)) (k : List UInt8) : seekL (l ++ m) k = match seekL l k with | some v => some v | none => seekL m k := by
  unfold seekL
  rw [List.find?_append]
  cases l.find? fun x => decide (x.1 = k) <;> rfl

theorem seekL_filter (p : List UInt8 × α → Bool) (l : List (List UInt8 × α)) (k : List UInt8) (hp : ∀ x ∈ l, x.1 = k → p x = true) : seekL (l.filter p) k = seekL l k := by
  induction l with
  | nil => rfl
  | cons x l ih =>
    have ih := ih (fun y hy => hp y (by simp [hy]))
    unfold seekL at ih ⊢
    by_cases hx : x.1 = k
    · rw [List.filter_cons_of_pos (hp x (by simp) hx), List.find?_cons_of_pos (by simpa using hx), List.find?_cons_of_pos (by simpa using hx)]
    · rw [List.find?_cons_of_neg (by simpa using hx)]
      by_cases hq : p x = true
      · rw [List.filter_cons_of_pos hq, List.find?_cons_of_neg (by simpa using hx)]; exact ih
      · rw [List.filter_cons_of_neg hq]; exact ih

theorem spread_length (l : List (List UInt8 × α)) : ∀ B : List (List (List UInt8 × α)), (spread h B l).length = B.length := by
  induction l with
  | nil => intro B; rfl
  | cons x l ih =>
    intro B
    show (spread h (B.modify (h x.1 % B.length) (· ++ [x])) l).length = _
    rw [ih, List.length_modify]

theorem spread_get (l : List (List UInt8 × α)) : ∀ (B : List (List (List UInt8 × α))) (i : Nat), (spread h B l)[i]? = (B[i]?).map (· ++ l.filter fun x => decide (h x.1 % B.length = i)) := by
  induction l with
  | nil => intro B i; simp [spread]
  | cons x l ih =>
    intro B i
    show (spread h (B.modify (h x.1 % B.length) (· ++ [x])) l)[i]? = _
    rw [ih, List.getElem?_modify, List.length_modify]
    by_cases hi : h x.1 % B.length = i
    · rw [List.filter_cons_of_pos (by simpa using hi)]
      cases B[i]? <;> simp [hi]
    · rw [List.filter_cons_of_neg (by simpa using hi)]
      cases B[i]? <;> simp [hi]

theorem getD_lt {R : List (List (List UInt8 × α))} {i : Nat} (hi : i < R.length) : R[i]? = some (R.getD i []) := by
  rw [List.getD_eq_getElem?_getD, List.getElem?_eq_getElem hi]; rfl

theorem seekR_spread (l : List (List UInt8 × α)) (B : List (List (List UInt8 × α))) (hB : 0 < B.length) (k : List UInt8) : seekR h (spread h B l) k = match seekR h B k with | some v => some v | none => seekL l k := by
  have hi : h k % B.length < B.length := Nat.mod_lt _ hB
  unfold seekR
  rw [spread_length, List.getD_eq_getElem?_getD, spread_get, getD_lt hi]
  simp only [Option.map_some, Option.getD_some]
  rw [seekL_app, seekL_filter _ l k (fun x _ hx => by rw [hx]; simp)]

theorem seekR_nil (k : List UInt8) : seekR h ([] : List (List (List UInt8 × α))) k = none := by
  unfold seekR
  rw [List.getD_eq_getElem?_getD]
  simp [seekL_nil]

theorem seekR_blank (n : Nat) (k : List UInt8) : seekR h (List.replicate n ([] : List (List UInt8 × α))) k = none := by
  unfold seekR
  rw [List.getD_eq_getElem?_getD, List.getElem?_replicate]
  split <;> rfl

theorem row_blank (n : Nat) : Row h (List.replicate n ([] : List (List UInt8 × α))) := by
  refine ⟨fun i l hl x hx => ?_, fun i l hl => ?_⟩
  · rw [List.getElem?_replicate] at hl
    split at hl
    · injection hl with hl; subst hl; cases hx
    · cases hl
  · rw [List.getElem?_replicate] at hl
    split at hl
    · injection hl with hl; subst hl; exact List.nodup_nil
    · cases hl

theorem row_nil : Row h ([] : List (List (List UInt8 × α))) := ⟨fun i l hl => by simp at hl, fun i l hl => by simp at hl⟩

/-- What is spread over a row of which it is no part. -/
theorem row_spread (l : List (List UInt8 × α)) (B : List (List (List UInt8 × α))) (hb : Row h B) (hl : (l.map (·.1)).Nodup) (hd : ∀ x ∈ l, seekR h B x.1 = none) : Row h (spread h B l) := by
  refine ⟨fun i m hm x hx => ?_, fun i m hm => ?_⟩
  · rw [spread_get] at hm
    rw [spread_length]
    cases hq : B[i]? with
    | none => rw [hq] at hm; cases hm
    | some b =>
      rw [hq] at hm
      injection hm with hm
      subst hm
      rcases List.mem_append.1 hx with hx | hx
      · exact hb.own i b hq x hx
      · have := (List.mem_filter.1 hx).2
        simpa using this
  · rw [spread_get] at hm
    cases hq : B[i]? with
    | none => rw [hq] at hm; cases hm
    | some b =>
      rw [hq] at hm
      injection hm with hm
      subst hm
      rw [List.map_append, List.nodup_append]
      refine ⟨hb.once i b hq, ?_, ?_⟩
      · exact (List.Sublist.map _ List.filter_sublist).nodup hl
      · intro a ha c hc hac
        subst hac
        obtain ⟨x, hx, rfl⟩ := List.mem_map.1 ha
        obtain ⟨y, hy, hxy⟩ := List.mem_map.1 hc
        obtain ⟨hy1, hy2⟩ := List.mem_filter.1 hy
        have hi : h y.1 % B.length = i := by simpa using hy2
        have := hd y hy1
        unfold seekR at this
        rw [hi, List.getD_eq_getElem?_getD, hq] at this
        exact seekL_none.1 this x hx hxy.symm

theorem mem_seekR {R : List (List (List UInt8 × α))} (hr : Row h R) {i : Nat} {l : List (List UInt8 × α)} (hl : R[i]? = some l) {x : List UInt8 × α} (hx : x ∈ l) : (seekR h R x.1).isSome = true := by
  have hi := hr.own i l hl x hx
  cases hq : seekR h R x.1 with
  | some v => rfl
  | none =>
    unfold seekR at hq
    rw [hi, List.getD_eq_getElem?_getD, hl] at hq
    exact absurd rfl (seekL_none.1 hq x hx)

/-- A bucket that is moved changes no key's value. -/
theorem kept_step {t : Tb α} (hk : Kept h t) : Kept h (stepT h t) ∧ ∀ k, lookT h (stepT h t) k = lookT h t k := by
  unfold stepT
  by_cases hB : t.B.length = 0
  · rw [if_pos hB]; exact ⟨hk, fun _ => rfl⟩
  rw [if_neg hB]
  have hm := hk.mv hB
  have hBp : 0 < t.B.length := Nat.pos_of_ne_zero hB
  obtain ⟨l, hl⟩ : ∃ l, t.A.getD t.moved [] = l := ⟨_, rfl⟩
  have hl' : t.A[t.moved]? = some l := by rw [← hl]; exact getD_lt hm
  rw [hl]
  have hd : ∀ x ∈ l, seekR h t.B x.1 = none := fun x hx => hk.one _ (mem_seekR h hk.a hl' hx)
  have hrow := row_spread h l t.B hk.b (hk.a.once _ _ hl') hd
  have hseek := seekR_spread h l t.B hBp
  by_cases hlast : t.moved + 1 = t.A.length
  · rw [if_pos hlast]
    have hA : ∀ k, seekR h t.A k = seekL (if h k % t.A.length = t.moved then l else []) k := fun k => by
      unfold seekR
      by_cases hi : h k % t.A.length = t.moved
      · rw [if_pos hi, hi, hl]
      · rw [if_neg hi, hk.empty _ (by have := Nat.mod_lt (h k) hk.pos; omega)]
    refine ⟨⟨hrow, ?_, by rw [spread_length]; exact hBp, fun k _ => ?_, fun i hi => absurd hi (Nat.not_lt_zero i), fun _ => by rw [spread_length]; exact hBp, fun _ => rfl⟩, fun k => ?_⟩
    · show Row h (if _ then _ else _)
      split
      · exact row_blank h _
      · exact row_nil h
    · show seekR h (if _ then _ else _) k = none
      split
      · exact seekR_blank h _ _
      · exact seekR_nil h _
    · have hz : seekR h (if t.B.length < t.n then List.replicate (2 * t.B.length) [] else []) k = (none : Option α) := by
        split
        · exact seekR_blank h _ _
        · exact seekR_nil h _
      show (match seekR h (spread h t.B l) k with | some v => some v | none => seekR h (if t.B.length < t.n then List.replicate (2 * t.B.length) [] else []) k) = match seekR h t.A k with | some v => some v | none => seekR h t.B k
      rw [hz, hseek, hA]
      by_cases hi : h k % t.A.length = t.moved
      · rw [if_pos hi]
        cases hq : seekL l k with
        | none => cases seekR h t.B k <;> rfl
        | some v =>
          have : seekR h t.B k = none := by
            refine hk.one k ?_
            rw [hA, if_pos hi, hq]; rfl
          rw [this]
      · rw [if_neg hi, seekL_nil]
        have : seekL l k = none := seekL_none.2 fun x hx e => hi (by rw [← e]; exact hk.a.own _ _ hl' x hx)
        rw [this]
        cases seekR h t.B k <;> rfl
  · rw [if_neg hlast]
    have hA : ∀ k, seekR h (t.A.set t.moved []) k = if h k % t.A.length = t.moved then none else seekR h t.A k := fun k => by
      unfold seekR
      rw [List.length_set, List.getD_eq_getElem?_getD, List.getElem?_set]
      by_cases hi : h k % t.A.length = t.moved
      · rw [if_pos hi, if_pos hi.symm, if_pos hm]; rfl
      · rw [if_neg hi, if_neg (fun e => hi e.symm), List.getD_eq_getElem?_getD]
    have hAk : ∀ k, h k % t.A.length = t.moved → seekR h t.A k = seekL l k := fun k hi => by unfold seekR; rw [hi, hl]
    refine ⟨⟨⟨fun i m hm' x hx => ?_, fun i m hm' => ?_⟩, hrow, by rw [List.length_set]; exact hk.pos, fun k hs => ?_, fun i hi => ?_, fun _ => by show t.moved + 1 < (t.A.set t.moved []).length; rw [List.length_set]; omega, fun h0 => by rw [spread_length] at h0; exact absurd h0 hB⟩, fun k => ?_⟩
    · rw [List.getElem?_set] at hm'
      rw [List.length_set]
      by_cases e : t.moved = i
      · rw [if_pos e, if_pos hm] at hm'
        injection hm' with hm'
        subst hm'
        cases hx
      · rw [if_neg e] at hm'
        exact hk.a.own i m hm' x hx
    · rw [List.getElem?_set] at hm'
      by_cases e : t.moved = i
      · rw [if_pos e, if_pos hm] at hm'
        injection hm' with hm'
        subst hm'
        exact List.nodup_nil
      · rw [if_neg e] at hm'
        exact hk.a.once i m hm'
    · rw [hA] at hs
      rw [hseek]
      split at hs
      · cases hs
      · rename_i hi
        rw [hk.one k hs]
        exact seekL_none.2 fun x hx e => hi (by rw [← e]; exact hk.a.own _ _ hl' x hx)
    · rw [List.getD_eq_getElem?_getD, List.getElem?_set]
      split
      · first | rfl | (split <;> rfl)
      · rename_i e
        have hi : i < t.moved + 1 := hi
        have := hk.empty i (by omega)
        rwa [List.getD_eq_getElem?_getD] at this
    · show (match seekR h (t.A.set t.moved []) k with | some v => some v | none => seekR h (spread h t.B l) k) = match seekR h t.A k with | some v => some v | none => seekR h t.B k
      rw [hA, hseek]
      by_cases hi : h k % t.A.length = t.moved
      · rw [if_pos hi, hAk k hi]
        cases hq : seekL l k with
        | none => cases seekR h t.B k <;> rfl
        | some v =>
          have : seekR h t.B k = none := by
            refine hk.one k ?_
            rw [hAk k hi, hq]; rfl
          rw [this]
      · rw [if_neg hi]
        cases hq : seekR h t.A k with
        | some v => rfl
        | none =>
          have : seekL l k = none := seekL_none.2 fun x hx e => hi (by rw [← e]; exact hk.a.own _ _ hl' x hx)
          rw [this]
          cases seekR h t.B k <;> rfl

/-! Put and Del, behind the move. -/

theorem seekL_some_mem {l : List (List UInt8 × α)} {k : List UInt8} {v : α} (hs : seekL l k = some v) : ∃ x ∈ l, x.1 = k := by
  unfold seekL at hs
  obtain ⟨x, hx, _⟩ := Option.map_eq_some_iff.1 hs
  exact ⟨x, List.mem_of_find?_eq_some hx, by simpa using List.find?_some hx⟩

theorem setL_keys (k : List UInt8) (v : α) : ∀ l : List (List UInt8 × α), (setL l k v).map (·.1) = l.map (·.1)
  | [] => rfl
  | x :: l => by
    rw [setL]
    split
    · rfl
    · rw [List.map_cons, List.map_cons, setL_keys k v l]

theorem seekL_setL (k : List UInt8) (v : α) : ∀ (l : List (List UInt8 × α)) (q : List UInt8), seekL (setL l k v) q = if q = k then (if (seekL l k).isSome then some v else none) else seekL l q
  | [], q => by rw [setL, seekL_nil, seekL_nil]; split <;> rfl
  | x :: l, q => by
    have ih := seekL_setL k v l q
    rw [setL]
    unfold seekL at ih ⊢
    by_cases hx : x.1 = k
    · rw [if_pos hx]
      by_cases hq : q = k
      · subst hq
        rw [if_pos rfl, List.find?_cons_of_pos (by simpa using hx), List.find?_cons_of_pos (by simpa using hx)]
        rfl
      · rw [if_neg hq, List.find?_cons_of_neg (by simpa using fun e => hq (e.symm.trans hx)), List.find?_cons_of_neg (by simpa using fun e => hq (e.symm.trans hx))]
    · rw [if_neg hx]
      by_cases hq : x.1 = q
      · rw [if_neg (fun e => hx (hq.trans e)), List.find?_cons_of_pos (by simpa using hq), List.find?_cons_of_pos (by simpa using hq)]
      · rw [List.find?_cons_of_neg (p := fun y : List UInt8 × α => decide (y.1 = q)) (by simpa using hq), List.find?_cons_of_neg (p := fun y : List UInt8 × α => decide (y.1 = k)) (by simpa using hx), List.find?_cons_of_neg (p := fun y : List UInt8 × α => decide (y.1 = q)) (by simpa using hq)]
        exact ih

theorem delL_sub (k : List UInt8) : ∀ l : List (List UInt8 × α), (delL l k).Sublist l
  | [] => List.Sublist.slnil
  | x :: l => by
    rw [delL]
    split
    · exact List.sublist_cons_self _ _
    · exact (delL_sub k l).cons_cons x

theorem seekL_delL (k : List UInt8) : ∀ (l : List (List UInt8 × α)) (_ : (l.map (·.1)).Nodup) (q : List UInt8), seekL (delL l k) q = if q = k then none else seekL l q
  | [], _, q => by rw [delL, seekL_nil]; split <;> rfl
  | x :: l, hn, q => by
    rw [List.map_cons, List.nodup_cons] at hn
    have ih := seekL_delL k l hn.2 q
    rw [delL]
    by_cases hx : x.1 = k
    · rw [if_pos hx]
      by_cases hq : q = k
      · rw [if_pos hq]
        exact seekL_none.2 fun y hy e => hn.1 (List.mem_map.2 ⟨y, hy, by rw [e, hq, hx]⟩)
      · rw [if_neg hq]
        unfold seekL
        rw [List.find?_cons_of_neg (by simpa using fun e => hq (e.symm.trans hx))]
    · rw [if_neg hx]
      unfold seekL at ih ⊢
      by_cases hq : x.1 = q
      · rw [List.find?_cons_of_pos (by simpa using hq), List.find?_cons_of_pos (by simpa using hq), if_neg (fun e => hx (hq.trans e))]
      · rw [List.find?_cons_of_neg (by simpa using hq), List.find?_cons_of_neg (by simpa using hq)]
        exact ih

/-- What is sought in a row one bucket of which was turned. -/
theorem seekR_modify (R : List (List (List UInt8 × α))) (i : Nat) (f : List (List UInt8 × α) → List (List UInt8 × α)) (hi : i < R.length) (q : List UInt8) : seekR h (R.modify i f) q = if h q % R.length = i then seekL (f (R.getD i [])) q else seekR h R q := by
  unfold seekR
  rw [List.length_modify, List.getD_eq_getElem?_getD, List.getElem?_modify]
  by_cases hq : h q % R.length = i
  · rw [if_pos hq, hq, getD_lt hi]
    simp
  · rw [if_neg hq, List.getD_eq_getElem?_getD]
    have : ¬ i = h q % R.length := fun e => hq e.symm
    cases hz : R[h q % R.length]? <;> simp [this]

theorem row_modify (R : List (List (List UInt8 × α))) (i : Nat) (f : List (List UInt8 × α) → List (List UInt8 × α)) (hr : Row h R) (hf : ∀ l, R[i]? = some l → (∀ x ∈ f l, h x.1 % R.length = i) ∧ ((f l).map (·.1)).Nodup) : Row h (R.modify i f) := by
  refine ⟨fun j m hm x hx => ?_, fun j m hm => ?_⟩
  · rw [List.length_modify]
    rw [List.getElem?_modify] at hm
    by_cases hj : i = j
    · subst hj
      cases hz : R[i]? with
      | none => rw [hz] at hm; simp at hm
      | some l =>
        rw [hz] at hm
        simp at hm
        subst hm
        exact (hf l hz).1 x hx
    · cases hz : R[j]? with
      | none => rw [hz] at hm; simp at hm
      | some l =>
        rw [hz] at hm
        simp [hj] at hm
        subst hm
        exact hr.own j l hz x hx
  · rw [List.getElem?_modify] at hm
    by_cases hj : i = j
    · subst hj
      cases hz : R[i]? with
      | none => rw [hz] at hm; simp at hm
      | some l =>
        rw [hz] at hm
        simp at hm
        subst hm
        exact (hf l hz).2
    · cases hz : R[j]? with
      | none => rw [hz] at hm; simp at hm
      | some l =>
        rw [hz] at hm
        simp [hj] at hm
        subst hm
        exact hr.once j l hz

theorem seekR_isSome {R : List (List (List UInt8 × α))} {k : List UInt8} (hs : (seekR h R k).isSome = true) : 0 < R.length := by
  refine Nat.pos_of_ne_zero fun h0 => ?_
  rw [List.length_eq_zero_iff.1 h0, seekR_nil] at hs
  cases hs

/-- A value that is set where the key stands. -/
theorem row_set {R : List (List (List UInt8 × α))} (hr : Row h R) (k : List UInt8) (v : α) : Row h (R.modify (h k % R.length) (setL · k v)) := by
  refine row_modify h R _ _ hr fun l hl => ⟨fun x hx => ?_, ?_⟩
  · have hx' : x.1 ∈ (setL l k v).map (·.1) := List.mem_map.2 ⟨x, hx, rfl⟩
    rw [setL_keys] at hx'
    obtain ⟨y, hy, e⟩ := List.mem_map.1 hx'
    rw [← e]
    exact hr.own _ l hl y hy
  · rw [setL_keys]; exact hr.once _ l hl

theorem seekR_set {R : List (List (List UInt8 × α))} (k : List UInt8) (v : α) (hs : (seekR h R k).isSome = true) (q : List UInt8) : seekR h (R.modify (h k % R.length) (setL · k v)) q = if q = k then some v else seekR h R q := by
  have hR := seekR_isSome h hs
  rw [seekR_modify h R _ _ (Nat.mod_lt _ hR)]
  have hs' : (seekL (R.getD (h k % R.length) []) k).isSome = true := hs
  by_cases hq : q = k
  · subst hq
    rw [if_pos rfl, seekL_setL, if_pos rfl, if_pos hs', if_pos rfl]
  · rw [if_neg hq]
    by_cases hi : h q % R.length = h k % R.length
    · rw [if_pos hi, seekL_setL, if_neg hq]; unfold seekR; rw [hi]
    · rw [if_neg hi]

theorem row_more {R : List (List (List UInt8 × α))} (hr : Row h R) (k : List UInt8) (v : α) (hs : seekR h R k = none) : Row h (R.modify (h k % R.length) (· ++ [(k, v)])) := by
  refine row_modify h R _ _ hr fun l hl => ⟨fun x hx => ?_, ?_⟩
  · rcases List.mem_append.1 hx with hx | hx
    · exact hr.own _ l hl x hx
    · simp at hx; subst hx; rfl
  · rw [List.map_append, List.nodup_append]
    refine ⟨hr.once _ l hl, by simp, fun a ha b hb hab => ?_⟩
    simp at hb
    subst hb hab
    obtain ⟨x, hx, e⟩ := List.mem_map.1 ha
    unfold seekR at hs
    rw [List.getD_eq_getElem?_getD, hl] at hs
    exact seekL_none.1 hs x hx e

theorem seekR_more {R : List (List (List UInt8 × α))} (k : List UInt8) (v : α) (hR : 0 < R.length) (hs : seekR h R k = none) (q : List UInt8) : seekR h (R.modify (h k % R.length) (· ++ [(k, v)])) q = if q = k then some v else seekR h R q := by
  rw [seekR_modify h R _ _ (Nat.mod_lt _ hR)]
  by_cases hq : q = k
  · subst hq
    have hs' : seekL (R.getD (h q % R.length) []) q = none := hs
    rw [if_pos rfl, seekL_app, hs', if_pos rfl]
    simp [seekL]
  · rw [if_neg hq]
    by_cases hi : h q % R.length = h k % R.length
    · rw [if_pos hi, seekL_app]
      have : seekL [(k, v)] q = none := seekL_none.2 fun x hx e => hq (by simp at hx; subst hx; exact e.symm)
      rw [this]
      unfold seekR
      rw [hi]
      cases seekL (R.getD (h k % R.length) []) q <;> rfl
    · rw [if_neg hi]

theorem row_del {R : List (List (List UInt8 × α))} (hr : Row h R) (k : List UInt8) : Row h (R.modify (h k % R.length) (delL · k)) := by
  refine row_modify h R _ _ hr fun l hl => ⟨fun x hx => ?_, ?_⟩
  · exact hr.own _ l hl x ((delL_sub k l).subset hx)
  · exact ((delL_sub k l).map _).nodup (hr.once _ l hl)

theorem seekR_del {R : List (List (List UInt8 × α))} (hr : Row h R) (k : List UInt8) (hR : 0 < R.length) (q : List UInt8) : seekR h (R.modify (h k % R.length) (delL · k)) q = if q = k then none else seekR h R q := by
  rw [seekR_modify h R _ _ (Nat.mod_lt _ hR)]
  have hn := hr.once _ _ (getD_lt (Nat.mod_lt (h k) hR))
  by_cases hi : h q % R.length = h k % R.length
  · rw [if_pos hi, seekL_delL k _ hn]
    split
    · rfl
    · unfold seekR; rw [hi]
  · rw [if_neg hi, if_neg (fun e => hi (by rw [e]))]

/-- PUT: the key has the value, every other what it had. -/
theorem kept_put {t : Tb α} (hk : Kept h t) (k : List UInt8) (v : α) : Kept h (putS h t k v) ∧ ∀ q, lookT h (putS h t k v) q = if q = k then some v else lookT h t q := by
  unfold putS
  by_cases hA : (seekR h t.A k).isSome = true
  · rw [if_pos hA]
    have hs := seekR_set h k v hA
    refine ⟨⟨row_set h hk.a k v, hk.b, by rw [List.length_modify]; exact hk.pos, fun q hq => ?_, fun i hi => ?_, fun hB => by rw [List.length_modify]; exact hk.mv hB, hk.still⟩, fun q => ?_⟩
    · rw [hs] at hq
      by_cases e : q = k
      · rw [e]; exact hk.one k hA
      · rw [if_neg e] at hq; exact hk.one q hq
    · have he := hk.empty i hi
      rw [List.getD_eq_getElem?_getD] at he ⊢
      rw [List.getElem?_modify]
      cases hz : t.A[i]? with
      | none => rfl
      | some l =>
        rw [hz] at he
        have he : l = [] := he
        subst he
        simp [setL]
    · unfold lookT
      show (match seekR h (t.A.modify (h k % t.A.length) (setL · k v)) q with | some v => some v | none => seekR h t.B q) = _
      rw [hs]
      by_cases e : q = k
      · rw [if_pos e, if_pos e]
      · rw [if_neg e, if_neg e]
  rw [if_neg hA]
  have hA0 : seekR h t.A k = none := by cases hq : seekR h t.A k with
    | none => rfl
    | some v => rw [hq] at hA; exact absurd rfl hA
  by_cases hB : (seekR h t.B k).isSome = true
  · rw [if_pos hB]
    have hs := seekR_set h k v hB
    refine ⟨⟨hk.a, row_set h hk.b k v, hk.pos, fun q hq => ?_, hk.empty, fun hB => by rw [List.length_modify] at hB; exact hk.mv hB, fun hB => by rw [List.length_modify] at hB; exact hk.still hB⟩, fun q => ?_⟩
    · rw [hs]
      have hq : (seekR h t.A q).isSome = true := hq
      by_cases e : q = k
      · rw [e, hA0] at hq; cases hq
      · rw [if_neg e]; exact hk.one q hq
    · unfold lookT
      show (match seekR h t.A q with | some v => some v | none => seekR h (t.B.modify (h k % t.B.length) (setL · k v)) q) = _
      rw [hs]
      by_cases e : q = k
      · rw [if_pos e, if_pos e, e, hA0]
      · rw [if_neg e, if_neg e]
  rw [if_neg hB]
  have hB0 : seekR h t.B k = none := by cases hq : seekR h t.B k with
    | none => rfl
    | some v => rw [hq] at hB; exact absurd rfl hB
  by_cases hz : t.B.length = 0
  · rw [if_pos hz]
    have hs := seekR_more h k v hk.pos hA0
    have hbl : ∀ q, seekR h (if t.A.length < t.n + 1 then List.replicate (2 * t.A.length) [] else []) q = (none : Option α) := fun q => by
      split
      · exact seekR_blank h _ _
      · exact seekR_nil h _
    have hBn : ∀ q, seekR h t.B q = none := fun q => by rw [List.length_eq_zero_iff.1 hz, seekR_nil]
    refine ⟨⟨row_more h hk.a k v hA0, ?_, by rw [List.length_modify]; exact hk.pos, fun q _ => hbl q, fun i hi => ?_, fun _ => ?_, fun _ => hk.still hz⟩, fun q => ?_⟩
    · show Row h (if _ then _ else _)
      split
      · exact row_blank h _
      · exact row_nil h
    · have hi : i < t.moved := hi
      rw [hk.still hz] at hi
      exact absurd hi (Nat.not_lt_zero i)
    · show t.moved < (t.A.modify (h k % t.A.length) (· ++ [(k, v)])).length
      rw [List.length_modify, hk.still hz]
      exact hk.pos
    · unfold lookT
      show (match seekR h (t.A.modify (h k % t.A.length) (· ++ [(k, v)])) q with | some v => some v | none => seekR h (if t.A.length < t.n + 1 then List.replicate (2 * t.A.length) [] else []) q) = _
      rw [hs, hbl, hBn]
      by_cases e : q = k
      · rw [if_pos e, if_pos e]
      · rw [if_neg e, if_neg e]
  · rw [if_neg hz]
    have hs := seekR_more h k v (Nat.pos_of_ne_zero hz) hB0
    refine ⟨⟨hk.a, row_more h hk.b k v hB0, hk.pos, fun q hq => ?_, hk.empty, fun hB => by rw [List.length_modify] at hB; exact hk.mv hB, fun hB => by rw [List.length_modify] at hB; exact hk.still hB⟩, fun q => ?_⟩
    · rw [hs]
      have hq : (seekR h t.A q).isSome = true := hq
      by_cases e : q = k
      · rw [e, hA0] at hq; cases hq
      · rw [if_neg e]; exact hk.one q hq
    · unfold lookT
      show (match seekR h t.A q with | some v => some v | none => seekR h (t.B.modify (h k % t.B.length) (· ++ [(k, v)])) q) = _
      rw [hs]
      by_cases e : q = k
      · rw [if_pos e, if_pos e, e, hA0]
      · rw [if_neg e, if_neg e]

/-- DEL: the key is gone, every other has what it had. -/
theorem kept_del {t : Tb α} (hk : Kept h t) (k : List UInt8) : Kept h (delS h t k) ∧ ∀ q, lookT h (delS h t k) q = if q = k then none else lookT h t q := by
  unfold delS
  by_cases hA : (seekR h t.A k).isSome = true
  · rw [if_pos hA]
    have hs := seekR_del h hk.a k hk.pos
    obtain ⟨B', hB'⟩ : ∃ B', (if t.B.length = 0 ∧ 4 < t.A.length ∧ (t.n - 1) * 8 < t.A.length then List.replicate (t.A.length / 2) [] else t.B) = B' := ⟨_, rfl⟩
    have hBs : ∀ q, seekR h B' q = seekR h t.B q := fun q => by
      rw [← hB']
      split
      · rename_i hc
        rw [seekR_blank, List.length_eq_zero_iff.1 hc.1, seekR_nil]
      · rfl
    have hBr : Row h B' := by
      rw [← hB']
      split
      · exact row_blank h _
      · exact hk.b
    rw [hB']
    refine ⟨⟨row_del h hk.a k, hBr, by rw [List.length_modify]; exact hk.pos, fun q hq => ?_, fun i hi => ?_, fun hB => ?_, fun hB => ?_⟩, fun q => ?_⟩
    · rw [hs] at hq
      show seekR h B' q = none
      rw [hBs]
      by_cases e : q = k
      · rw [if_pos e] at hq; cases hq
      · rw [if_neg e] at hq; exact hk.one q hq
    · have he := hk.empty i hi
      rw [List.getD_eq_getElem?_getD] at he ⊢
      rw [List.getElem?_modify]
      cases hz : t.A[i]? with
      | none => rfl
      | some l =>
        rw [hz] at he
        have he : l = [] := he
        subst he
        simp [delL]
    · show t.moved < (t.A.modify (h k % t.A.length) (delL · k)).length
      rw [List.length_modify]
      by_cases hz : t.B.length = 0
      · rw [hk.still hz]; exact hk.pos
      · exact hk.mv hz
    · have hB : B'.length = 0 := hB
      rw [← hB'] at hB
      split at hB
      · rename_i hc; exact hk.still hc.1
      · exact hk.still hB
    · unfold lookT
      show (match seekR h (t.A.modify (h k % t.A.length) (delL · k)) q with | some v => some v | none => seekR h B' q) = _
      rw [hs, hBs]
      by_cases e : q = k
      · rw [if_pos e, if_pos e, e, hk.one k hA]
      · rw [if_neg e, if_neg e]
  rw [if_neg hA]
  have hA0 : seekR h t.A k = none := by cases hq : seekR h t.A k with
    | none => rfl
    | some v => rw [hq] at hA; exact absurd rfl hA
  by_cases hB : (seekR h t.B k).isSome = true
  · rw [if_pos hB]
    have hs := seekR_del h hk.b k (seekR_isSome h hB)
    refine ⟨⟨hk.a, row_del h hk.b k, hk.pos, fun q hq => ?_, hk.empty, fun hB => by rw [List.length_modify] at hB; exact hk.mv hB, fun hB => by rw [List.length_modify] at hB; exact hk.still hB⟩, fun q => ?_⟩
    · rw [hs]
      have hq : (seekR h t.A q).isSome = true := hq
      by_cases e : q = k
      · rw [if_pos e]
      · rw [if_neg e]; exact hk.one q hq
    · unfold lookT
      show (match seekR h t.A q with | some v => some v | none => seekR h (t.B.modify (h k % t.B.length) (delL · k)) q) = _
      rw [hs]
      by_cases e : q = k
      · rw [if_pos e, if_pos e, e, hA0]
      · rw [if_neg e, if_neg e]
  · rw [if_neg hB]
    have hB0 : seekR h t.B k = none := by cases hq : seekR h t.B k with
      | none => rfl
      | some v => rw [hq] at hB; exact absurd rfl hB
    refine ⟨hk, fun q => ?_⟩
    by_cases e : q = k
    · rw [if_pos e, e]
      unfold lookT
      rw [hA0, hB0]
    · rw [if_neg e]

theorem kept_new : Kept h (newT : Tb α) := by
  have hr : Row h (newT : Tb α).A := row_blank h 4
  refine ⟨hr, row_nil h, Nat.succ_pos 3, fun k _ => seekR_nil h k, fun i hi => absurd hi (Nat.not_lt_zero i), fun hB => absurd rfl hB, fun _ => rfl⟩

theorem look_new (k : List UInt8) : lookT h (newT : Tb α) k = none := by
  unfold lookT
  have h1 : seekR h (newT : Tb α).A k = none := seekR_blank h 4 k
  have h2 : seekR h (newT : Tb α).B k = none := seekR_nil h k
  rw [h1, h2]

end

end Go.Proofs.Ytcjoakbaldeaoaa
