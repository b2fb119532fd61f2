/-
  Plain facts: keys that are short stay short; the one bucket that a call writes, whichever row it stands in. No program.
-/
import Derived.Test.YtcjoakbaldeaoaaTbQ
namespace Go.Proofs.Ytcjoakbaldeaoaa
open Go.RowKit

section
variable {α : Type} {h : List UInt8 → Nat}

/-- Every key of a row, of a table. -/
def KeysR (p : List UInt8 → Prop) (R : List (List (List UInt8 × α))) : Prop := ∀ (i : Nat) (l : List (List UInt8 × α)), R[i]? = some l → ∀ x ∈ l, p x.1
def KeysT (p : List UInt8 → Prop) (t : Tb α) : Prop := KeysR p t.A ∧ KeysR p t.B

theorem keys_blank (p : List UInt8 → Prop) (n : Nat) : KeysR p (List.replicate n ([] : List (List UInt8 × α))) := by
  intro i l hl x hx
  rw [List.getElem?_replicate] at hl
  split at hl
  · injection hl with hl; subst hl; cases hx
  · cases hl

theorem keys_nil (p : List UInt8 → Prop) : KeysR p ([] : List (List (List UInt8 × α))) := fun i l hl => by simp at hl

theorem keys_set {p : List UInt8 → Prop} {R : List (List (List UInt8 × α))} (hR : KeysR p R) (i : Nat) (l : List (List UInt8 × α)) (hl : ∀ x ∈ l, p x.1) : KeysR p (R.set i l) := by
  intro j m hm
  rw [List.getElem?_set] at hm
  split at hm
  · split at hm
    · injection hm with hm; subst hm; exact hl
    · cases hm
  · exact hR j m hm

theorem keys_getD {p : List UInt8 → Prop} {R : List (List (List UInt8 × α))} (hR : KeysR p R) (i : Nat) : ∀ x ∈ R.getD i [], p x.1 := by
  rcases Nat.lt_or_ge i R.length with hi | hi
  · exact hR i _ (getD_lt hi)
  · rw [List.getD_eq_getElem?_getD, List.getElem?_eq_none hi]
    exact fun x hx => by cases hx

theorem keys_spread {p : List UInt8 → Prop} {B : List (List (List UInt8 × α))} (hB : KeysR p B) (l : List (List UInt8 × α)) (hl : ∀ x ∈ l, p x.1) : KeysR p (spread h B l) := by
  intro i m hm x hx
  rw [spread_get] at hm
  cases hq : B[i]? with
  | none => rw [hq] at hm; cases hm
  | some b =>
    rw [hq] at hm
    injection hm with hm
    subst hm
    rcases List.mem_append.1 hx with hx | hx
    · exact hB i b hq x hx
    · exact hl x (List.mem_filter.1 hx).1

theorem keys_step {p : List UInt8 → Prop} {t : Tb α} (hk : KeysT p t) : KeysT p (stepT h t) := by
  unfold stepT
  split
  · exact hk
  · split
    · refine ⟨keys_spread hk.2 _ (keys_getD hk.1 _), ?_⟩
      show KeysR p (if _ then _ else _)
      split
      · exact keys_blank p _
      · exact keys_nil p
    · exact ⟨keys_set hk.1 _ _ (fun x hx => by cases hx), keys_spread hk.2 _ (keys_getD hk.1 _)⟩

theorem KeysR.flat {p : List UInt8 → Prop} {R : List (List (List UInt8 × α))} (hR : KeysR p R) : ∀ x ∈ R.flatten, p x.1 := by
  intro x hx
  obtain ⟨l, hl, hxl⟩ := List.mem_flatten.1 hx
  obtain ⟨i, hi⟩ := List.getElem?_of_mem hl
  exact hR i l hi x hxl

theorem keys_new (p : List UInt8 → Prop) : KeysT p (newT : Tb α) := ⟨keys_blank p 4, keys_nil p⟩

/-- The bucket r of the row g holds l; with another one in its place the table is 'mk' of it. -/
structure Side (K : Kd α) (w : World) (base : Nat) (ow : Own) (Q : Nat) (tyT : TypeId) (seed : Nat) (t : Tb α) (hdr : Nat → Value) (g r : Nat) (l : List (List UInt8 × α)) (mk : List (List UInt8 × α) → Tb α) (RX : List (List (List UInt8 × α))) (sX : Nat → Value) (RY : List (List (List UInt8 × α))) (gY : Nat) (sY : Nat → Value) : Prop where
  on : TbOn K w base ow Q tyT 6 hdr RX g sX RY gY sY
  at_ : RX[r]? = some l
  back : ∀ (l' : List (List UInt8 × α)) (w' : World) (o' : Own) (s' : Nat → Value), TbOn K w' base o' Q tyT 6 hdr (RX.set r l') g s' RY gY sY → ∃ gA sA gB sB, PT K w' base o' Q tyT seed (mk l') gA sA gB sB
  n : ∀ l', (mk l').n = t.n
  a : ∀ l', (mk l').A.length = t.A.length
  b : ∀ l', (mk l').B.length = t.B.length
  kp : ∀ (p : List UInt8 → Prop) l', KeysT p t → (∀ x ∈ l', p x.1) → KeysT p (mk l')
  kl : ∀ (p : List UInt8 → Prop), KeysT p t → ∀ x ∈ l, p x.1
  len : ∀ (h : List UInt8 → Nat) (m : Nat), Good h m t → l.length ≤ m
  le : Counts t → l.length ≤ t.n

section
variable {K : Kd α} {w : World} {base Q seed : Nat} {ow : Own} {tyT : TypeId} {t : Tb α} {gA gB : Nat} {sA sB : Nat → Value}

theorem sideA (hp : PT K w base ow Q tyT seed t gA sA gB sB) {r : Nat} (hr : r < t.A.length) : Side K w base ow Q tyT seed t (pHdr Q seed t.n t.moved (rowV gA t.A.length) (rowV gB t.B.length)) gA r (t.A.getD r []) (fun l' => { t with A := t.A.set r l' }) t.A sA t.B gB sB :=
  ⟨hp, getD_lt hr, fun l' w' o' s' h' => ⟨gA, s', gB, sB, by unfold PT; dsimp only; rw [List.length_set]; exact h'⟩, fun _ => rfl, fun _ => List.length_set, fun _ => rfl,
    fun _ _ hk hl => ⟨keys_set hk.1 _ _ hl, hk.2⟩, fun _ hk => keys_getD hk.1 _, fun _ _ hg => hg.bktA (getD_lt hr), fun hc => by have h1 := all_length hc; unfold allT at h1; rw [List.length_append] at h1; have := mem_len (getD_lt hr); omega⟩

theorem sideB (hp : PT K w base ow Q tyT seed t gA sA gB sB) {r : Nat} (hr : r < t.B.length) : Side K w base ow Q tyT seed t (pHdr Q seed t.n t.moved (rowV gA t.A.length) (rowV gB t.B.length)) gB r (t.B.getD r []) (fun l' => { t with B := t.B.set r l' }) t.B sB t.A gA sA :=
  ⟨TbOn.symm hp, getD_lt hr, fun l' w' o' s' h' => ⟨gA, sA, gB, s', by unfold PT; dsimp only; rw [List.length_set]; exact h'.symm⟩, fun _ => rfl, fun _ => rfl, fun _ => List.length_set,
    fun _ _ hk hl => ⟨hk.1, keys_set hk.2 _ _ hl⟩, fun _ hk => keys_getD hk.2 _, fun _ _ hg => hg.bktB (getD_lt hr), fun hc => by have h1 := all_length hc; unfold allT at h1; rw [List.length_append] at h1; have := mem_len (getD_lt hr); omega⟩

/-- A key that is there. -/
structure Found (K : Kd α) (w : World) (base : Nat) (ow : Own) (Q : Nat) (tyT : TypeId) (seed : Nat) (h : List UInt8 → Nat) (t : Tb α) (gA gB : Nat) (hdr : Nat → Value) (k : List UInt8) (g r : Nat) (l : List (List UInt8 × α)) (mk : List (List UInt8 × α) → Tb α) (RX : List (List (List UInt8 × α))) (sX : Nat → Value) (RY : List (List (List UInt8 × α))) (gY : Nat) (sY : Nat → Value) (j : Nat) (x : List UInt8 × α) : Prop where
  side : Side K w base ow Q tyT seed t hdr g r l mk RX sX RY gY sY
  wh : whereG h t gA gB k = (⟨g, r, none⟩, (j : Int))
  it : l[j]? = some x
  key : x.1 = k
  look : lookT h t k = some x.2
  put : ∀ v, putS h t k v = mk (l.set j (x.1, v))
  del : delS h t k = shrinkT { mk (l.take j ++ l.drop (j + 1)) with n := t.n - 1 }

/-- A new key. -/
structure Fresh (K : Kd α) (w : World) (base : Nat) (ow : Own) (Q : Nat) (tyT : TypeId) (seed : Nat) (h : List UInt8 → Nat) (t : Tb α) (gA gB : Nat) (hdr : Nat → Value) (k : List UInt8) (g r : Nat) (l : List (List UInt8 × α)) (mk : List (List UInt8 × α) → Tb α) (RX : List (List (List UInt8 × α))) (sX : Nat → Value) (RY : List (List (List UInt8 × α))) (gY : Nat) (sY : Nat → Value) : Prop where
  side : Side K w base ow Q tyT seed t hdr g r l mk RX sX RY gY sY
  wh : whereG h t gA gB k = (⟨g, r, none⟩, -1)
  look : lookT h t k = none
  put : ∀ v, putS h t k v = growT { mk (l ++ [(k, v)]) with n := t.n + 1 }
  del : delS h t k = t

theorem found_or_fresh (hp : PT K w base ow Q tyT seed t gA sA gB sB) (hk : Kept h t) (k : List UInt8) :
    (∃ g r l mk RX sX RY gY sY j x, Found K w base ow Q tyT seed h t gA gB (pHdr Q seed t.n t.moved (rowV gA t.A.length) (rowV gB t.B.length)) k g r l mk RX sX RY gY sY j x) ∨
    (∃ g r l mk RX sX RY gY sY, Fresh K w base ow Q tyT seed h t gA gB (pHdr Q seed t.n t.moved (rowV gA t.A.length) (rowV gB t.B.length)) k g r l mk RX sX RY gY sY) := by
  rcases where_cases h hk gA gB k with ⟨j, x, c⟩ | ⟨j, x, c⟩ | c | c
  · refine Or.inl ⟨_, _, _, _, _, _, _, _, _, j, x, sideA hp (Nat.mod_lt (h k) hk.pos), c.wh, c.at_, c.key, c.look, c.put, ?_⟩
    rw [c.del]
    unfold shrinkT
    dsimp only
    rw [List.length_set]
  · refine Or.inl ⟨_, _, _, _, _, _, _, _, _, j, x, sideB hp (Nat.mod_lt (h k) c.pos), c.wh, c.at_, c.key, c.look, c.put, ?_⟩
    rw [c.del]
    unfold shrinkT
    dsimp only
    rw [List.length_set, if_neg (fun q => by have := c.pos; omega)]
  · refine Or.inr ⟨_, _, _, _, _, _, _, _, _, sideA hp (Nat.mod_lt (h k) hk.pos), c.wh, c.look, fun v => ?_, c.del⟩
    rw [c.put]
    unfold growT
    dsimp only
    rw [List.length_set]
    have hz := c.zero
    have hb : t.B = [] := List.length_eq_zero_iff.1 hz
    by_cases hq : t.A.length < t.n + 1
    · rw [if_pos hq, if_pos ⟨hz, hq⟩]
    · rw [if_neg hq, if_neg (fun q => hq q.2), hb]
  · refine Or.inr ⟨_, _, _, _, _, _, _, _, _, sideB hp (Nat.mod_lt (h k) c.pos), c.wh, c.look, fun v => ?_, c.del⟩
    rw [c.put]
    unfold growT
    dsimp only
    rw [List.length_set, if_neg (fun q => by have := c.pos; omega)]

/-- How many keys: in the head. -/
theorem PT.setN (hp : PT K w base ow Q tyT seed t gA sA gB sB) (n : Nat) : PT K (w.setCell ⟨Q, 2, none⟩ (.int .i64 n)) base ow Q tyT seed { t with n := n } gA sA gB sB ∧ Turns ow ow w (w.setCell ⟨Q, 2, none⟩ (.int .i64 n)) :=
  ⟨(TbOn.setHd hp 2 (.int .i64 n)).recap (fun i _ => pset2 _ _ _ _ _ _ _ i), TbOn.turnsHd hp 2 _⟩

theorem PT.below' {w' : World} (hp : PT K w base ow Q tyT seed t gA sA gB sB) (hb : Below w.heap.size w w') : PT K w' base ow Q tyT seed t gA sA gB sB := TbOn.below hp hb

theorem PT.base_le (hp : PT K w base ow Q tyT seed t gA sA gB sB) : base ≤ Q ∧ Q < w.heap.size := TbOn.dom hp Q (by rw [TbOn.q hp]; exact fun e => by cases e)

end

theorem keys_putS {p : List UInt8 → Prop} {t : Tb α} (hs : KeysT p t) (k : List UInt8) (hp : p k) (v : α) : KeysT p (putS h t k v) := by
  unfold putS
  have happ : ∀ (R : List (List (List UInt8 × α))) (hR : KeysR p R) (i : Nat), KeysR p (R.modify i (· ++ [(k, v)])) := fun R hR i => by
    intro j m hm
    rw [List.getElem?_modify] at hm
    cases hq : R[j]? with
    | none => rw [hq] at hm; cases hm
    | some l =>
      rw [hq] at hm
      injection hm with hm
      subst hm
      intro x hx
      dsimp only at hx
      split at hx
      · rcases List.mem_append.1 hx with hx | hx
        · exact hR j l hq x hx
        · rw [List.mem_singleton.1 hx]; exact hp
      · exact hR j l hq x hx
  have hset : ∀ (R : List (List (List UInt8 × α))) (hR : KeysR p R) (i : Nat), KeysR p (R.modify i (setL · k v)) := fun R hR i => by
    intro j m hm
    rw [List.getElem?_modify] at hm
    cases hq : R[j]? with
    | none => rw [hq] at hm; split at hm <;> cases hm
    | some l =>
      rw [hq] at hm
      split at hm
      · injection hm with hm
        subst hm
        intro x hx
        have h1 : x.1 ∈ (setL l k v).map (·.1) := List.mem_map_of_mem hx
        rw [setL_keys] at h1
        obtain ⟨y, hy, e⟩ := List.mem_map.1 h1
        rw [← e]
        exact hR j l hq y hy
      · injection hm with hm
        subst hm
        exact hR j l hq
  split
  · exact ⟨hset _ hs.1 _, hs.2⟩
  · split
    · exact ⟨hs.1, hset _ hs.2 _⟩
    · split
      · refine ⟨happ _ hs.1 _, ?_⟩
        show KeysR p (if _ then _ else _)
        split
        · exact keys_blank p _
        · exact keys_nil p
      · exact ⟨hs.1, happ _ hs.2 _⟩

theorem delL_mem (k : List UInt8) : ∀ (l : List (List UInt8 × α)) (x : List UInt8 × α), x ∈ delL l k → x ∈ l
  | [], x, hx => hx
  | y :: l, x, hx => by
    rw [delL] at hx
    split at hx
    · exact List.mem_cons_of_mem _ hx
    · rcases List.mem_cons.1 hx with rfl | hx
      · exact List.mem_cons_self
      · exact List.mem_cons_of_mem _ (delL_mem k l x hx)

theorem keys_delS {p : List UInt8 → Prop} {t : Tb α} (hs : KeysT p t) (k : List UInt8) : KeysT p (delS h t k) := by
  unfold delS
  have hdel : ∀ (R : List (List (List UInt8 × α))) (hR : KeysR p R) (i : Nat), KeysR p (R.modify i (delL · k)) := fun R hR i => by
    intro j m hm
    rw [List.getElem?_modify] at hm
    cases hq : R[j]? with
    | none => rw [hq] at hm; split at hm <;> cases hm
    | some l =>
      rw [hq] at hm
      split at hm
      · injection hm with hm
        subst hm
        exact fun x hx => hR j l hq x (delL_mem k l x hx)
      · injection hm with hm
        subst hm
        exact hR j l hq
  split
  · refine ⟨hdel _ hs.1 _, ?_⟩
    show KeysR p (if _ then _ else _)
    split
    · exact keys_blank p _
    · exact hs.2
  · split
    · exact ⟨hs.1, hdel _ hs.2 _⟩
    · exact hs

end

end Go.Proofs.Ytcjoakbaldeaoaa
