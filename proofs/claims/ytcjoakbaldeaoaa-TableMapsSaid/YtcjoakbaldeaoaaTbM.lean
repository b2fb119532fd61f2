/-
  A table of rows of buckets in memory, with any values: which blocks are its own, what has turned, and a bucket that is written anew. No program's code.
-/
import Derived.Test.YtcjoakbaldeaoaaTaC
import Derived.Laws.OwnMore
import Derived.Deep.OwnRows
import Derived.Maps.AppendAt
namespace Go.Proofs.Ytcjoakbaldeaoaa
open Go.RowKit

section
variable {α : Type}

/-- How a table stands in memory: the types of a bucket and of an item, the cell of a value. -/
structure Kd (α : Type) where
  tb : TypeId
  te : TypeId
  enc : α → Value

def encIt (enc : α → Value) (l : List (List UInt8 × α)) : List Value := (l.map fun x => [Value.string ⟨x.1.toArray⟩, enc x.2]).flatten

theorem encIt_nil (enc : α → Value) : encIt enc [] = [] := rfl
theorem encIt_cons (enc : α → Value) (x : List UInt8 × α) (l : List (List UInt8 × α)) : encIt enc (x :: l) = Value.string ⟨x.1.toArray⟩ :: enc x.2 :: encIt enc l := rfl
theorem encIt_app (enc : α → Value) (l m : List (List UInt8 × α)) : encIt enc (l ++ m) = encIt enc l ++ encIt enc m := by unfold encIt; rw [List.map_append, List.flatten_append]
theorem encIt_length (enc : α → Value) : ∀ l : List (List UInt8 × α), (encIt enc l).length = l.length * 2
  | [] => rfl
  | x :: l => by rw [encIt_cons, List.length_cons, List.length_cons, encIt_length enc l, List.length_cons]; omega

theorem encIt_get (enc : α → Value) : ∀ (l : List (List UInt8 × α)) (i : Nat) (x : List UInt8 × α), l[i]? = some x → (encIt enc l)[i * 2]? = some (.string ⟨x.1.toArray⟩) ∧ (encIt enc l)[i * 2 + 1]? = some (enc x.2)
  | [], i, x, h => by simp at h
  | y :: l, 0, x, h => by
    simp at h
    subst h
    exact ⟨rfl, rfl⟩
  | y :: l, i + 1, x, h => by
    have h := encIt_get enc l i x (by simpa using h)
    rw [encIt_cons, show (i + 1) * 2 = i * 2 + 1 + 1 from by omega, List.getElem?_cons_succ, List.getElem?_cons_succ, show i * 2 + 1 + 1 + 1 = (i * 2 + 1) + 1 + 1 from rfl, List.getElem?_cons_succ, List.getElem?_cons_succ]
    exact h

theorem encIt_set (enc : α → Value) (v : α) : ∀ (l : List (List UInt8 × α)) (i : Nat) (x : List UInt8 × α), l[i]? = some x → (encIt enc l).set (i * 2 + 1) (enc v) = encIt enc (l.set i (x.1, v))
  | [], i, x, h => by simp at h
  | y :: l, 0, x, h => by
    simp at h
    subst h
    rfl
  | y :: l, i + 1, x, h => by
    have h := encIt_set enc v l i x (by simpa using h)
    rw [encIt_cons, show (i + 1) * 2 + 1 = (i * 2 + 1) + 1 + 1 from by omega, List.set_cons_succ, List.set_cons_succ, h, List.set_cons_succ, encIt_cons]

theorem encIt_take (enc : α → Value) : ∀ (l : List (List UInt8 × α)) (i : Nat), (encIt enc l).take (i * 2) = encIt enc (l.take i)
  | [], i => by simp [encIt_nil]
  | y :: l, 0 => by simp [encIt_nil]
  | y :: l, i + 1 => by
    rw [encIt_cons, show (i + 1) * 2 = i * 2 + 1 + 1 from by omega, List.take_succ_cons, List.take_succ_cons, encIt_take enc l i, List.take_succ_cons, encIt_cons]

theorem encIt_drop (enc : α → Value) : ∀ (l : List (List UInt8 × α)) (i : Nat), (encIt enc l).drop (i * 2) = encIt enc (l.drop i)
  | [], i => by simp [encIt_nil]
  | y :: l, 0 => by simp
  | y :: l, i + 1 => by
    rw [encIt_cons, show (i + 1) * 2 = i * 2 + 1 + 1 from by omega, List.drop_succ_cons, List.drop_succ_cons, encIt_drop enc l i, List.drop_succ_cons]

theorem encIt_mem (enc : α → Value) (he : ∀ x, (enc x).oneCell' = true) (l : List (List UInt8 × α)) : ∀ u ∈ encIt enc l, u.oneCell' = true := by
  induction l with
  | nil => intro u hu; cases hu
  | cons x l ih =>
    intro u hu
    rw [encIt_cons] at hu
    rcases List.mem_cons.1 hu with rfl | hu
    · rfl
    · rcases List.mem_cons.1 hu with rfl | hu
      · exact he _
      · exact ih u hu

abbrev Own := Nat → Option (Nat × Nat)

def rowV (g n : Nat) : Value := if n = 0 then .slice none 0 0 else .slice (some ⟨g, 0, none⟩) n n

/-- A row of buckets: whose blocks they are, what they hold. -/
structure RowsAt (K : Kd α) (w : World) (base : Nat) (ow : Own) (Q g : Nat) (R : List (List (List UInt8 × α))) (sp : Nat → Value) : Prop where
  own : 0 < R.length → ow g = some (Q, 0)
  row : 0 < R.length → w.rowIs g K.tb R.length sp
  bkt : ∀ (i : Nat) (l : List (List UInt8 × α)), R[i]? = some l → w.ownsRow base K.te 2 (sp i) l.length (encIt K.enc l)
  lab : ∀ (i : Nat) (l : List (List UInt8 × α)) (b : Nat), R[i]? = some l → (sp i).ownBlock = some b → ow b = some (g, i)

/-- A table: its head and both rows. -/
structure TbOn (K : Kd α) (w : World) (base : Nat) (ow : Own) (Q : Nat) (tyT : TypeId) (nh : Nat) (hdr : Nat → Value) (RA : List (List (List UInt8 × α))) (gA : Nat) (sA : Nat → Value) (RB : List (List (List UInt8 × α))) (gB : Nat) (sB : Nat → Value) : Prop where
  hd : w.rowIs Q tyT nh hdr
  q : ow Q = some (Q, 1)
  a : RowsAt K w base ow Q gA RA sA
  b : RowsAt K w base ow Q gB RB sB
  ne : 0 < RA.length → 0 < RB.length → gA ≠ gB
  dom : ∀ k, ow k ≠ none → base ≤ k ∧ k < w.heap.size

/-- Of what was there only blocks of the table's own have turned; they stay its own. -/
structure Turns (ow ow' : Own) (w w' : World) : Prop where
  os : w'.os = w.os
  tape : w'.tape = w.tape
  output : w'.output = w.output
  size : w.heap.size ≤ w'.heap.size
  block : ∀ k, k < w.heap.size → ow k = none → w'.heap[k]? = w.heap[k]?
  same : ∀ k, k < w.heap.size → ow' k = ow k

theorem Turns.trans {o1 o2 o3 : Own} {w1 w2 w3 : World} (h : Turns o1 o2 w1 w2) (k : Turns o2 o3 w2 w3) : Turns o1 o3 w1 w3 :=
  ⟨k.os.trans h.os, k.tape.trans h.tape, k.output.trans h.output, Nat.le_trans h.size k.size,
    fun i hi ho => (k.block i (Nat.lt_of_lt_of_le hi h.size) ((h.same i hi).trans ho)).trans (h.block i hi ho),
    fun i hi => (k.same i (Nat.lt_of_lt_of_le hi h.size)).trans (h.same i hi)⟩

theorem Turns.of_below (ow : Own) {w w' : World} (h : Below w.heap.size w w') : Turns ow ow w w' :=
  ⟨h.os, h.tape, h.output, h.size, fun k hk _ => h.block k hk, fun _ _ => rfl⟩

theorem Turns.refl (ow : Own) (w : World) : Turns ow ow w w := Turns.of_below ow (Below.refl _ _)

theorem Turns.below {o1 o2 : Own} {w w' : World} {base : Nat} (h : Turns o1 o2 w w') (hb : base ≤ w.heap.size) (hd : ∀ k, o1 k ≠ none → base ≤ k) : Below base w w' :=
  ⟨h.os, h.tape, h.output, h.size, fun k hk => h.block k (Nat.lt_of_lt_of_le hk hb) (by
    cases hq : o1 k with
    | none => rfl
    | some x => have := hd k (by rw [hq]; exact fun e => by cases e); omega)⟩

section
variable {K : Kd α} {w w' : World} {base : Nat} {ow : Own} {Q : Nat} {tyT : TypeId} {nh : Nat} {hdr : Nat → Value} {RA RB : List (List (List UInt8 × α))} {gA gB : Nat} {sA sB : Nat → Value}

theorem ownsRow_of_block {e : TypeId} {size n : Nat} {v : Value} {xs : List Value} (h : w.ownsRow base e size v n xs) (hb : ∀ b, v.ownBlock = some b → w'.heap[b]? = w.heap[b]?) : w'.ownsRow base e size v n xs := by
  refine ⟨h.1, ?_⟩
  rcases h.2 with q | ⟨g, cap, cur, rfl, h1, h2, h3⟩
  · exact Or.inl q
  · exact Or.inr ⟨g, cap, cur, rfl, h1, (hb g rfl).trans h2, h3⟩

theorem RowsAt.keep {g : Nat} {R : List (List (List UInt8 × α))} {sp : Nat → Value} (h : RowsAt K w base ow Q g R sp) (hk : ∀ k, ow k ≠ none → w'.heap[k]? = w.heap[k]?) : RowsAt K w' base ow Q g R sp :=
  ⟨h.own, fun hp => (h.row hp).of_block (hk g (by rw [h.own hp]; exact fun e => by cases e)),
    fun i l hl => ownsRow_of_block (h.bkt i l hl) (fun b hb => hk b (by rw [h.lab i l b hl hb]; exact fun e => by cases e)), h.lab⟩

theorem TbOn.keep (h : TbOn K w base ow Q tyT nh hdr RA gA sA RB gB sB) (hs : w.heap.size ≤ w'.heap.size) (hk : ∀ k, ow k ≠ none → w'.heap[k]? = w.heap[k]?) : TbOn K w' base ow Q tyT nh hdr RA gA sA RB gB sB :=
  ⟨h.hd.of_block (hk Q (by rw [h.q]; exact fun e => by cases e)), h.q, h.a.keep hk, h.b.keep hk, h.ne, fun k ho => ⟨(h.dom k ho).1, Nat.lt_of_lt_of_le (h.dom k ho).2 hs⟩⟩

theorem TbOn.below (h : TbOn K w base ow Q tyT nh hdr RA gA sA RB gB sB) (hb : Below w.heap.size w w') : TbOn K w' base ow Q tyT nh hdr RA gA sA RB gB sB :=
  h.keep hb.size fun k hk => hb.block k (h.dom k hk).2

/-- Another table's calls. -/
theorem TbOn.beside {o2 o2' : Own} (h : TbOn K w base ow Q tyT nh hdr RA gA sA RB gB sB) (ht : Turns o2 o2' w w') (hd : ∀ k, ow k ≠ none → o2 k = none) : TbOn K w' base ow Q tyT nh hdr RA gA sA RB gB sB :=
  h.keep ht.size fun k hk => ht.block k (h.dom k hk).2 (hd k hk)

theorem TbOn.symm (h : TbOn K w base ow Q tyT nh hdr RA gA sA RB gB sB) : TbOn K w base ow Q tyT nh hdr RB gB sB RA gA sA :=
  ⟨h.hd, h.q, h.b, h.a, fun p q e => h.ne q p e.symm, h.dom⟩

theorem TbOn.gaQ (h : TbOn K w base ow Q tyT nh hdr RA gA sA RB gB sB) (hp : 0 < RA.length) : gA ≠ Q := fun e => by
  have h1 := h.a.own hp
  rw [e, h.q] at h1
  injection h1 with h1
  injection h1 with _ h1
  cases h1

theorem TbOn.gbQ (h : TbOn K w base ow Q tyT nh hdr RA gA sA RB gB sB) (hp : 0 < RB.length) : gB ≠ Q := h.symm.gaQ hp

theorem len_pos {R : List (List (List UInt8 × α))} {i : Nat} {l : List (List UInt8 × α)} (hl : R[i]? = some l) : 0 < R.length := Nat.lt_of_le_of_lt (Nat.zero_le i) (List.getElem?_eq_some_iff.1 hl).1

theorem TbOn.bQ (h : TbOn K w base ow Q tyT nh hdr RA gA sA RB gB sB) {i b : Nat} {l : List (List UInt8 × α)} (hl : RA[i]? = some l) (hb : (sA i).ownBlock = some b) : b ≠ Q := fun e => by
  have h1 := h.a.lab i l b hl hb
  rw [e, h.q] at h1
  injection h1 with h1
  injection h1 with h1 _
  exact h.gaQ (len_pos hl) h1.symm

theorem TbOn.bA (h : TbOn K w base ow Q tyT nh hdr RA gA sA RB gB sB) {i b : Nat} {l : List (List UInt8 × α)} (hl : RA[i]? = some l) (hb : (sA i).ownBlock = some b) : b ≠ gA := fun e => by
  have h1 := h.a.lab i l b hl hb
  rw [e, h.a.own (len_pos hl)] at h1
  injection h1 with h1
  injection h1 with h1 _
  exact h.gaQ (len_pos hl) h1.symm

theorem TbOn.bB (h : TbOn K w base ow Q tyT nh hdr RA gA sA RB gB sB) {i b : Nat} {l : List (List UInt8 × α)} (hl : RA[i]? = some l) (hb : (sA i).ownBlock = some b) (hp : 0 < RB.length) : b ≠ gB := fun e => by
  have h1 := h.a.lab i l b hl hb
  rw [e, h.b.own hp] at h1
  injection h1 with h1
  injection h1 with h1 _
  exact h.gaQ (len_pos hl) h1.symm

theorem TbOn.bb (h : TbOn K w base ow Q tyT nh hdr RA gA sA RB gB sB) {i j b c : Nat} {l m : List (List UInt8 × α)} (hl : RA[i]? = some l) (hm : RA[j]? = some m) (hb : (sA i).ownBlock = some b) (hc : (sA j).ownBlock = some c) (hij : i ≠ j) : b ≠ c := fun e => by
  have h1 := h.a.lab i l b hl hb
  rw [e, h.a.lab j m c hm hc] at h1
  injection h1 with h1
  injection h1 with _ h1
  exact hij h1.symm

theorem TbOn.bc (h : TbOn K w base ow Q tyT nh hdr RA gA sA RB gB sB) {i j b c : Nat} {l m : List (List UInt8 × α)} (hl : RA[i]? = some l) (hm : RB[j]? = some m) (hb : (sA i).ownBlock = some b) (hc : (sB j).ownBlock = some c) : b ≠ c := fun e => by
  have h1 := h.a.lab i l b hl hb
  rw [e, h.b.lab j m c hm hc] at h1
  injection h1 with h1
  injection h1 with h1 _
  exact h.ne (len_pos hl) (len_pos hm) h1.symm

/-- The head's cell j. -/
theorem TbOn.setHd (h : TbOn K w base ow Q tyT nh hdr RA gA sA RB gB sB) (j : Nat) (v : Value) : TbOn K (w.setCell ⟨Q, j, none⟩ v) base ow Q tyT nh (fun i => if i = j then v else hdr i) RA gA sA RB gB sB := by
  have hk : ∀ k, k ≠ Q → (w.setCell ⟨Q, j, none⟩ v).heap[k]? = w.heap[k]? := fun k hk => Below.heap_setCell _ _ _ _ hk
  exact ⟨h.hd.set j v, h.q,
    ⟨h.a.own, fun hp => (h.a.row hp).of_block (hk _ (h.gaQ hp)), fun i l hl => ownsRow_of_block (h.a.bkt i l hl) (fun b hb => hk b (h.bQ hl hb)), h.a.lab⟩,
    ⟨h.b.own, fun hp => (h.b.row hp).of_block (hk _ (h.gbQ hp)), fun i l hl => ownsRow_of_block (h.b.bkt i l hl) (fun b hb => hk b (h.symm.bQ hl hb)), h.b.lab⟩,
    h.ne, fun k ho => by simpa [World.setCell] using h.dom k ho⟩

theorem TbOn.turnsHd (h : TbOn K w base ow Q tyT nh hdr RA gA sA RB gB sB) (j : Nat) (v : Value) : Turns ow ow w (w.setCell ⟨Q, j, none⟩ v) :=
  ⟨rfl, rfl, rfl, by simp [World.setCell], fun k _ ho => Below.heap_setCell _ _ _ _ (fun e => by have e : k = Q := e; rw [e, h.q] at ho; cases ho), fun _ _ => rfl⟩

theorem TbOn.recap (h : TbOn K w base ow Q tyT nh hdr RA gA sA RB gB sB) {hdr' : Nat → Value} (e : ∀ i, i < nh → hdr i = hdr' i) : TbOn K w base ow Q tyT nh hdr' RA gA sA RB gB sB :=
  ⟨h.hd.congr e, h.q, h.a, h.b, h.ne, h.dom⟩

/-- The second row is taken away. -/
theorem TbOn.drop (h : TbOn K w base ow Q tyT nh hdr RA gA sA RB gB sB) (g : Nat) (s : Nat → Value) : TbOn K w base ow Q tyT nh hdr RA gA sA [] g s :=
  ⟨h.hd, h.q, h.a, ⟨fun hp => absurd hp (Nat.lt_irrefl 0), fun hp => absurd hp (Nat.lt_irrefl 0), fun i l hl => by simp at hl, fun i l b hl => by simp at hl⟩, fun _ hp => absurd hp (Nat.lt_irrefl 0), h.dom⟩

/-- A bucket is written anew. -/
theorem TbOn.upd (h : TbOn K w base ow Q tyT nh hdr RA gA sA RB gB sB) {i : Nat} {l l' : List (List UInt8 × α)} {v' : Value} (hi : RA[i]? = some l)
    (hsize : w.heap.size ≤ w'.heap.size) (hblk : ∀ k, k < w.heap.size → k ≠ gA → some k ≠ (sA i).ownBlock → w'.heap[k]? = w.heap[k]?)
    (hrow : w'.rowIs gA K.tb RA.length (fun j => if j = i then v' else sA j)) (hbk : w'.ownsRow base K.te 2 v' l'.length (encIt K.enc l'))
    (hown : v'.ownBlock = none ∨ v'.ownBlock = (sA i).ownBlock ∨ ∃ b, v'.ownBlock = some b ∧ w.heap.size ≤ b) :
    ∃ ow', TbOn K w' base ow' Q tyT nh hdr (RA.set i l') gA (fun j => if j = i then v' else sA j) RB gB sB ∧ ∀ k, k < w.heap.size → ow' k = ow k := by
  have hp := len_pos hi
  have hil := (List.getElem?_eq_some_iff.1 hi).1
  have hsame : ∀ k, k < w.heap.size → (if some k = v'.ownBlock then some (gA, i) else ow k) = ow k := fun k hk => by
    by_cases e : some k = v'.ownBlock
    · rw [if_pos e]
      rcases hown with h1 | h1 | ⟨b, h1, h2⟩
      · rw [h1] at e; cases e
      · exact (h.a.lab i l k hi (by rw [← h1, e])).symm
      · rw [h1] at e; injection e with e; omega
    · rw [if_neg e]
  have hlt : ∀ {k x}, ow k = some x → k < w.heap.size := fun e => (h.dom _ (by rw [e]; exact fun q => by cases q)).2
  refine ⟨fun k => if some k = v'.ownBlock then some (gA, i) else ow k, ⟨?_, ?_, ⟨?_, ?_, ?_, ?_⟩, ⟨?_, ?_, ?_, ?_⟩, ?_, ?_⟩, hsame⟩
  · refine h.hd.of_block (hblk Q (hlt h.q) (h.gaQ hp).symm ?_)
    intro e
    exact h.bQ hi e.symm rfl
  · exact (hsame Q (hlt h.q)).trans h.q
  · intro _
    exact (hsame gA (hlt (h.a.own hp))).trans (h.a.own hp)
  · intro _
    rw [List.length_set]
    exact hrow
  · intro j m hm
    rw [List.getElem?_set] at hm
    by_cases e : i = j
    · subst e
      rw [if_pos rfl, if_pos hil] at hm
      injection hm with hm
      subst hm
      rw [if_pos rfl]
      exact hbk
    · rw [if_neg e] at hm
      rw [if_neg (fun q => e q.symm)]
      refine ownsRow_of_block (h.a.bkt j m hm) fun b hb => hblk b (hlt (h.a.lab j m b hm hb)) (h.bA hm hb) fun q => ?_
      exact h.bb hm hi hb q.symm (fun q => e q.symm) rfl
  · intro j m b hm hb
    rw [List.getElem?_set] at hm
    by_cases e : i = j
    · subst e
      rw [if_pos rfl] at hb
      show (if some b = v'.ownBlock then some (gA, i) else ow b) = some (gA, i)
      rw [if_pos hb.symm]
    · rw [if_neg e] at hm
      rw [if_neg (fun q => e q.symm)] at hb
      have h1 := h.a.lab j m b hm hb
      exact (hsame b (hlt h1)).trans h1
  · intro q
    exact (hsame gB (hlt (h.b.own q))).trans (h.b.own q)
  · intro q
    refine (h.b.row q).of_block (hblk gB (hlt (h.b.own q)) (fun e => h.ne hp q e.symm) fun e => ?_)
    exact h.bB hi e.symm q rfl
  · intro j m hm
    refine ownsRow_of_block (h.b.bkt j m hm) fun b hb => hblk b (hlt (h.b.lab j m b hm hb)) (h.symm.bB hm hb hp) fun q => ?_
    exact h.bc hi hm q.symm hb rfl
  · intro j m b hm hb
    have h1 := h.b.lab j m b hm hb
    exact (hsame b (hlt h1)).trans h1
  · rw [List.length_set]
    exact h.ne
  · intro k hk
    by_cases e : some k = v'.ownBlock
    · exact hbk.lt k e.symm
    · have hk : (if some k = v'.ownBlock then some (gA, i) else ow k) ≠ none := hk
      rw [if_neg e] at hk
      exact ⟨(h.dom k hk).1, Nat.lt_of_lt_of_le (h.dom k hk).2 hsize⟩

/-- .. and its slice is stored in its row. -/
theorem TbOn.store {w1 : World} (h : TbOn K w base ow Q tyT nh hdr RA gA sA RB gB sB) {i : Nat} {l l' : List (List UInt8 × α)} {v' : Value} (hi : RA[i]? = some l) (hg : w.grownBy w1 (sA i).ownBlock)
    (hbk : w1.ownsRow base K.te 2 v' l'.length (encIt K.enc l')) (hown : v'.ownBlock = none ∨ v'.ownBlock = (sA i).ownBlock ∨ ∃ b, v'.ownBlock = some b ∧ w.heap.size ≤ b) :
    ∃ ow', TbOn K (w1.setCell ⟨gA, i, none⟩ v') base ow' Q tyT nh hdr (RA.set i l') gA (fun j => if j = i then v' else sA j) RB gB sB ∧ Turns ow ow' w (w1.setCell ⟨gA, i, none⟩ v') := by
  have hp := len_pos hi
  have hsz : (w1.setCell ⟨gA, i, none⟩ v').heap.size = w1.heap.size := by simp [World.setCell]
  have hga : gA < w.heap.size := (h.a.row hp).lt
  have hrow1 : w1.rowIs gA K.tb RA.length sA := (h.a.row hp).of_block (hg.block gA hga (fun e => h.bA hi e.symm rfl))
  have hnb : ∀ b, v'.ownBlock = some b → b ≠ gA := fun b hb => by
    rcases hown with h1 | h1 | ⟨c, h1, h2⟩
    · rw [h1] at hb; cases hb
    · exact h.bA hi (h1.symm.trans hb)
    · rw [h1] at hb; injection hb with hb; omega
  obtain ⟨ow', h1, h2⟩ := h.upd (w' := w1.setCell ⟨gA, i, none⟩ v') (l' := l') (v' := v') hi (by rw [hsz]; exact hg.size)
    (fun k hk hne hnb' => (Below.heap_setCell _ _ _ _ hne).trans (hg.block k hk hnb')) (hrow1.set i v')
    (ownsRow_of_block hbk fun b hb => Below.heap_setCell _ _ _ _ (hnb b hb)) hown
  refine ⟨ow', h1, hg.os, hg.tape, hg.output, by rw [hsz]; exact hg.size, fun k hk ho => ?_, h2⟩
  refine (Below.heap_setCell _ _ _ _ ?_).trans (hg.block k hk ?_)
  · intro e
    have e : k = gA := e
    rw [e, h.a.own hp] at ho
    cases ho
  · intro e
    rw [h.a.lab i l k hi e.symm] at ho
    cases ho

/-- A value is stored where it stands. -/
theorem TbOn.storeV (h : TbOn K w base ow Q tyT nh hdr RA gA sA RB gB sB) {i j b n cap : Nat} {l : List (List UInt8 × α)} {x : List UInt8 × α} (hi : RA[i]? = some l) (hj : l[j]? = some x) (hs : sA i = .slice (some ⟨b, 0, none⟩) n cap) (v : α) :
    ∃ ow', TbOn K (w.setCell ⟨b, j * 2 + 1, none⟩ (K.enc v)) base ow' Q tyT nh hdr (RA.set i (l.set j (x.1, v))) gA sA RB gB sB ∧ Turns ow ow' w (w.setCell ⟨b, j * 2 + 1, none⟩ (K.enc v)) := by
  have hp := len_pos hi
  have hob : (sA i).ownBlock = some b := by rw [hs]; rfl
  have hbk := h.a.bkt i l hi
  rw [hs] at hbk
  have hn : n = l.length := by
    rcases hbk.2 with ⟨e, _⟩ | ⟨g, c, cur, e, _⟩
    · cases e
    · injection e
  subst hn
  obtain ⟨k1, k2⟩ := World.ownsRow.stored hbk (j * 2 + 1) (K.enc v)
  rw [encIt_set K.enc v l j x hj] at k1
  obtain ⟨ow', h1, h2⟩ := h.upd (w' := w.setCell ⟨b, j * 2 + 1, none⟩ (K.enc v)) (l' := l.set j (x.1, v)) (v' := sA i) hi (by simp [World.setCell])
    (fun k _ _ hnb' => Below.heap_setCell _ _ _ _ (fun e => hnb' (by rw [hob]; have e : k = b := e; rw [e])))
    (((h.a.row hp).of_block (Below.heap_setCell _ _ _ _ (fun e => h.bA hi hob e.symm))).congr (fun k _ => by split <;> simp_all))
    (by rw [hs, List.length_set]; exact k1) (Or.inr (Or.inl rfl))
  have he : (fun k => if k = i then sA i else sA k) = sA := by funext k; split <;> simp_all
  rw [he] at h1
  refine ⟨ow', h1, rfl, rfl, rfl, by simp [World.setCell], fun k hk ho => Below.heap_setCell _ _ _ _ ?_, h2⟩
  intro e
  have e : k = b := e
  rw [e, h.a.lab i l b hi hob] at ho
  cases ho

/-- A second row of empty buckets is made. -/
theorem TbOn.fresh (h : TbOn K w base ow Q tyT nh hdr RA gA sA [] gB sB) (n : Nat) (hb : base ≤ w.heap.size) :
    ∃ ow', TbOn K (w.alloc (.cells (madeCells #[.slice none 0 0] n) K.tb)) base ow' Q tyT nh hdr RA gA sA (List.replicate n []) w.heap.size (fun _ => .slice none 0 0) ∧ Turns ow ow' w (w.alloc (.cells (madeCells #[.slice none 0 0] n) K.tb)) := by
  have hB := Below.alloc (Below.refl w.heap.size w) (Nat.le_refl _) (.cells (madeCells #[.slice none 0 0] n) K.tb)
  have hsame : ∀ k, k < w.heap.size → (if k = w.heap.size then some (Q, 0) else ow k) = ow k := fun k hk => by rw [if_neg (by omega)]
  have hlt : ∀ {k x}, ow k = some x → k < w.heap.size := fun e => (h.dom _ (by rw [e]; exact fun q => by cases q)).2
  have h' := h.below hB
  refine ⟨fun k => if k = w.heap.size then some (Q, 0) else ow k, ⟨h'.hd, (hsame Q (hlt h.q)).trans h.q,
    ⟨fun hp => (hsame gA (hlt (h.a.own hp))).trans (h.a.own hp), h'.a.row, h'.a.bkt, fun i l b hl hb => (hsame b (hlt (h.a.lab i l b hl hb))).trans (h.a.lab i l b hl hb)⟩,
    ⟨fun _ => if_pos rfl, fun _ => ?_, fun i l hl => ?_, fun i l b hl hb => ?_⟩, fun hp _ e => ?_, fun k hk => ?_⟩, ⟨hB.os, hB.tape, hB.output, hB.size, fun k hk _ => hB.block k hk, hsame⟩⟩
  · rw [List.length_replicate]
    exact World.rowIs_made w _ n K.tb
  · rw [List.getElem?_replicate] at hl
    split at hl
    · injection hl with hl
      subst hl
      exact World.ownsRow_nil _ _ _ _
    · cases hl
  · cases hb
  · have := hlt (h.a.own hp)
    omega
  · have hz : (w.alloc (.cells (madeCells #[.slice none 0 0] n) K.tb)).heap.size = w.heap.size + 1 := by simp
    rw [hz]
    by_cases e : k = w.heap.size
    · omega
    · have hk : (if k = w.heap.size then some (Q, 0) else ow k) ≠ none := hk
      rw [if_neg e] at hk
      have := h.dom k hk
      omega

end
end

end Go.Proofs.Ytcjoakbaldeaoaa
