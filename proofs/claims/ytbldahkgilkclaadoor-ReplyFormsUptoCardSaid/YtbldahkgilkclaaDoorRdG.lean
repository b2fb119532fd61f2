/-
  Replies as trees, and where they lie in memory; what the document's reader tells of bytes. No condition. The walk of the document's reader of replies: reply, given array's. Conditions: no fault as yet. The walk of the document's reader of replies: array, given reply's. Conditions: no fault as yet. The walk of the document's reader of replies: array, given reply's. Conditions: no fault as yet. The walk of the document's own Decode. Conditions: the bytes lie in memory, at most 70000. The walk of the document's own Same at two values that read as one tree. Conditions: as typed.
-/
import Derived.Test.YtbldahkgilkclaaDoorRdA
import Derived.Test.YtbldahkgilkclaaDoorKit
import Derived.Test.YtbldahkgilkclaaDoorRyC
import Derived.Deep.RegionLaw
namespace Go.Proofs.YtbldahkgilkclaaDoor
open Go.RowKit

/-- A reply: its kind, text, number, list. -/
inductive RT where
  | node (k : Nat) (t : List UInt8) (n : Int) (l : List RT)

def rt0 : RT := .node 0 [] 0 []

/-- Four values read as a reply; the rows of its lists lie in blocks of P. -/
inductive RepAt (w : World) (P : Nat → Prop) : RT → List Value → Prop
  | leaf (k : Nat) (t : List UInt8) (n : Int) (T : ByteArray) (hT : T.data.toList = t) : RepAt w P (.node k t n []) [.int .i64 k, .string T, .int .i64 n, .slice none 0 0]
  | row (k : Nat) (t : List UInt8) (n : Int) (l : List RT) (T : ByteArray) (g o c : Nat) (css : Nat → List Value) (hT : T.data.toList = t) (hl : l.length ≤ c) (hm : c ≤ 9223372036854775807) (hP : P g) (hg : g < w.heap.size)
      (h4 : ∀ j, j < l.length → (css j).length = 4) (hcell : ∀ j f, j < l.length → f < 4 → w.cell? ⟨g, o + j * 4 + f, none⟩ = (css j)[f]?)
      (hc : ∀ j x, l[j]? = some x → RepAt w P x (css j)) : RepAt w P (.node k t n l) [.int .i64 k, .string T, .int .i64 n, .slice (some ⟨g, o, none⟩) l.length c]

theorem RepAt.keep {w w' : World} {P Q : Nat → Prop} {x : RT} {cs : List Value} (h : RepAt w P x cs) (hs : w.heap.size ≤ w'.heap.size) (hQ : ∀ g, P g → g < w.heap.size → Q g) (hk : ∀ g, P g → g < w.heap.size → w'.heap[g]? = w.heap[g]?) : RepAt w' Q x cs := by
  induction h with
  | leaf k t n T hT => exact .leaf k t n T hT
  | row k t n l T g o c css hT hl hm hP hg h4 hcell hc ih =>
    exact .row k t n l T g o c css hT hl hm (hQ g hP hg) (Nat.lt_of_lt_of_le hg hs) h4 (fun j f hj hf => (World.cell?_of_block (w := w) (a := ⟨g, o + j * 4 + f, none⟩) (hk g hP hg)).trans (hcell j f hj hf)) (fun j x hx => ih j x hx)

theorem RepAt.weak {w : World} {P Q : Nat → Prop} {x : RT} {cs : List Value} (h : RepAt w P x cs) (hQ : ∀ g, P g → g < w.heap.size → Q g) : RepAt w Q x cs := h.keep (Nat.le_refl _) hQ (fun _ _ _ => rfl)

/-- Such values, one by one. -/
theorem RepAt.form {w : World} {P : Nat → Prop} {k : Nat} {t : List UInt8} {n : Int} {l : List RT} {cs : List Value} (h : RepAt w P (.node k t n l) cs) :
    ∃ (T : ByteArray) (A : Option Addr) (c : Nat), cs = [.int .i64 k, .string T, .int .i64 n, .slice A l.length c] ∧ T.data.toList = t ∧ l.length ≤ 9223372036854775807 ∧ ∀ (j : Nat) (x : RT), l[j]? = some x → ∃ (g o : Nat) (v0 v1 v2 v3 : Value), A = some ⟨g, o, none⟩ ∧ g < w.heap.size ∧
      (w.cell? ⟨g, o + j * 4, none⟩ = some v0 ∧ w.cell? ⟨g, o + j * 4 + 1, none⟩ = some v1 ∧ w.cell? ⟨g, o + j * 4 + 2, none⟩ = some v2 ∧ w.cell? ⟨g, o + j * 4 + 3, none⟩ = some v3) ∧ RepAt w P x [v0, v1, v2, v3] := by
  cases h with
  | leaf _ _ _ T hT => exact ⟨T, none, 0, rfl, hT, by simp, fun j x hx => by simp at hx⟩
  | row _ _ _ _ T g o c css hT hl hm hP hg h4 hcell hc =>
    refine ⟨T, _, c, rfl, hT, by omega, fun j x hx => ?_⟩
    have hj : j < l.length := (List.getElem?_eq_some_iff.1 hx).1
    have h4j := h4 j hj
    have hcx := hc j x hx
    have hcj := fun f hf => hcell j f hj hf
    obtain ⟨v0, v1, v2, v3, hv⟩ : ∃ v0 v1 v2 v3, css j = [v0, v1, v2, v3] := by
      match css j, h4j with
      | [a, b, c, d], _ => exact ⟨a, b, c, d, rfl⟩
    rw [hv] at hcx hcj
    exact ⟨g, o, v0, v1, v2, v3, rfl, hg, ⟨hcj 0 (by decide), hcj 1 (by decide), hcj 2 (by decide), hcj 3 (by decide)⟩, hcx⟩

/-- The rows lie in blocks that there were. -/
theorem RepAt.old {w : World} {P : Nat → Prop} {x : RT} {cs : List Value} (h : RepAt w P x cs) : RepAt w (fun g => P g ∧ g < w.heap.size) x cs := h.weak fun _ h1 h2 => ⟨h1, h2⟩

/-- So many replies, one behind the other, as long as there is no fault. -/
def timesS (f : Nat → RT × (Nat × Nat)) : Nat → (Nat × Nat) → List RT × (Nat × Nat)
  | 0, s => ([], s)
  | n + 1, s => if s.2 = 0 then ((f s.1).1 :: (timesS f n (f s.1).2).1, (timesS f n (f s.1).2).2) else ([], s)

/-- The document's array behind its mark. -/
def arrayS (f : Nat → RT × (Nat × Nat)) (bs : List UInt8) (i : Nat) : RT × (Nat × Nat) :=
  if (endS bs (countS bs 131072 (i, 0)).2).2 ≠ 0 ∨ (countS bs 131072 (i, 0)).1 < 0 then (.node 7 [] 0 [], endS bs (countS bs 131072 (i, 0)).2)
  else (.node 6 [] 0 (timesS f (countS bs 131072 (i, 0)).1.toNat (endS bs (countS bs 131072 (i, 0)).2)).1, (timesS f (countS bs 131072 (i, 0)).1.toNat (endS bs (countS bs 131072 (i, 0)).2)).2)

/-- The document's reply, where so many arrays more may stand in one another. -/
def replyS (bs : List UInt8) : Nat → Nat → RT × (Nat × Nat)
  | left, i =>
    if bs.length ≤ i then (rt0, (i, 31))
    else if (bs.getD i 0).toNat = 43 then (.node 1 (textB bs (i + 1)) 0 [], textS bs (i + 1))
    else if (bs.getD i 0).toNat = 45 then (.node 2 (textB bs (i + 1)) 0 [], textS bs (i + 1))
    else if (bs.getD i 0).toNat = 58 then (.node 3 [] (integerS bs (i + 1, 0)).1 [], endS bs (integerS bs (i + 1, 0)).2)
    else if (bs.getD i 0).toNat = 36 then (.node (dblkS bs (i + 1)).1.1 (dblkS bs (i + 1)).1.2 0 [], (dblkS bs (i + 1)).2)
    else if (bs.getD i 0).toNat = 42 then
      match left with
      | 0 => (.node 7 [] 0 [], flatS bs i)
      | l + 1 => arrayS (replyS bs l) bs (i + 1)
    else (rt0, (i, 30))

theorem replyS_eq (bs : List UInt8) (left i c : Nat) (hl : ¬ bs.length ≤ i) (hc : (bs.getD i 0).toNat = c) : replyS bs left i =
    if c = 43 then (.node 1 (textB bs (i + 1)) 0 [], textS bs (i + 1))
    else if c = 45 then (.node 2 (textB bs (i + 1)) 0 [], textS bs (i + 1))
    else if c = 58 then (.node 3 [] (integerS bs (i + 1, 0)).1 [], endS bs (integerS bs (i + 1, 0)).2)
    else if c = 36 then (.node (dblkS bs (i + 1)).1.1 (dblkS bs (i + 1)).1.2 0 [], (dblkS bs (i + 1)).2)
    else if c = 42 then
      match left with
      | 0 => (.node 7 [] 0 [], flatS bs i)
      | l + 1 => arrayS (replyS bs l) bs (i + 1)
    else (rt0, (i, 30)) := by
  rw [replyS.eq_def]
  simp only []
  rw [if_neg hl, hc]
theorem replyS_short (bs : List UInt8) (left i : Nat) (hl : bs.length ≤ i) : replyS bs left i = (rt0, (i, 31)) := by
  rw [replyS.eq_def]
  simp only []
  rw [if_pos hl]

/-- What the document's reply or array has told. -/
def DPost (w : World) (R : Nat) (A : Option Addr) (b o cap : Nat) (bs : List UInt8) (x : RT × (Nat × Nat)) (en : Ending) (w' : World) : Prop :=
  ∃ (k : Nat) (T : ByteArray) (n : Int) (A' : Option Addr) (l c : Nat), en = .returned (.agg #[.int .i64 k, .string T, .int .i64 n, .slice A' l c]) ∧
    (x.2.2 = 0 → RepAt w' (fun g => w.heap.size ≤ g) x.1 [.int .i64 k, .string T, .int .i64 n, .slice A' l c]) ∧ Went w R A b o cap bs x.2 w'

theorem textS_ok {bs : List UInt8} {i : Nat} (h : (textS bs i).2 = 0) : (scanL 0 (bs.drop i)).2 = 0 := by
  unfold textS at h
  by_cases h0 : (scanL 0 (bs.drop i)).2 = 0
  · exact h0
  · rw [if_neg h0] at h; exact h


/-- An array that is being made: its four cells. -/
structure ArrAt (w : World) (N : Nat) (vr : Value) (rows : List (List Value)) : Prop where
  lt : N < w.heap.size
  c0 : w.cell? ⟨N, 0, none⟩ = some (.int .i64 6)
  c1 : w.cell? ⟨N, 1, none⟩ = some (.string ⟨#[]⟩)
  c2 : w.cell? ⟨N, 2, none⟩ = some (.int .i64 0)
  c3 : w.cell? ⟨N, 3, none⟩ = some vr
  f3 : w.frozen? ⟨N, 3, none⟩ = false
  own : w.ownsRow (N + 1) 25 4 vr rows.length rows.flatten

theorem arr_new (w : World) : ArrAt (w.alloc (.cells #[.int .i64 6, .string ⟨#[]⟩, .int .i64 0, .slice none 0 0] 25)) w.heap.size (.slice none 0 0) [] :=
  have h := World.alloc_heap_new w (.cells #[.int .i64 6, .string ⟨#[]⟩, .int .i64 0, .slice none 0 0] 25)
  { lt := by simp
    c0 := (cell_in h).trans rfl
    c1 := (cell_in h).trans rfl
    c2 := (cell_in h).trans rfl
    c3 := (cell_in h).trans rfl
    f3 := mark_in h
    own := ⟨by simp, .inl ⟨rfl, rfl⟩⟩ }

theorem ArrAt.ne {w : World} {N : Nat} {vr : Value} {rows : List (List Value)} (h : ArrAt w N vr rows) : vr.ownBlock ≠ some N := fun e => by have := (own_lt h.own e).1; omega

theorem ArrAt.grown {w w1 : World} {N q : Nat} {vr : Value} {rows : List (List Value)} (h : ArrAt w N vr rows) (hg : w.grownBy w1 (some q)) (hq : q < N) : ArrAt w1 N vr rows := by
  have hne : ¬ (some N = some q) := fun e => by injection e with e; omega
  have hb := hg.block N h.lt hne
  exact ⟨Nat.lt_of_lt_of_le h.lt hg.size, (World.cell?_of_block (a := ⟨N, 0, none⟩) hb).trans h.c0, (World.cell?_of_block (a := ⟨N, 1, none⟩) hb).trans h.c1, (World.cell?_of_block (a := ⟨N, 2, none⟩) hb).trans h.c2, (World.cell?_of_block (a := ⟨N, 3, none⟩) hb).trans h.c3, (World.frozen?_of_block (a := ⟨N, 3, none⟩) hb).trans h.f3, own_grown h.own hg (by omega)⟩

theorem ArrAt.more {w w1 : World} {N : Nat} {vr v' : Value} {rows : List (List Value)} {cs : List Value} (h : ArrAt w N vr rows) (hg : w.grownBy w1 vr.ownBlock) (ho : w1.ownsRow (N + 1) 25 4 v' (rows.length + 1) (rows.flatten ++ cs)) :
    ArrAt (w1.setCell ⟨N, 3, none⟩ v') N v' (rows ++ [cs]) := by
  have hne := h.ne
  have hb := hg.block N h.lt (fun e => hne e.symm)
  have hR : N < w1.heap.size := Nat.lt_of_lt_of_le h.lt hg.size
  have hk := Put.set w1 (p := ⟨N, 3, none⟩) v' hR
  have c0 := (World.cell?_of_block (a := ⟨N, 0, none⟩) hb).trans h.c0
  have c1 := (World.cell?_of_block (a := ⟨N, 1, none⟩) hb).trans h.c1
  have c2 := (World.cell?_of_block (a := ⟨N, 2, none⟩) hb).trans h.c2
  have c3 := (World.cell?_of_block (a := ⟨N, 3, none⟩) hb).trans h.c3
  have f3 := (World.frozen?_of_block (a := ⟨N, 3, none⟩) hb).trans h.f3
  refine ⟨by have := hk.size; omega, (hk.old (q := ⟨N, 0, none⟩) (by intro e; injection e with _ e _; cases e) hR).trans c0, (hk.old (q := ⟨N, 1, none⟩) (by intro e; injection e with _ e _; cases e) hR).trans c1, (hk.old (q := ⟨N, 2, none⟩) (by intro e; injection e with _ e _; cases e) hR).trans c2, hk.cell c3, (hk.frozen (q := ⟨N, 3, none⟩) hR).trans f3, ?_⟩
  rw [List.length_append, List.length_singleton, List.flatten_append, List.flatten_singleton]
  exact ownsRow_set ho N (Nat.lt_succ_self N) 3 v'

theorem RdAt.grown {w w1 : World} {R : Nat} {A : Option Addr} {b o cap : Nat} {bs : List UInt8} {i e : Nat} (h : RdAt w R A b o cap bs i e) {row : Option Nat} (hg : w.grownBy w1 row) (hR : row ≠ some R) (hb : row ≠ some b) : RdAt w1 R A b o cap bs i e := by
  have hl := h.lt
  have hR' : some R ≠ row := fun e => hR e.symm
  refine ⟨(hg.cell_far ⟨R, 0, none⟩ hl hR').trans h.c0, (hg.cell_far ⟨R, 1, none⟩ hl hR').trans h.c1, (hg.cell_far ⟨R, 2, none⟩ hl hR').trans h.c2, (hg.frozen_far ⟨R, 1, none⟩ hl hR').trans h.f1, (hg.frozen_far ⟨R, 2, none⟩ hl hR').trans h.f2, h.hA, fun j hj => ?_, h.ne, h.le, h.big, h.cl, h.cm⟩
  have hc := h.at_ j hj
  exact (hg.cell_far ⟨b, o + j, none⟩ (World.block_lt_of_cell? w ⟨b, o + j, none⟩ hc) (fun e => hb e.symm)).trans hc

theorem Went.grow {w w1 w2 : World} {R : Nat} {A : Option Addr} {b o cap : Nat} {bs : List UInt8} {s : Nat × Nat} (h : Went w R A b o cap bs s w1) (hR : R < w.heap.size) (hb : b < w.heap.size) {row : Option Nat} (hg : w1.grownBy w2 row) (hr : ∀ k, row = some k → w.heap.size ≤ k) : Went w R A b o cap bs s w2 :=
  ⟨h.rd.grown hg (fun e => by have := hr _ e; omega) (fun e => by have := hr _ e; omega), World.grownBy.andThen h.grown hg (fun j hj => Or.inl (hr j hj))⟩

/-- What was read so far lies in the array's row. -/
def Kids (w : World) (N : Nat) (vr : Value) (xs : List RT) (rows : List (List Value)) : Prop :=
  xs.length = rows.length ∧ ∀ (j : Nat) (x : RT), xs[j]? = some x → ∃ cs, rows[j]? = some cs ∧ RepAt w (fun g => N < g ∧ vr.ownBlock ≠ some g) x cs

theorem Kids.grown {w w1 : World} {N q : Nat} {vr : Value} {xs : List RT} {rows : List (List Value)} (h : Kids w N vr xs rows) (hg : w.grownBy w1 (some q)) (hq : q < N) : Kids w1 N vr xs rows :=
  ⟨h.1, fun j x hx => by
    obtain ⟨cs, h1, h2⟩ := h.2 j x hx
    exact ⟨cs, h1, h2.keep hg.size (fun _ h _ => h) (fun g h3 h4 => hg.block g h4 (fun e => by injection e with e; omega))⟩⟩

theorem flatten_get : ∀ (rows : List (List Value)) (_ : ∀ r ∈ rows, r.length = 4) (j : Nat) (cs : List Value), rows[j]? = some cs → ∀ f, f < 4 → rows.flatten[j * 4 + f]? = cs[f]?
  | [], _, j, cs, h, _, _ => by simp at h
  | x :: r, h4, 0, cs, h, f, hf => by
    simp only [List.getElem?_cons_zero, Option.some.injEq] at h
    subst h
    have := h4 x (by simp)
    rw [List.flatten_cons, Nat.zero_mul, Nat.zero_add, List.getElem?_append_left (by omega)]
  | x :: r, h4, j + 1, cs, h, f, hf => by
    simp only [List.getElem?_cons_succ] at h
    have ih := flatten_get r (fun y hy => h4 y (by simp [hy])) j cs h f hf
    have := h4 x (by simp)
    rw [List.flatten_cons, List.getElem?_append_right (by omega), ← ih]
    congr 1
    omega

theorem Kids.more {w w1 : World} {N : Nat} {vr v' : Value} {xs : List RT} {rows : List (List Value)} {x : RT} {cs : List Value} (h : Kids w N vr xs rows) (hs : w.heap.size ≤ w1.heap.size)
    (hk : ∀ g, g < w.heap.size → N < g → vr.ownBlock ≠ some g → w1.heap[g]? = w.heap[g]?) (hv : vr.ownBlock = v'.ownBlock ∨ ∃ g, v'.ownBlock = some g ∧ w.heap.size ≤ g)
    (hx : RepAt w1 (fun g => N < g ∧ v'.ownBlock ≠ some g) x cs) : Kids w1 N v' (xs ++ [x]) (rows ++ [cs]) := by
  refine ⟨by simp [h.1], fun j y hy => ?_⟩
  by_cases hj : j < xs.length
  · rw [List.getElem?_append_left hj] at hy
    obtain ⟨ds, h1, h2⟩ := h.2 j y hy
    refine ⟨ds, by rw [List.getElem?_append_left (by rw [← h.1]; exact hj)]; exact h1, h2.keep hs (fun g h3 h4 => ⟨h3.1, fun e => ?_⟩) (fun g h3 h4 => hk g h4 h3.1 h3.2)⟩
    rcases hv with hv | ⟨g', hv, hg⟩
    · exact h3.2 (hv.trans e)
    · rw [hv] at e; injection e with e; omega
  · obtain rfl : j = xs.length := by
      have := (List.getElem?_eq_some_iff.1 hy).1
      simp at this
      omega
    simp only [List.getElem?_append_right (Nat.le_refl _), Nat.sub_self, List.getElem?_cons_zero, Option.some.injEq] at hy
    subst hy
    exact ⟨cs, by rw [h.1]; simp, hx⟩

/-- The array's row as a tree. -/
theorem ArrAt.tree {w : World} {N : Nat} {vr : Value} {rows : List (List Value)} {xs : List RT} (h : ArrAt w N vr rows) (h4 : ∀ r ∈ rows, r.length = 4) (hk : Kids w N vr xs rows) :
    RepAt w (fun g => N < g) (.node 6 [] 0 xs) [.int .i64 6, .string ⟨#[]⟩, .int .i64 0, vr] := by
  have hl := hk.1
  rcases h.own.2 with ⟨rfl, h0⟩ | ⟨g, cap, cur, rfl, hg, hh, hc, hm, hrest⟩
  · obtain rfl : xs = [] := List.length_eq_zero_iff.1 (by omega)
    exact .leaf 6 [] 0 ⟨#[]⟩ rfl
  · rw [← hl]
    have hlt : g < w.heap.size := (Array.getElem?_eq_some_iff.1 hh).1
    refine .row 6 [] 0 xs ⟨#[]⟩ g 0 cap (fun j => rows.getD j []) rfl (by omega) (by unfold maxLen at hm; omega) (by omega) hlt (fun j hj => ?_) (fun j f hj hf => ?_) (fun j x hx => ?_)
    · have : j < rows.length := by omega
      rw [List.getD_eq_getElem?_getD, List.getElem?_eq_getElem this]
      exact h4 _ (List.getElem_mem this)
    · have hj' : j < rows.length := by omega
      have e := flatten_get rows h4 j _ (List.getElem?_eq_getElem hj') f hf
      have e4 := h4 _ (List.getElem_mem hj')
      rw [List.getD_eq_getElem?_getD, List.getElem?_eq_getElem hj']
      have hx : rows[j][f]? = some rows[j][f] := List.getElem?_eq_getElem (by omega)
      have := h.own.cells (g := g) rfl _ _ (e.trans hx)
      rw [Go.WideShapes.add_plain] at this
      show w.cell? ⟨g, 0 + j * 4 + f, none⟩ = rows[j][f]?
      rw [hx, ← this, Nat.add_assoc]
    · obtain ⟨cs, h1, h2⟩ := hk.2 j x hx
      rw [List.getD_eq_getElem?_getD, h1]
      exact h2.weak (fun _ h _ => h.1)

theorem timesS_zero (f : Nat → RT × (Nat × Nat)) (s : Nat × Nat) : timesS f 0 s = ([], s) := rfl
theorem timesS_fault (f : Nat → RT × (Nat × Nat)) (n : Nat) (s : Nat × Nat) (h : s.2 ≠ 0) : timesS f n s = ([], s) := by
  cases n with
  | zero => rfl
  | succ n => rw [timesS, if_neg h]
theorem timesS_more (f : Nat → RT × (Nat × Nat)) (n i : Nat) : timesS f (n + 1) (i, 0) = ((f i).1 :: (timesS f n (f i).2).1, (timesS f n (f i).2).2) := by
  rw [timesS, if_pos rfl]

/-- So far. -/
def TimesK (f : Nat → RT × (Nat × Nat)) (n : Nat) (s0 : Nat × Nat) (k : Nat) (xs : List RT) (s : Nat × Nat) : Prop :=
  timesS f n s0 = (xs ++ (timesS f (n - k) s).1, (timesS f (n - k) s).2)
theorem TimesK.start (f : Nat → RT × (Nat × Nat)) (n : Nat) (s : Nat × Nat) : TimesK f n s 0 [] s := by unfold TimesK; simp
theorem TimesK.more {f : Nat → RT × (Nat × Nat)} {n k i : Nat} {s0 : Nat × Nat} {xs : List RT} (h : TimesK f n s0 k xs (i, 0)) (hk : k < n) : TimesK f n s0 (k + 1) (xs ++ [(f i).1]) (f i).2 := by
  unfold TimesK at h ⊢
  rw [h, show n - k = (n - (k + 1)) + 1 from by omega, timesS_more]
  simp
theorem TimesK.done {f : Nat → RT × (Nat × Nat)} {n k : Nat} {s0 s : Nat × Nat} {xs : List RT} (h : TimesK f n s0 k xs s) (hk : n ≤ k ∨ s.2 ≠ 0) : timesS f n s0 = (xs, s) := by
  unfold TimesK at h
  rcases hk with hk | hk
  · rw [h, show n - k = 0 from by omega, timesS_zero]; simp
  · rw [h, timesS_fault _ _ _ hk]; simp


/-- What the document's Decode tells: a tree, a place, an error. -/
def decS (bs : List UInt8) : RT × (Nat × Nat) := if (replyS bs 8 0).2.2 = 0 then replyS bs 8 0 else (rt0, (replyS bs 8 0).2)


theorem bytes_ext {S T : ByteArray} (h : S.data.toList = T.data.toList) : S = T := by
  cases S; cases T
  simp only at h
  rw [Array.toList_inj.1 h]

set_option maxRecDepth 100000 in
set_option maxHeartbeats 8000000 in
theorem rsame_all : ∀ (N : Nat) (x : RT), SizeOf.sizeOf x ≤ N → ∀ (w : World) (P Q : Nat → Prop) (a0 a1 a2 a3 b0 b1 b2 b3 : Value), RepAt w P x [a0, a1, a2, a3] → RepAt w Q x [b0, b1, b2, b3] →
    Calls Tryd.prog 11 #[.agg #[a0, a1, a2, a3], .agg #[b0, b1, b2, b3]] w fun en w' => en = .returned (.bool true) ∧ Below w.heap.size w w' := by
  intro N
  induction N with
  | zero => intro x hx; cases x; simp at hx
  | succ N ih =>
    intro x hx w P Q a0 a1 a2 a3 b0 b1 b2 b3 hA hB
    obtain ⟨k, t, n, l⟩ := x
    obtain ⟨T, A, c, ha, hT, hlen, hka⟩ := hA.form
    obtain ⟨S, B, d, hb, hS, _, hkb⟩ := hB.form
    obtain rfl : T = S := bytes_ext (hT.trans hS.symm)
    injection ha with e0 ha; injection ha with e1 ha; injection ha with e2 ha; injection ha with e3 _
    injection hb with g0 hb; injection hb with g1 hb; injection hb with g2 hb; injection hb with g3 _
    subst e0 e1 e2 e3 g0 g1 g2 g3
    obtain ⟨len, hl⟩ : ∃ len, l.length = len := ⟨_, rfl⟩
    have HKA := Lib.hid hka
    have HKB := Lib.hid hkb
    have HIH := Lib.hid ih
    have HSZ := Lib.hid hx
    have HL := Lib.hid hl
    rw [hl] at hlen ⊢
    clear hA hB hka hkb ih hx hT hS hl
    go_enter Tryd.func11, Tryd.ntmps11
    go_wp2
    obtain ⟨wa, hwa⟩ : ∃ wa, (w.alloc (.cells #[.int .i64 k, .string T, .int .i64 n, .slice A len c] 25)).alloc (.cells #[.int .i64 k, .string T, .int .i64 n, .slice B len d] 25) = wa := ⟨_, rfl⟩
    have hba : Below w.heap.size w wa := by rw [← hwa]; exact ((Below.refl _ _).alloc (Nat.le_refl _) _).alloc (by simp) _
    have hsa : wa.heap.size = w.heap.size + 2 := by rw [← hwa]; simp
    have ya : wa.cell? ⟨w.heap.size, 3, none⟩ = some (.slice A len c) := by
      rw [← hwa]
      exact (((Below.refl (w.heap.size + 1) (w.alloc (.cells #[.int .i64 k, .string T, .int .i64 n, .slice A len c] 25))).alloc (by simp) _).cell (p := ⟨w.heap.size, 3, none⟩) (by show w.heap.size < w.heap.size + 1; omega)).trans (cell_in (World.alloc_heap_new w _))
    have yb : wa.cell? ⟨w.heap.size + 1, 3, none⟩ = some (.slice B len d) := by
      rw [← hwa]
      have h := World.alloc_heap_new (w.alloc (.cells #[.int .i64 k, .string T, .int .i64 n, .slice A len c] 25)) (.cells #[.int .i64 k, .string T, .int .i64 n, .slice B len d] 25)
      rw [show (w.alloc (.cells #[.int .i64 k, .string T, .int .i64 n, .slice A len c] 25)).heap.size = w.heap.size + 1 from by simp] at h
      exact cell_in h
    try rw [hwa]
    have HBA := Lib.hid hba
    have HYA := Lib.hid ya
    have HYB := Lib.hid yb
    clear hwa hba ya yb
    go_loopw [5] (fun iv wr => ∃ j : Nat, iv = .int .i64 j ∧ j ≤ len ∧ Below wa.heap.size wa wr) (fun iv _ => len - (intOf iv).toNat)
    case atStart => exact ⟨0, rfl, by omega, Below.refl _ _⟩
    case round =>
      obtain ⟨j, rfl, hj, hbr⟩ := hrel
      have za := (hbr.cell (p := ⟨w.heap.size, 3, none⟩) (by show w.heap.size < wa.heap.size; omega)).trans HYA.out
      have zb := (hbr.cell (p := ⟨w.heap.size + 1, 3, none⟩) (by show w.heap.size + 1 < wa.heap.size; omega)).trans HYB.out
      have HBR := Lib.hid hbr
      have hzr := hbr.size
      clear hbr
      by_cases hlt : j < len
      · obtain ⟨x, hx⟩ : ∃ x, l[j]? = some x := ⟨_, List.getElem?_eq_getElem (by rw [HL.out]; exact hlt)⟩
        have hsx : SizeOf.sizeOf x ≤ N := by
          have h1 := List.sizeOf_lt_of_mem (List.mem_of_getElem? hx)
          have h2 := HSZ.out
          simp only [RT.node.sizeOf_spec] at h2
          omega
        have HSX := Lib.hid hsx
        have hwr : Below w.heap.size w wr := HBA.out.trans (HBR.out.mono (by omega))
        obtain ⟨g, o, v0, v1, v2, v3, rfl, hg, ⟨p0, p1, p2, p3⟩, hra⟩ := HKA.out j x hx
        obtain ⟨g', o', u0, u1, u2, u3, rfl, hg', ⟨q0, q1, q2, q3⟩, hrb⟩ := HKB.out j x hx
        have p0 := (hwr.cell (p := ⟨g, o + j * 4, none⟩) hg).trans p0
        have p1 := (hwr.cell (p := ⟨g, o + j * 4 + 1, none⟩) hg).trans p1
        have p2 := (hwr.cell (p := ⟨g, o + j * 4 + 2, none⟩) hg).trans p2
        have p3 := (hwr.cell (p := ⟨g, o + j * 4 + 3, none⟩) hg).trans p3
        have q0 := (hwr.cell (p := ⟨g', o' + j * 4, none⟩) hg').trans q0
        have q1 := (hwr.cell (p := ⟨g', o' + j * 4 + 1, none⟩) hg').trans q1
        have q2 := (hwr.cell (p := ⟨g', o' + j * 4 + 2, none⟩) hg').trans q2
        have q3 := (hwr.cell (p := ⟨g', o' + j * 4 + 3, none⟩) hg').trans q3
        have HCA := Lib.hid (fun (W : World) (hW : Below wr.heap.size wr W) => HIH.out x HSX.out W P Q v0 v1 v2 v3 u0 u1 u2 u3 (hra.keep (Nat.le_trans hwr.size hW.size) (fun _ h _ => h) (fun b _ hb => (hW.block b (by have := hwr.size; omega)).trans (hwr.block b hb))) (hrb.keep (Nat.le_trans hwr.size hW.size) (fun _ h _ => h) (fun b _ hb => (hW.block b (by have := hwr.size; omega)).trans (hwr.block b hb))))
        clear hx hsx hra hrb hwr
        go_wp2
        go_region_law (go_simp; go_at_call 11; refine (HCA.out _ (by first | exact (Below.refl _ _).drew | exact Below.refl _ _)).mono ?_; rintro en w4 ⟨rfl, hb4⟩; have HB4 := Lib.hid (show Below wa.heap.size wa w4 from HBR.out.trans (Below.mono (show Below wr.heap.size wr w4 from by first | exact hb4 | exact (Below.refl wr.heap.size wr).drew.trans hb4) hzr)); clear hb4)
        all_goals
          go_wp2
          go_roundw
          case rel => exact ⟨j + 1, by go_num, by omega, HB4.out⟩
          case measure => simp only [intOf]; omega
      · obtain rfl : j = len := by omega
        go_wp2
        go_ret
        exact ⟨rfl, HBA.out.trans (HBR.out.mono (by omega))⟩

end Go.Proofs.YtbldahkgilkclaaDoor
