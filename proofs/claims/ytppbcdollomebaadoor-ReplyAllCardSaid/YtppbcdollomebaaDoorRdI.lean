/-
  The walk of the document's reader of replies: array, given reply's. Conditions: no fault as yet.
-/
import Derived.Test.YtppbcdollomebaaDoorRdH
import Derived.Test.YtppbcdollomebaaDoorKit
import Derived.Test.YtppbcdollomebaaDoorRyC
import Derived.Deep.RegionLaw
namespace Go.Proofs.YtppbcdollomebaaDoor
open Go.RowKit

/-- An array that is being made: its four cells. -/
structure ArrAt (w : World) (N : Nat) (vr : Value) (rows : List (List Value)) : Prop where
  lt : N < w.heap.size
  c0 : w.cell? ⟨N, 0, none⟩ = some (.int .i64 6)
  c1 : w.cell? ⟨N, 1, none⟩ = some (.string ⟨#[]⟩)
  c2 : w.cell? ⟨N, 2, none⟩ = some (.int .i64 0)
  c3 : w.cell? ⟨N, 3, none⟩ = some vr
  f3 : w.frozen? ⟨N, 3, none⟩ = false
  own : w.ownsRow (N + 1) 25 4 vr rows.length rows.flatten

theorem arr_new (w : World) : ArrAt (w.alloc (.cells #[.int .i64 6, .string ⟨#[]⟩, .int .i64 0, .slice none 0 0] 25)) w.heap.size (.slice none 0 0) [] :=
  have h := World.alloc_heap_new w (.cells #[.int .i64 6, .string ⟨#[]⟩, .int .i64 0, .slice none 0 0] 25)
  { lt := by simp
    c0 := (cell_in h).trans rfl
    c1 := (cell_in h).trans rfl
    c2 := (cell_in h).trans rfl
    c3 := (cell_in h).trans rfl
    f3 := mark_in h
    own := ⟨by simp, .inl ⟨rfl, rfl⟩⟩ }

theorem ArrAt.ne {w : World} {N : Nat} {vr : Value} {rows : List (List Value)} (h : ArrAt w N vr rows) : vr.ownBlock ≠ some N := fun e => by have := (own_lt h.own e).1; omega

theorem ArrAt.grown {w w1 : World} {N q : Nat} {vr : Value} {rows : List (List Value)} (h : ArrAt w N vr rows) (hg : w.grownBy w1 (some q)) (hq : q < N) : ArrAt w1 N vr rows := by
  have hne : ¬ (some N = some q) := fun e => by injection e with e; omega
  have hb := hg.block N h.lt hne
  exact ⟨Nat.lt_of_lt_of_le h.lt hg.size, (World.cell?_of_block (a := ⟨N, 0, none⟩) hb).trans h.c0, (World.cell?_of_block (a := ⟨N, 1, none⟩) hb).trans h.c1, (World.cell?_of_block (a := ⟨N, 2, none⟩) hb).trans h.c2, (World.cell?_of_block (a := ⟨N, 3, none⟩) hb).trans h.c3, (World.frozen?_of_block (a := ⟨N, 3, none⟩) hb).trans h.f3, own_grown h.own hg (by omega)⟩

theorem ArrAt.more {w w1 : World} {N : Nat} {vr v' : Value} {rows : List (List Value)} {cs : List Value} (h : ArrAt w N vr rows) (hg : w.grownBy w1 vr.ownBlock) (ho : w1.ownsRow (N + 1) 25 4 v' (rows.length + 1) (rows.flatten ++ cs)) :
    ArrAt (w1.setCell ⟨N, 3, none⟩ v') N v' (rows ++ [cs]) := by
  have hne := h.ne
  have hb := hg.block N h.lt (fun e => hne e.symm)
  have hR : N < w1.heap.size := Nat.lt_of_lt_of_le h.lt hg.size
  have hk := Put.set w1 (p := ⟨N, 3, none⟩) v' hR
  have c0 := (World.cell?_of_block (a := ⟨N, 0, none⟩) hb).trans h.c0
  have c1 := (World.cell?_of_block (a := ⟨N, 1, none⟩) hb).trans h.c1
  have c2 := (World.cell?_of_block (a := ⟨N, 2, none⟩) hb).trans h.c2
  have c3 := (World.cell?_of_block (a := ⟨N, 3, none⟩) hb).trans h.c3
  have f3 := (World.frozen?_of_block (a := ⟨N, 3, none⟩) hb).trans h.f3
  refine ⟨by have := hk.size; omega, (hk.old (q := ⟨N, 0, none⟩) (by intro e; injection e with _ e _; cases e) hR).trans c0, (hk.old (q := ⟨N, 1, none⟩) (by intro e; injection e with _ e _; cases e) hR).trans c1, (hk.old (q := ⟨N, 2, none⟩) (by intro e; injection e with _ e _; cases e) hR).trans c2, hk.cell c3, (hk.frozen (q := ⟨N, 3, none⟩) hR).trans f3, ?_⟩
  rw [List.length_append, List.length_singleton, List.flatten_append, List.flatten_singleton]
  exact ownsRow_set ho N (Nat.lt_succ_self N) 3 v'

theorem RdAt.grown {w w1 : World} {R : Nat} {A : Option Addr} {b o cap : Nat} {bs : List UInt8} {i e : Nat} (h : RdAt w R A b o cap bs i e) {row : Option Nat} (hg : w.grownBy w1 row) (hR : row ≠ some R) (hb : row ≠ some b) : RdAt w1 R A b o cap bs i e := by
  have hl := h.lt
  have hR' : some R ≠ row := fun e => hR e.symm
  refine ⟨(hg.cell_far ⟨R, 0, none⟩ hl hR').trans h.c0, (hg.cell_far ⟨R, 1, none⟩ hl hR').trans h.c1, (hg.cell_far ⟨R, 2, none⟩ hl hR').trans h.c2, (hg.frozen_far ⟨R, 1, none⟩ hl hR').trans h.f1, (hg.frozen_far ⟨R, 2, none⟩ hl hR').trans h.f2, h.hA, fun j hj => ?_, h.ne, h.le, h.big, h.cl, h.cm⟩
  have hc := h.at_ j hj
  exact (hg.cell_far ⟨b, o + j, none⟩ (World.block_lt_of_cell? w ⟨b, o + j, none⟩ hc) (fun e => hb e.symm)).trans hc

theorem Went.grow {w w1 w2 : World} {R : Nat} {A : Option Addr} {b o cap : Nat} {bs : List UInt8} {s : Nat × Nat} (h : Went w R A b o cap bs s w1) (hR : R < w.heap.size) (hb : b < w.heap.size) {row : Option Nat} (hg : w1.grownBy w2 row) (hr : ∀ k, row = some k → w.heap.size ≤ k) : Went w R A b o cap bs s w2 :=
  ⟨h.rd.grown hg (fun e => by have := hr _ e; omega) (fun e => by have := hr _ e; omega), World.grownBy.andThen h.grown hg (fun j hj => Or.inl (hr j hj))⟩

/-- What was read so far lies in the array's row. -/
def Kids (w : World) (N : Nat) (vr : Value) (xs : List RT) (rows : List (List Value)) : Prop :=
  xs.length = rows.length ∧ ∀ (j : Nat) (x : RT), xs[j]? = some x → ∃ cs, rows[j]? = some cs ∧ RepAt w (fun g => N < g ∧ vr.ownBlock ≠ some g) x cs

theorem Kids.grown {w w1 : World} {N q : Nat} {vr : Value} {xs : List RT} {rows : List (List Value)} (h : Kids w N vr xs rows) (hg : w.grownBy w1 (some q)) (hq : q < N) : Kids w1 N vr xs rows :=
  ⟨h.1, fun j x hx => by
    obtain ⟨cs, h1, h2⟩ := h.2 j x hx
    exact ⟨cs, h1, h2.keep hg.size (fun _ h _ => h) (fun g h3 h4 => hg.block g h4 (fun e => by injection e with e; omega))⟩⟩

theorem flatten_get : ∀ (rows : List (List Value)) (_ : ∀ r ∈ rows, r.length = 4) (j : Nat) (cs : List Value), rows[j]? = some cs → ∀ f, f < 4 → rows.flatten[j * 4 + f]? = cs[f]?
  | [], _, j, cs, h, _, _ => by simp at h
  | x :: r, h4, 0, cs, h, f, hf => by
    simp only [List.getElem?_cons_zero, Option.some.injEq] at h
    subst h
    have := h4 x (by simp)
    rw [List.flatten_cons, Nat.zero_mul, Nat.zero_add, List.getElem?_append_left (by omega)]
  | x :: r, h4, j + 1, cs, h, f, hf => by
    simp only [List.getElem?_cons_succ] at h
    have ih := flatten_get r (fun y hy => h4 y (by simp [hy])) j cs h f hf
    have := h4 x (by simp)
    rw [List.flatten_cons, List.getElem?_append_right (by omega), ← ih]
    congr 1
    omega

theorem Kids.more {w w1 : World} {N : Nat} {vr v' : Value} {xs : List RT} {rows : List (List Value)} {x : RT} {cs : List Value} (h : Kids w N vr xs rows) (hs : w.heap.size ≤ w1.heap.size)
    (hk : ∀ g, g < w.heap.size → N < g → vr.ownBlock ≠ some g → w1.heap[g]? = w.heap[g]?) (hv : vr.ownBlock = v'.ownBlock ∨ ∃ g, v'.ownBlock = some g ∧ w.heap.size ≤ g)
    (hx : RepAt w1 (fun g => N < g ∧ v'.ownBlock ≠ some g) x cs) : Kids w1 N v' (xs ++ [x]) (rows ++ [cs]) := by
  refine ⟨by simp [h.1], fun j y hy => ?_⟩
  by_cases hj : j < xs.length
  · rw [List.getElem?_append_left hj] at hy
    obtain ⟨ds, h1, h2⟩ := h.2 j y hy
    refine ⟨ds, by rw [List.getElem?_append_left (by rw [← h.1]; exact hj)]; exact h1, h2.keep hs (fun g h3 h4 => ⟨h3.1, fun e => ?_⟩) (fun g h3 h4 => hk g h4 h3.1 h3.2)⟩
    rcases hv with hv | ⟨g', hv, hg⟩
    · exact h3.2 (hv.trans e)
    · rw [hv] at e; injection e with e; omega
  · obtain rfl : j = xs.length := by
      have := (List.getElem?_eq_some_iff.1 hy).1
      simp at this
      omega
    simp only [List.getElem?_append_right (Nat.le_refl _), Nat.sub_self, List.getElem?_cons_zero, Option.some.injEq] at hy
    subst hy
    exact ⟨cs, by rw [h.1]; simp, hx⟩

/-- The array's row as a tree. -/
theorem ArrAt.tree {w : World} {N : Nat} {vr : Value} {rows : List (List Value)} {xs : List RT} (h : ArrAt w N vr rows) (h4 : ∀ r ∈ rows, r.length = 4) (hk : Kids w N vr xs rows) :
    RepAt w (fun g => N < g) (.node 6 [] 0 xs) [.int .i64 6, .string ⟨#[]⟩, .int .i64 0, vr] := by
  have hl := hk.1
  rcases h.own.2 with ⟨rfl, h0⟩ | ⟨g, cap, cur, rfl, hg, hh, hc, hm, hrest⟩
  · obtain rfl : xs = [] := List.length_eq_zero_iff.1 (by omega)
    exact .leaf 6 [] 0 ⟨#[]⟩ rfl
  · rw [← hl]
    have hlt : g < w.heap.size := (Array.getElem?_eq_some_iff.1 hh).1
    refine .row 6 [] 0 xs ⟨#[]⟩ g 0 cap (fun j => rows.getD j []) rfl (by omega) (by unfold maxLen at hm; omega) (by omega) hlt (fun j hj => ?_) (fun j f hj hf => ?_) (fun j x hx => ?_)
    · have : j < rows.length := by omega
      rw [List.getD_eq_getElem?_getD, List.getElem?_eq_getElem this]
      exact h4 _ (List.getElem_mem this)
    · have hj' : j < rows.length := by omega
      have e := flatten_get rows h4 j _ (List.getElem?_eq_getElem hj') f hf
      have e4 := h4 _ (List.getElem_mem hj')
      rw [List.getD_eq_getElem?_getD, List.getElem?_eq_getElem hj']
      have hx : rows[j][f]? = some rows[j][f] := List.getElem?_eq_getElem (by omega)
      have := h.own.cells (g := g) rfl _ _ (e.trans hx)
      rw [Go.WideShapes.add_plain] at this
      show w.cell? ⟨g, 0 + j * 4 + f, none⟩ = rows[j][f]?
      rw [hx, ← this, Nat.add_assoc]
    · obtain ⟨cs, h1, h2⟩ := hk.2 j x hx
      rw [List.getD_eq_getElem?_getD, h1]
      exact h2.weak (fun _ h _ => h.1)

end Go.Proofs.YtppbcdollomebaaDoor
