/-
  The walk of package reply's Command. Conditions: the table of powers of ten holds what its own text lays; the texts lie in memory as a slice that reads as them.
-/
import Derived.Test.YtbldahkgilkclaaDoorRyB
namespace Go.Proofs.YtbldahkgilkclaaDoor
open Go.RowKit

theorem rowCells_get : ∀ (ws : List (List UInt8)) (i : Nat) (t : List UInt8), ws[i]? = some t → ∀ f, f < 4 → (rowCells ws)[i * 4 + f]? = (bulkCells t)[f]?
  | [], i, t, h, _, _ => by simp at h
  | x :: r, 0, t, h, f, hf => by
    simp only [List.getElem?_cons_zero, Option.some.injEq] at h
    subst h
    rw [show rowCells (x :: r) = bulkCells x ++ rowCells r from rfl, Nat.zero_mul, Nat.zero_add, List.getElem?_append_left (by simpa [bulkCells] using hf)]
  | x :: r, i + 1, t, h, f, hf => by
    simp only [List.getElem?_cons_succ] at h
    have ih := rowCells_get r i t h f hf
    rw [show rowCells (x :: r) = bulkCells x ++ rowCells r from rfl, List.getElem?_append_right (by simp [bulkCells]; omega), ← ih]
    congr 1
    simp only [bulkCells, List.length_cons, List.length_nil]
    omega
theorem rowCells_snoc (l : List (List UInt8)) (t : List UInt8) : rowCells (l ++ [t]) = rowCells l ++ bulkCells t := by simp [rowCells]

theorem bulks_own {w : World} {base g c n : Nat} {ws : List (List UInt8)} (h : w.ownsRow base 25 4 (.slice (some ⟨g, 0, none⟩) n c) n (rowCells ws)) : BulksAt w g 0 ws := fun i t ht => by
  have r := fun f hf => rowCells_get ws i t ht f hf
  have c0 := h.cells (g := g) rfl _ _ ((r 0 (by decide)).trans rfl)
  have c1 := h.cells (g := g) rfl _ _ ((r 1 (by decide)).trans rfl)
  have c2 := h.cells (g := g) rfl _ _ ((r 2 (by decide)).trans rfl)
  have c3 := h.cells (g := g) rfl _ _ ((r 3 (by decide)).trans rfl)
  rw [Go.WideShapes.add_plain] at c0 c1 c2 c3
  exact ⟨c0, by rw [Nat.add_assoc]; exact c1, by rw [Nat.add_assoc]; exact c2, by rw [Nat.add_assoc]; exact c3⟩

/-- Which error Command tells. -/
def cmdE (ws : List (List UInt8)) : Int := if ws.length = 0 ∨ 1024 < ws.length then 3 else if allB ws then 0 else 2

/-- What Command tells, its bytes a row of its own. -/
def CmdPost (w : World) (ws : List (List UInt8)) (e : Ending) (w' : World) : Prop :=
  Below w.heap.size w w' ∧ ((cmdE ws ≠ 0 ∧ e = .returned (.tuple #[.slice none 0 0, .int .i64 (cmdE ws)])) ∨
    (cmdE ws = 0 ∧ ∃ v, e = .returned (.tuple #[v, .int .i64 0]) ∧ w'.ownsRow w.heap.size 5 1 v (writeB ws).length (Lib.byteCells (writeB ws))))

/-- A row that is being made: its four cells. -/
structure Mk (w : World) (R : Nat) (vr : Value) (ws : List (List UInt8)) (k : Nat) : Prop where
  lt : R < w.heap.size
  c0 : w.cell? ⟨R, 0, none⟩ = some (.int .i64 6)
  c1 : w.cell? ⟨R, 1, none⟩ = some (.string ⟨#[]⟩)
  c2 : w.cell? ⟨R, 2, none⟩ = some (.int .i64 0)
  c3 : w.cell? ⟨R, 3, none⟩ = some vr
  f3 : w.frozen? ⟨R, 3, none⟩ = false
  own : w.ownsRow (R + 1) 25 4 vr k (rowCells (ws.take k))

theorem mk_new (w : World) (ws : List (List UInt8)) : Mk (w.alloc (.cells #[.int .i64 6, .string ⟨#[]⟩, .int .i64 0, .slice none 0 0] 25)) w.heap.size (.slice none 0 0) ws 0 :=
  have h := World.alloc_heap_new w (.cells #[.int .i64 6, .string ⟨#[]⟩, .int .i64 0, .slice none 0 0] 25)
  { lt := by simp
    c0 := (cell_in h).trans rfl
    c1 := (cell_in h).trans rfl
    c2 := (cell_in h).trans rfl
    c3 := (cell_in h).trans rfl
    f3 := mark_in h
    own := ⟨by simp [rowCells], .inl ⟨rfl, rfl⟩⟩ }

/-- One bulk more, and the row stored. -/
theorem Mk.more {w w1 : World} {R : Nat} {vr v' : Value} {ws : List (List UInt8)} {k : Nat} {t : List UInt8} (h : Mk w R vr ws k) (ht : ws[k]? = some t) (hg : w.grownBy w1 vr.ownBlock) (ho : w1.ownsRow (R + 1) 25 4 v' (k + 1) (rowCells (ws.take k) ++ bulkCells t)) :
    Mk (w1.setCell ⟨R, 3, none⟩ v') R v' ws (k + 1) := by
  have hne : vr.ownBlock ≠ some R := fun e => by have := (own_lt h.own e).1; omega
  have hb := hg.block R h.lt (fun e => hne e.symm)
  have hR : R < w1.heap.size := Nat.lt_of_lt_of_le h.lt hg.size
  have hk := Put.set w1 (p := ⟨R, 3, none⟩) v' hR
  have c0 := (World.cell?_of_block (a := ⟨R, 0, none⟩) hb).trans h.c0
  have c1 := (World.cell?_of_block (a := ⟨R, 1, none⟩) hb).trans h.c1
  have c2 := (World.cell?_of_block (a := ⟨R, 2, none⟩) hb).trans h.c2
  have c3 := (World.cell?_of_block (a := ⟨R, 3, none⟩) hb).trans h.c3
  have f3 := (World.frozen?_of_block (a := ⟨R, 3, none⟩) hb).trans h.f3
  refine ⟨by have := hk.size; omega, (hk.old (q := ⟨R, 0, none⟩) (by intro e; injection e with _ e _; cases e) hR).trans c0, (hk.old (q := ⟨R, 1, none⟩) (by intro e; injection e with _ e _; cases e) hR).trans c1, (hk.old (q := ⟨R, 2, none⟩) (by intro e; injection e with _ e _; cases e) hR).trans c2, hk.cell c3, (hk.frozen (q := ⟨R, 3, none⟩) hR).trans f3, ?_⟩
  rw [List.take_add_one, ht]
  show (w1.setCell ⟨R, 3, none⟩ v').ownsRow (R + 1) _ 4 v' (k + 1) (rowCells (ws.take k ++ [t]))
  rw [rowCells_snoc]
  exact ownsRow_set ho R (Nat.lt_succ_self R) 3 v'

end Go.Proofs.YtbldahkgilkclaaDoor
