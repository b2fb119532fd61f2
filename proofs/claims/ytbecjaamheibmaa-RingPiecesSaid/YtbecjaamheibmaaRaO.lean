/-
  RingNobody: the walk of pieces at a ring that nobody made. Condition: as typed.
-/
import Derived.Test.YtbecjaamheibmaaRaN
import Derived.Laws.EntriesVeiled
namespace Go.Proofs.Ytbecjaamheibmaa
open Go.RowKit

/-- Boxes laid one behind the other. -/
def allocs : World → List (Value × TypeId) → World
  | w, [] => w
  | w, (v, t) :: r => allocs (w.alloc (.cells #[v] t)) r
theorem allocs_size : ∀ (l : List (Value × TypeId)) (w : World), (allocs w l).heap.size = w.heap.size + l.length
  | [], w => rfl
  | (v, t) :: r, w => by
    rw [allocs, allocs_size r]
    simp
    omega
theorem allocs_below : ∀ (l : List (Value × TypeId)) (w : World), Below w.heap.size w (allocs w l)
  | [], w => Below.refl _ _
  | (v, t) :: r, w => by
    rw [allocs]
    have h : Below w.heap.size w (w.alloc (.cells #[v] t)) := (Below.refl _ _).alloc (Nat.le_refl _) _
    exact h.trans ((allocs_below r _).mono h.size)
theorem allocs_row : ∀ (l : List (Value × TypeId)) (w : World) (j : Nat) (v : Value) (t : TypeId), l[j]? = some (v, t) → (allocs w l).rowIs (w.heap.size + j) t 1 (fun _ => v)
  | [], _, j, _, _, h => by simp at h
  | (v, t) :: r, w, 0, v', t', h => by
    injection h with h
    injection h with h1 h2
    subst h1 h2
    rw [allocs]
    have hr : (w.alloc (.cells #[v] t)).rowIs w.heap.size t 1 (fun _ => v) := World.rowIs_alloc w #[v] t _ (fun i hi => by
      have hi : i < 1 := hi
      obtain rfl : i = 0 := by omega
      rfl)
    exact hr.of_block ((allocs_below r _).block _ (by simp))
  | (v, t) :: r, w, j + 1, v', t', h => by
    rw [allocs]
    have := allocs_row r (w.alloc (.cells #[v] t)) j v' t' h
    rwa [show (w.alloc (.cells #[v] t)).heap.size + j = w.heap.size + (j + 1) by simp; omega] at this

/-- The boxes of a call of pieces: its numbers, its results, and what Pieces captures. -/
def pcBoxes (a : Option Addr) (o m : Int) : List (Value × TypeId) :=
  [(.int .i64 o, 3), (.int .i64 m, 3), (.slice none 0 0, 33), (.int .i64 0, 3), (.bool true, 4), (.pointer a, 24), (.int .i64 o, 3), (.int .i64 m, 3)]

set_option maxRecDepth 100000 in
set_option maxHeartbeats 8000000 in
theorem pieces_nm {a : Option Addr} (w : World) (h : NMade w a) (o m : Int) : Calls Try.prog 20 #[.pointer a, .int .i64 o, .int .i64 m] w fun e w' => e = .returned (.tuple #[.slice none 0 0, .int .i64 0, .bool true]) ∧ Below w.heap.size w w' := by
  have hne : ∀ X c, (binOp .eql 77 (.func (.func 42) #[] c) .nilFunc).run Try.prog X = .ok (.bool false) X := fun _ _ => rfl
  obtain ⟨w2, hw2⟩ : ∃ w2, allocs w (pcBoxes a o m) = w2 := ⟨_, rfl⟩
  have hb2 : Below w.heap.size w w2 := by rw [← hw2]; exact allocs_below _ w
  have HRW : Hid (∀ j v t, (pcBoxes a o m)[j]? = some (v, t) → w2.rowIs (w.heap.size + j) t 1 (fun _ => v)) := fun j v t hj => by rw [← hw2]; exact allocs_row _ w j v t hj
  obtain ⟨M, hM⟩ : ∃ M, w.heap.size = M := ⟨_, rfl⟩
  have HP1 : Hid (∀ y, Calls Try.prog 42 #[y, .pointer (some ⟨M + 1 + 1 + 1 + 1 + 1, 0, none⟩), .pointer (some ⟨M + 1 + 1 + 1 + 1 + 1 + 1, 0, none⟩), .pointer (some ⟨M + 1 + 1 + 1 + 1 + 1 + 2, 0, none⟩)] w2 fun e w' => e = .returned (.tuple #[]) ∧ w2 = w') := fun y => by
    rw [← hM]
    exact pieces1_nm w2 (h.below hb2) o y ((HRW.out 5 _ _ rfl).cell (i := 0) (by omega)) ((HRW.out 6 _ _ rfl).cell (i := 0) (by omega))
  have HW2 : Hid (∀ w', w' = (((((((((w.alloc (.cells #[.int .i64 o] 3)).alloc (.cells #[.int .i64 m] 3)).alloc (.cells #[.slice none 0 0] 33)).alloc (.cells #[.int .i64 0] 3)).alloc (.cells #[.bool true] 4)).alloc (.cells #[.pointer a] 24)).alloc (.cells #[.int .i64 o] 3)).alloc (.cells #[.int .i64 m] 3))) → w' = w2) := fun w' h => h.trans hw2
  have k2 : w2.cell? ⟨M + 1 + 1, 0, none⟩ = some (.slice none 0 0) := by rw [← hM]; exact (HRW.out 2 _ _ rfl).cell (i := 0) (by omega)
  have k3 : w2.cell? ⟨M + 1 + 1 + 1, 0, none⟩ = some (.int .i64 0) := by rw [← hM]; exact (HRW.out 3 _ _ rfl).cell (i := 0) (by omega)
  have k4 : w2.cell? ⟨M + 1 + 1 + 1 + 1, 0, none⟩ = some (.bool true) := by rw [← hM]; exact (HRW.out 4 _ _ rfl).cell (i := 0) (by omega)
  have HB2 := Lib.hid hb2
  have HM := Lib.hid hM
  clear h hw2 hb2 hM HRW
  go_enter Try.func20, Try.ntmps20
  go_wp2_with fail
  refine (pieces_fn _ a o m).mono ?_
  rintro e w3 ⟨rfl, hw3⟩
  obtain rfl := HW2.out w3 hw3
  clear hw3
  go_wp2_with (rw [HM.out])
  refine (HP1.out _).mono ?_
  rintro e w4 ⟨rfl, rfl⟩
  go_wp2_with fail
  go_quiet (fail)
  go_wp2
  go_ret3
  exact ⟨rfl, HB2.out.trans (below_drewN _ _ _)⟩

end Go.Proofs.Ytbecjaamheibmaa
