/-
  A ring and a row with two ends in memory, with any values. No program's code.
-/
import Derived.Test.YtbecjaamheibmaaDqA
import Derived.WalkKit
import Derived.Deep.OwnRows
import Derived.Laws.OwnMore
import Derived.Lib.Hide
import Derived.Deep.QuietTactic
namespace Go.Proofs.Ytbecjaamheibmaa
open Go.RowKit

/-- Of what was there only blocks with p have turned. -/
structure Only (p : Nat → Prop) (w w' : World) : Prop where
  os : w'.os = w.os
  tape : w'.tape = w.tape
  output : w'.output = w.output
  size : w.heap.size ≤ w'.heap.size
  block : ∀ k, k < w.heap.size → ¬ p k → w'.heap[k]? = w.heap[k]?

theorem Only.refl (p : Nat → Prop) (w : World) : Only p w w := ⟨rfl, rfl, rfl, Nat.le_refl _, fun _ _ _ => rfl⟩
theorem Only.trans {p : Nat → Prop} {a b c : World} (h : Only p a b) (k : Only p b c) : Only p a c :=
  ⟨k.os.trans h.os, k.tape.trans h.tape, k.output.trans h.output, Nat.le_trans h.size k.size, fun i hi hn => (k.block i (Nat.lt_of_lt_of_le hi h.size) hn).trans (h.block i hi hn)⟩
theorem Only.mono {p q : Nat → Prop} {a b : World} (h : Only p a b) (hq : ∀ k, p k → q k) : Only q a b := ⟨h.os, h.tape, h.output, h.size, fun k hk hn => h.block k hk (fun e => hn (hq k e))⟩
/-- .. what is new may turn besides. -/
theorem Only.mono' {p q : Nat → Prop} {a b : World} (h : Only p a b) (hq : ∀ k, k < a.heap.size → p k → q k) : Only q a b := ⟨h.os, h.tape, h.output, h.size, fun k hk hn => h.block k hk (fun e => hn (hq k hk e))⟩
theorem Only.drewN (p : Nat → Prop) (w : World) (n : Nat) : Only p w (w.drewN n) := ⟨rfl, rfl, rfl, Nat.le_refl _, fun _ _ _ => rfl⟩
theorem below_drewN (n : Nat) (w : World) (k : Nat) : Below n w (w.drewN k) := ⟨rfl, rfl, rfl, Nat.le_refl _, fun _ _ => rfl⟩
theorem Only.set {p : Nat → Prop} {a w : World} (h : Only p a w) {q : Addr} (hp : p q.block) (v : Value) : Only p a (w.setCell q v) :=
  h.trans ⟨rfl, rfl, rfl, by simp [World.setCell], fun k _ hn => Below.heap_setCell _ _ _ _ (fun e => hn (e ▸ hp))⟩
theorem Only.of_below {p : Nat → Prop} {a b : World} (h : Below a.heap.size a b) : Only p a b := ⟨h.os, h.tape, h.output, h.size, fun k hk _ => h.block k hk⟩
theorem Only.below {p : Nat → Prop} {n : Nat} {a b : World} (h : Only p a b) (hn : n ≤ a.heap.size) (hp : ∀ k, k < n → ¬ p k) : Below n a b := ⟨h.os, h.tape, h.output, h.size, fun k hk => h.block k (Nat.lt_of_lt_of_le hk hn) (hp k hk)⟩
theorem Only.cell {p : Nat → Prop} {a b : World} (h : Only p a b) {q : Addr} {v : Value} (hc : a.cell? q = some v) (hn : ¬ p q.block) : b.cell? q = some v :=
  (World.cell?_of_block (h.block q.block (World.block_lt_of_cell? a _ hc) hn)).trans hc
theorem Only.row {p : Nat → Prop} {a b : World} (h : Only p a b) {g n : Nat} {t : TypeId} {f : Nat → Value} (hr : a.rowIs g t n f) (hn : ¬ p g) : b.rowIs g t n f := hr.of_block (h.block g hr.lt hn)

section
variable {α : Type}

/-- How a row with two ends stands in memory: the types of an item, of a ring, of a row; an item's cell. -/
structure Kq (α : Type) where
  tE : TypeId
  tR : TypeId
  tD : TypeId
  enc : α → Value

def slV (g N c : Nat) : Value := if N = 0 then .slice none 0 0 else .slice (some ⟨g, 0, none⟩) N c
theorem slV_pos {g N c : Nat} (h : 0 < N) : slV g N c = .slice (some ⟨g, 0, none⟩) N c := if_neg (by omega)
/-- A ring's head. -/
def hdF (s : Value) (f k : Nat) : Nat → Value := fun i => if i = 0 then s else if i = 1 then .int .i64 f else .int .i64 k

structure RgAt (K : Kq α) (w : World) (R g N c f : Nat) (S : Nat → Value) (L : List α) : Prop where
  hd : w.rowIs R K.tR 3 (hdF (slV g N c) f L.length)
  row : 0 < N → w.rowIs g K.tE c S
  le : N ≤ c
  fst : f < N ∨ N = 0 ∧ f = 0
  len : L.length ≤ N
  vals : ∀ i x, L[i]? = some x → S (rp f N i) = K.enc x

theorem RgAt.keep {K : Kq α} {w w' : World} {R g N c f : Nat} {S : Nat → Value} {L : List α} (h : RgAt K w R g N c f S L) (h1 : w'.heap[R]? = w.heap[R]?) (h2 : 0 < N → w'.heap[g]? = w.heap[g]?) : RgAt K w' R g N c f S L :=
  ⟨h.hd.of_block h1, fun hp => (h.row hp).of_block (h2 hp), h.le, h.fst, h.len, h.vals⟩

/-- A row with two ends: its own blocks (F), at most M slots. -/
def DqOn (K : Kq α) (w : World) (base : Nat) (F : Nat → Prop) (D M : Nat) (L : List α) : Prop :=
  (∀ k, F k → base ≤ k ∧ k < w.heap.size) ∧ F D ∧
  ((w.rowIs D K.tD 1 (fun _ => .pointer none) ∧ L = []) ∨
   ∃ R g N c f S, w.rowIs D K.tD 1 (fun _ => .pointer (some ⟨R, 0, none⟩)) ∧ F R ∧ (0 < N → F g) ∧ N ≤ M ∧ RgAt K w R g N c f S L)

theorem DqOn.keep {K : Kq α} {w w' : World} {base : Nat} {F : Nat → Prop} {D M : Nat} {L : List α} (h : DqOn K w base F D M L) (hs : w.heap.size ≤ w'.heap.size) (hk : ∀ k, F k → w'.heap[k]? = w.heap[k]?) : DqOn K w' base F D M L := by
  obtain ⟨h1, h2, h3⟩ := h
  refine ⟨fun k hF => ⟨(h1 k hF).1, Nat.lt_of_lt_of_le (h1 k hF).2 hs⟩, h2, ?_⟩
  rcases h3 with ⟨q, q2⟩ | ⟨R, g, N, c, f, S, q1, q2, q3, q4, q5⟩
  · exact Or.inl ⟨q.of_block (hk D h2), q2⟩
  · exact Or.inr ⟨R, g, N, c, f, S, q1.of_block (hk D h2), q2, q3, q4, q5.keep (hk R q2) (fun hp => hk g (q3 hp))⟩

theorem DqOn.below {K : Kq α} {w w' : World} {base : Nat} {F : Nat → Prop} {D M : Nat} {L : List α} (h : DqOn K w base F D M L) (hb : Below w.heap.size w w') : DqOn K w' base F D M L :=
  h.keep hb.size (fun k hk => hb.block k (h.1 k hk).2)

theorem DqOn.only {K : Kq α} {w w' : World} {base : Nat} {F p : Nat → Prop} {D M : Nat} {L : List α} (h : DqOn K w base F D M L) (hb : Only p w w') (hp : ∀ k, F k → ¬ p k) : DqOn K w' base F D M L :=
  h.keep hb.size (fun k hk => hb.block k (h.1 k hk).2 (hp k hk))

theorem DqOn.more {K : Kq α} {w : World} {base : Nat} {F : Nat → Prop} {D M M' : Nat} {L : List α} (h : DqOn K w base F D M L) (hM : M ≤ M') : DqOn K w base F D M' L := by
  obtain ⟨h1, h2, h3⟩ := h
  refine ⟨h1, h2, ?_⟩
  rcases h3 with q | ⟨R, g, N, c, f, S, q1, q2, q3, q4, q5⟩
  · exact Or.inl q
  · exact Or.inr ⟨R, g, N, c, f, S, q1, q2, q3, Nat.le_trans q4 hM, q5⟩

end

end Go.Proofs.Ytbecjaamheibmaa
