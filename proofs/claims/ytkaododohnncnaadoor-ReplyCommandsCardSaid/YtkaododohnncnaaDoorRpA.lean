/-
  Frames of the walks of package resp: a store into one cell of a variable that the call was handed; what is left of some bytes. No condition.
-/
import Derived.Test.YtkaododohnncnaaDoorRspK
import Derived.Test.YtkaododohnncnaaDoorConv
namespace Go.Proofs.YtkaododohnncnaaDoor
open Go.RowKit

/-- A block with one cell turned. -/
def setO (p : Addr) (v : Value) : Obj → Obj
  | .cells c elem frozen => .cells (if p.spot.isSome then c else c.setIfInBounds p.off v) elem frozen
  | o => o

theorem setCell_heap (w : World) (p : Addr) (v : Value) (k : Nat) : (w.setCell p v).heap[k]? = if p.block = k then (w.heap[k]?).map (setO p v) else w.heap[k]? := by
  simp only [World.setCell, Array.getElem?_modify]
  rfl

theorem setO_setO (p : Addr) (u v : Value) (o : Obj) : setO p v (setO p u o) = setO p v o := by
  cases o with
  | cells c e f =>
    simp only [setO]
    cases p.spot <;> simp
  | _ => rfl

theorem setO_same (w : World) (p : Addr) (v : Value) (h : w.cell? p = some v) : (w.heap[p.block]?).map (setO p v) = w.heap[p.block]? := by
  unfold World.cell? at h
  cases ho : w.heap[p.block]? with
  | none => rfl
  | some o =>
    rw [ho] at h
    cases o with
    | cells c e f =>
      simp only at h
      simp only [Option.map_some, setO]
      cases hs : p.spot with
      | some x => simp
      | none =>
        rw [hs] at h
        simp only [Option.isSome_none, Bool.false_eq_true, if_false] at h ⊢
        congr 2
        obtain ⟨h1, h2⟩ := Array.getElem?_eq_some_iff.1 h
        apply Array.ext
        · simp
        · intro i hi hi'
          rw [Array.getElem_setIfInBounds]
          split
          · rename_i e
            subst e
            exact h2.symm
          · rfl
    | _ => simp at h

/-- Of what was there only the cell p has turned: it holds v. -/
structure Put (w : World) (p : Addr) (v : Value) (w' : World) : Prop where
  os : w'.os = w.os
  tape : w'.tape = w.tape
  output : w'.output = w.output
  lt : p.block < w.heap.size
  size : w.heap.size ≤ w'.heap.size
  other : ∀ k, k < w.heap.size → k ≠ p.block → w'.heap[k]? = w.heap[k]?
  here : w'.heap[p.block]? = (w.heap[p.block]?).map (setO p v)

theorem Put.refl {w : World} {p : Addr} {v : Value} (h : w.cell? p = some v) (hp : p.block < w.heap.size) : Put w p v w :=
  ⟨rfl, rfl, rfl, hp, Nat.le_refl _, fun _ _ _ => rfl, (setO_same w p v h).symm⟩
theorem Put.set (w : World) {p : Addr} (v : Value) (hp : p.block < w.heap.size) : Put w p v (w.setCell p v) :=
  ⟨rfl, rfl, rfl, hp, by simp [World.setCell], fun k _ hk => Below.heap_setCell _ _ _ _ hk, by rw [setCell_heap, if_pos rfl]⟩
theorem Put.trans {w w1 w2 : World} {p : Addr} {u v : Value} (h : Put w p u w1) (k : Put w1 p v w2) : Put w p v w2 :=
  ⟨k.os.trans h.os, k.tape.trans h.tape, k.output.trans h.output, h.lt, Nat.le_trans h.size k.size,
    fun i hi hn => (k.other i (Nat.lt_of_lt_of_le hi h.size) hn).trans (h.other i hi hn),
    by rw [k.here, h.here, Option.map_map]; congr 1; funext o; exact setO_setO p u v o⟩
theorem Put.below {w w1 w2 : World} {p : Addr} {v : Value} (h : Put w p v w1) (k : Below w1.heap.size w1 w2) : Put w p v w2 :=
  ⟨k.os.trans h.os, k.tape.trans h.tape, k.output.trans h.output, h.lt, Nat.le_trans h.size k.size,
    fun i hi hn => (k.block i (Nat.lt_of_lt_of_le hi h.size)).trans (h.other i hi hn), (k.block _ (Nat.lt_of_lt_of_le h.lt h.size)).trans h.here⟩
theorem Put.after {w w1 w2 : World} {p : Addr} {v : Value} (k : Below w.heap.size w w1) (h : Put w1 p v w2) (hp : p.block < w.heap.size) : Put w p v w2 :=
  ⟨h.os.trans k.os, h.tape.trans k.tape, h.output.trans k.output, hp, Nat.le_trans k.size h.size,
    fun i hi hn => (h.other i (Nat.lt_of_lt_of_le hi k.size) hn).trans (k.block i hi), by rw [h.here, k.block _ hp]⟩
theorem Put.alloc {w w1 : World} {p : Addr} {v : Value} (h : Put w p v w1) (o : Obj) : Put w p v (w1.alloc o) := h.below ((Below.refl _ _).alloc (Nat.le_refl _) _)
theorem Put.drew {w w1 : World} {p : Addr} {v : Value} (h : Put w p v w1) : Put w p v w1.drew := h.below (Below.refl _ _).drew
theorem Put.set2 {w w1 : World} {p : Addr} {u : Value} (h : Put w p u w1) (v : Value) : Put w p v (w1.setCell p v) :=
  h.trans (Put.set w1 v (Nat.lt_of_lt_of_le h.lt h.size))
theorem Put.far {w w1 : World} {p : Addr} {u : Value} (h : Put w p u w1) {q : Addr} (hq : w.heap.size ≤ q.block) (v : Value) : Put w p u (w1.setCell q v) :=
  ⟨h.os, h.tape, h.output, h.lt, by rw [show (w1.setCell q v).heap.size = w1.heap.size from by simp [World.setCell]]; exact h.size,
    fun i hi hn => (Below.heap_setCell _ _ _ _ (by omega)).trans (h.other i hi hn), (Below.heap_setCell _ _ _ _ (by have := h.lt; omega)).trans h.here⟩
/-- The store may be told of a world that the walk holds in its own order. -/
theorem Put.of_below {w w' : World} {p : Addr} {v : Value} (hp : p.block < w.heap.size) (h : Below w.heap.size (w.setCell p v) w') : Put w p v w' :=
  (Put.set w v hp).below (by rw [show (w.setCell p v).heap.size = w.heap.size from by simp [World.setCell]]; exact h)

theorem Put.cell {w w' : World} {p : Addr} {u v : Value} (h : Put w p v w') (hc : w.cell? p = some u) : w'.cell? p = some v := by
  have e : w'.heap[p.block]? = (w.setCell p v).heap[p.block]? := by rw [h.here, setCell_heap, if_pos rfl]
  rw [World.cell?_of_block (w := w.setCell p v) e]
  exact World.cell?_setCell_same _ _ _ hc
theorem Put.old {w w' : World} {p q : Addr} {v : Value} (h : Put w p v w') (hq : q ≠ p) (hl : q.block < w.heap.size) : w'.cell? q = w.cell? q := by
  by_cases e : q.block = p.block
  · have e2 : w'.heap[q.block]? = (w.setCell p v).heap[q.block]? := by rw [e, h.here, setCell_heap, if_pos rfl]
    rw [World.cell?_of_block (w := w.setCell p v) e2]
    exact World.cell?_setCell_other _ _ _ _ (Ne.symm hq)
  · exact World.cell?_of_block (w := w) (h.other _ hl e)
theorem Put.frozen {w w' : World} {p q : Addr} {v : Value} (h : Put w p v w') (hl : q.block < w.heap.size) : w'.frozen? q = w.frozen? q := by
  by_cases e : q.block = p.block
  · have e2 : w'.heap[q.block]? = (w.setCell p v).heap[q.block]? := by rw [e, h.here, setCell_heap, if_pos rfl]
    rw [World.frozen?_of_block (w := w.setCell p v) e2]
    exact World.frozen?_setCell _ _ _ _
  · exact World.frozen?_of_block (w := w) (h.other _ hl e)
theorem Put.grown {w w' : World} {p : Addr} {v : Value} (h : Put w p v w') : w.grownBy w' (some p.block) :=
  ⟨h.os, h.tape, h.output, h.size, fun k hk hn => h.other k hk (fun e => hn (by rw [e]))⟩
theorem Put.grow {W w w' : World} {p : Addr} {v : Value} {row : Option Nat} (h : Put W p v w) (g : w.grownBy w' row) (hr : ∀ k, row = some k → W.heap.size ≤ k) : Put W p v w' :=
  ⟨g.os.trans h.os, g.tape.trans h.tape, g.output.trans h.output, h.lt, Nat.le_trans h.size g.size,
    fun i hi hn => (g.block i (Nat.lt_of_lt_of_le hi h.size) (fun e => by have := hr i e.symm; omega)).trans (h.other i hi hn),
    (g.block _ (Nat.lt_of_lt_of_le h.lt h.size) (fun e => by have := hr _ e.symm; have := h.lt; omega)).trans h.here⟩
theorem own_put {w w' : World} {p : Addr} {x : Value} {base : Nat} {e : TypeId} {size : Nat} {v : Value} {n : Nat} {xs : List Value} (h : w.ownsRow base e size v n xs) (k : Put w p x w') (hp : p.block < base) : w'.ownsRow base e size v n xs := by
  refine ⟨h.1, ?_⟩
  rcases h.2 with h2 | ⟨g, cap, cur, hv, hg, hh, r⟩
  · exact .inl h2
  · refine .inr ⟨g, cap, cur, hv, hg, ?_, r⟩
    have hlt : g < w.heap.size := (Array.getElem?_eq_some_iff.1 hh).1
    rw [k.other g hlt (by omega)]; exact hh
/-- For a walk: every old cell but the one, every old mark. -/
theorem Put.cells {w w' : World} {p : Addr} {v : Value} (h : Put w p v w') : (∀ b o, b < w.heap.size → b ≠ p.block → w'.cell? ⟨b, o, none⟩ = w.cell? ⟨b, o, none⟩) ∧ (∀ b o, b < w.heap.size → w'.frozen? ⟨b, o, none⟩ = w.frozen? ⟨b, o, none⟩) :=
  ⟨fun b o hb hn => h.old (by intro e; apply hn; rw [← e]) hb, fun b o hb => h.frozen hb⟩

/-- What is left of some bytes: a slice that reads as them. -/
def LeftV (w : World) (b : Nat) (v : Value) (l : List UInt8) : Prop := ∃ o cap, v = .slice (some ⟨b, o, none⟩) l.length cap ∧ l.length ≤ cap ∧ cap ≤ 9223372036854775807 ∧ BytesAt w b o l

theorem BytesAt.put {w w' : World} {p : Addr} {v : Value} {b o : Nat} {l : List UInt8} (h : BytesAt w b o l) (k : Put w p v w') (hb : b < w.heap.size) (hn : b ≠ p.block) : BytesAt w' b o l :=
  fun j hj => (k.old (by intro e; apply hn; rw [← e]) hb).trans (h j hj)
theorem LeftV.put {w w' : World} {p : Addr} {v u : Value} {b : Nat} {l : List UInt8} (h : LeftV w b u l) (k : Put w p v w') (hb : b < w.heap.size) (hn : b ≠ p.block) : LeftV w' b u l := by
  obtain ⟨o, cap, h1, h2, h3, h4⟩ := h
  exact ⟨o, cap, h1, h2, h3, h4.put k hb hn⟩
theorem BytesAt.back {w w' : World} {p : Addr} {v : Value} {b o : Nat} {l : List UInt8} (h : BytesAt w' b o l) (k : Put w p v w') (hb : b < w.heap.size) (hn : b ≠ p.block) : BytesAt w b o l :=
  fun j hj => (k.old (q := ⟨b, o + j, none⟩) (by intro e; apply hn; rw [← e]) hb).symm.trans (h j hj)
theorem LeftV.back {w w' : World} {p : Addr} {v u : Value} {b : Nat} {l : List UInt8} (h : LeftV w' b u l) (k : Put w p v w') (hb : b < w.heap.size) (hn : b ≠ p.block) : LeftV w b u l := by
  obtain ⟨o, cap, h1, h2, h3, h4⟩ := h
  exact ⟨o, cap, h1, h2, h3, h4.back k hb hn⟩
theorem LeftV.below {w w' : World} {u : Value} {b : Nat} {l : List UInt8} (h : LeftV w b u l) {B : Nat} (k : Below B w w') (hb : b < B) : LeftV w' b u l := by
  obtain ⟨o, cap, h1, h2, h3, h4⟩ := h
  exact ⟨o, cap, h1, h2, h3, h4.below k hb⟩

end Go.Proofs.YtkaododohnncnaaDoor
