/-
  What the walks of several packages lean on: rows of bytes and texts in memory, pointers to one cell, a place that alone has turned. No condition but those typed.
-/
import Derived.Test.YtbldahkgilkclaaDoorNumX
import Derived.Test.YtbldahkgilkclaaDoorConv
import Derived.Deep.AppendLies
import Derived.Deep.MidRow
import Derived.Deep.RegionHeld3
import Derived.Defers
import Derived.Laws.AppendOwnNone
import Derived.Laws.IdiomCopy
import Derived.Laws.IdiomStrings
import Derived.Lib.AppendStr
import Derived.Lib.ItoaLen
import Derived.Lib.OthersKept
import Derived.Lib.SlBuf
import Derived.Lib.SlBytesConst
import Derived.Lib.VarintMem
import Derived.Maps.AppendAt
import Derived.RangeFuncRecord
import Derived.Recover
namespace Go.Proofs.YtbldahkgilkclaaDoor
open Go.RowKit

theorem ownsRow_below {w w' : World} {base : Nat} {e : TypeId} {size : Nat} {v : Value} {n : Nat} {xs : List Value} (h : w.ownsRow base e size v n xs) (hb : Below w.heap.size w w') : w'.ownsRow base e size v n xs := by
  refine ⟨h.1, ?_⟩
  rcases h.2 with h2 | ⟨g, cap, cur, hv, hg, hh, r⟩
  · exact .inl h2
  · refine .inr ⟨g, cap, cur, hv, hg, ?_, r⟩
    have hlt : g < w.heap.size := (Array.getElem?_eq_some_iff.1 hh).1
    rw [hb.block g hlt]; exact hh

theorem ownsRow_base {w : World} {base base' : Nat} {e : TypeId} {size : Nat} {v : Value} {n : Nat} {xs : List Value} (h : w.ownsRow base e size v n xs) (hb : base' ≤ base) : w.ownsRow base' e size v n xs := by
  refine ⟨h.1, ?_⟩
  rcases h.2 with h2 | ⟨g, cap, cur, hv, hg, hh, r⟩
  · exact .inl h2
  · exact .inr ⟨g, cap, cur, hv, by omega, hh, r⟩

theorem ownsRow_set {w : World} {base : Nat} {e : TypeId} {size : Nat} {v : Value} {n : Nat} {xs : List Value} (h : w.ownsRow base e size v n xs) (g : Nat) (hg : g < base) (j : Nat) (u : Value) : (w.setCell ⟨g, j, none⟩ u).ownsRow base e size v n xs :=
  ownsRow_setCell_below h hg u

theorem ownsRow_form {w : World} {base : Nat} {e : TypeId} {size : Nat} {v : Value} {n : Nat} {xs : List Value} (h : w.ownsRow base e size v n xs) : ∃ A c, v = .slice A n c := by
  rcases h.2 with ⟨h1, rfl⟩ | ⟨g, cap, cur, hv, _⟩
  · exact ⟨_, _, h1⟩
  · exact ⟨_, _, hv⟩

def strV (t : List UInt8) : Value := .string ⟨t.toArray⟩

theorem info_u8 : (Tryd.prog.info? 5).map (fun i => (i.zero, i.size, i.bytes)) = some (some (.int .u8 0), 1, 1) := by kernel_rfl

theorem one_bytes (p : List UInt8) : ∀ u ∈ Lib.byteCells p, u.oneCell' = true := by
  intro u hu
  obtain ⟨c, _, rfl⟩ := List.mem_map.1 hu
  rfl

theorem byteCells_two (a b : List UInt8) : Lib.byteCells (a ++ b) = Lib.byteCells a ++ Lib.byteCells b := Lib.byteCells_append a b

theorem own_ne {w : World} {base base' : Nat} {e e' : TypeId} {v v' : Value} {n n' : Nat} {xs xs' : List Value} (h : w.ownsRow base e 1 v n xs) (h' : w.ownsRow base' e' 1 v' n' xs') (hne : e ≠ e') : v.ownBlock = none ∨ v.ownBlock ≠ v'.ownBlock := by
  rcases h.2 with ⟨rfl, _⟩ | ⟨g, cap, cur, rfl, _, hh, _⟩
  · exact Or.inl rfl
  · right
    rcases h'.2 with ⟨rfl, _⟩ | ⟨g', cap', cur', rfl, _, hh', _⟩
    · intro e; cases e
    · intro e
      have : g = g' := by simpa [Value.ownBlock] using e
      subst this
      rw [hh] at hh'
      injection hh' with hh'
      injection hh' with _ ht
      exact hne ht

/-- A slice whose cells, one for each element, are these. -/
def SliceAt (w : World) (v : Value) (xs : List Value) : Prop := ∃ A c, v = .slice A xs.length c ∧ (xs ≠ [] → ∃ b o, A = some ⟨b, o, none⟩ ∧ ∀ j u, xs[j]? = some u → w.cell? ⟨b, o + j, none⟩ = some u)

theorem SliceAt.drewN {w : World} {v : Value} {xs : List Value} (h : SliceAt w v xs) (q : Nat) : SliceAt (w.drewN q) v xs := h

theorem SliceAt.of_own {w : World} {base : Nat} {e : TypeId} {v : Value} {xs : List Value} (h : w.ownsRow base e 1 v xs.length xs) : SliceAt w v xs := by
  rcases h.2 with ⟨h1, h2⟩ | ⟨g, cap, cur, hv, _⟩
  · refine ⟨none, 0, by rw [h1, h2], fun hne => absurd (List.length_eq_zero_iff.1 h2) hne⟩
  · subst hv
    refine ⟨_, _, rfl, fun _ => ⟨g, 0, rfl, fun j u hu => ?_⟩⟩
    have := h.cells (g := g) rfl j u hu
    rwa [Go.WideShapes.add_plain] at this

/-- A block with one cell turned. -/
def setO (p : Addr) (v : Value) : Obj → Obj
  | .cells c elem frozen => .cells (if p.spot.isSome then c else c.setIfInBounds p.off v) elem frozen
  | o => o

theorem setCell_heap (w : World) (p : Addr) (v : Value) (k : Nat) : (w.setCell p v).heap[k]? = if p.block = k then (w.heap[k]?).map (setO p v) else w.heap[k]? := by
  simp only [World.setCell, Array.getElem?_modify]
  rfl

theorem setO_setO (p : Addr) (u v : Value) (o : Obj) : setO p v (setO p u o) = setO p v o := by
  cases o with
  | cells c e f =>
    simp only [setO]
    cases p.spot <;> simp
  | _ => rfl

theorem setO_same (w : World) (p : Addr) (v : Value) (h : w.cell? p = some v) : (w.heap[p.block]?).map (setO p v) = w.heap[p.block]? := by
  unfold World.cell? at h
  cases ho : w.heap[p.block]? with
  | none => rfl
  | some o =>
    rw [ho] at h
    cases o with
    | cells c e f =>
      simp only at h
      simp only [Option.map_some, setO]
      cases hs : p.spot with
      | some x => simp
      | none =>
        rw [hs] at h
        simp only [Option.isSome_none, Bool.false_eq_true, if_false] at h ⊢
        congr 2
        obtain ⟨h1, h2⟩ := Array.getElem?_eq_some_iff.1 h
        apply Array.ext
        · simp
        · intro i hi hi'
          rw [Array.getElem_setIfInBounds]
          split
          · rename_i e
            subst e
            exact h2.symm
          · rfl
    | _ => simp at h

/-- Of what was there only the cell p has turned: it holds v. -/
structure Put (w : World) (p : Addr) (v : Value) (w' : World) : Prop where
  os : w'.os = w.os
  tape : w'.tape = w.tape
  output : w'.output = w.output
  lt : p.block < w.heap.size
  size : w.heap.size ≤ w'.heap.size
  other : ∀ k, k < w.heap.size → k ≠ p.block → w'.heap[k]? = w.heap[k]?
  here : w'.heap[p.block]? = (w.heap[p.block]?).map (setO p v)

theorem Put.refl {w : World} {p : Addr} {v : Value} (h : w.cell? p = some v) (hp : p.block < w.heap.size) : Put w p v w :=
  ⟨rfl, rfl, rfl, hp, Nat.le_refl _, fun _ _ _ => rfl, (setO_same w p v h).symm⟩

theorem Put.set (w : World) {p : Addr} (v : Value) (hp : p.block < w.heap.size) : Put w p v (w.setCell p v) :=
  ⟨rfl, rfl, rfl, hp, by simp [World.setCell], fun k _ hk => Below.heap_setCell _ _ _ _ hk, by rw [setCell_heap, if_pos rfl]⟩

theorem Put.trans {w w1 w2 : World} {p : Addr} {u v : Value} (h : Put w p u w1) (k : Put w1 p v w2) : Put w p v w2 :=
  ⟨k.os.trans h.os, k.tape.trans h.tape, k.output.trans h.output, h.lt, Nat.le_trans h.size k.size,
    fun i hi hn => (k.other i (Nat.lt_of_lt_of_le hi h.size) hn).trans (h.other i hi hn),
    by rw [k.here, h.here, Option.map_map]; congr 1; funext o; exact setO_setO p u v o⟩

theorem Put.below {w w1 w2 : World} {p : Addr} {v : Value} (h : Put w p v w1) (k : Below w1.heap.size w1 w2) : Put w p v w2 :=
  ⟨k.os.trans h.os, k.tape.trans h.tape, k.output.trans h.output, h.lt, Nat.le_trans h.size k.size,
    fun i hi hn => (k.block i (Nat.lt_of_lt_of_le hi h.size)).trans (h.other i hi hn), (k.block _ (Nat.lt_of_lt_of_le h.lt h.size)).trans h.here⟩

theorem Put.after {w w1 w2 : World} {p : Addr} {v : Value} (k : Below w.heap.size w w1) (h : Put w1 p v w2) (hp : p.block < w.heap.size) : Put w p v w2 :=
  ⟨h.os.trans k.os, h.tape.trans k.tape, h.output.trans k.output, hp, Nat.le_trans k.size h.size,
    fun i hi hn => (h.other i (Nat.lt_of_lt_of_le hi k.size) hn).trans (k.block i hi), by rw [h.here, k.block _ hp]⟩

theorem Put.alloc {w w1 : World} {p : Addr} {v : Value} (h : Put w p v w1) (o : Obj) : Put w p v (w1.alloc o) := h.below ((Below.refl _ _).alloc (Nat.le_refl _) _)

theorem Put.drew {w w1 : World} {p : Addr} {v : Value} (h : Put w p v w1) : Put w p v w1.drew := h.below (Below.refl _ _).drew

theorem Put.far {w w1 : World} {p : Addr} {u : Value} (h : Put w p u w1) {q : Addr} (hq : w.heap.size ≤ q.block) (v : Value) : Put w p u (w1.setCell q v) :=
  ⟨h.os, h.tape, h.output, h.lt, by rw [show (w1.setCell q v).heap.size = w1.heap.size from by simp [World.setCell]]; exact h.size,
    fun i hi hn => (Below.heap_setCell _ _ _ _ (by omega)).trans (h.other i hi hn), (Below.heap_setCell _ _ _ _ (by have := h.lt; omega)).trans h.here⟩

theorem Put.cell {w w' : World} {p : Addr} {u v : Value} (h : Put w p v w') (hc : w.cell? p = some u) : w'.cell? p = some v := by
  have e : w'.heap[p.block]? = (w.setCell p v).heap[p.block]? := by rw [h.here, setCell_heap, if_pos rfl]
  rw [World.cell?_of_block (w := w.setCell p v) e]
  exact World.cell?_setCell_same _ _ _ hc

theorem Put.old {w w' : World} {p q : Addr} {v : Value} (h : Put w p v w') (hq : q ≠ p) (hl : q.block < w.heap.size) : w'.cell? q = w.cell? q := by
  by_cases e : q.block = p.block
  · have e2 : w'.heap[q.block]? = (w.setCell p v).heap[q.block]? := by rw [e, h.here, setCell_heap, if_pos rfl]
    rw [World.cell?_of_block (w := w.setCell p v) e2]
    exact World.cell?_setCell_other _ _ _ _ (Ne.symm hq)
  · exact World.cell?_of_block (w := w) (h.other _ hl e)

theorem Put.frozen {w w' : World} {p q : Addr} {v : Value} (h : Put w p v w') (hl : q.block < w.heap.size) : w'.frozen? q = w.frozen? q := by
  by_cases e : q.block = p.block
  · have e2 : w'.heap[q.block]? = (w.setCell p v).heap[q.block]? := by rw [e, h.here, setCell_heap, if_pos rfl]
    rw [World.frozen?_of_block (w := w.setCell p v) e2]
    exact World.frozen?_setCell _ _ _ _
  · exact World.frozen?_of_block (w := w) (h.other _ hl e)

theorem Put.grown {w w' : World} {p : Addr} {v : Value} (h : Put w p v w') : w.grownBy w' (some p.block) :=
  ⟨h.os, h.tape, h.output, h.size, fun k hk hn => h.other k hk (fun e => hn (by rw [e]))⟩

theorem Put.grow {W w w' : World} {p : Addr} {v : Value} {row : Option Nat} (h : Put W p v w) (g : w.grownBy w' row) (hr : ∀ k, row = some k → W.heap.size ≤ k) : Put W p v w' :=
  ⟨g.os.trans h.os, g.tape.trans h.tape, g.output.trans h.output, h.lt, Nat.le_trans h.size g.size,
    fun i hi hn => (g.block i (Nat.lt_of_lt_of_le hi h.size) (fun e => by have := hr i e.symm; omega)).trans (h.other i hi hn),
    (g.block _ (Nat.lt_of_lt_of_le h.lt h.size) (fun e => by have := hr _ e.symm; have := h.lt; omega)).trans h.here⟩

theorem own_put {w w' : World} {p : Addr} {x : Value} {base : Nat} {e : TypeId} {size : Nat} {v : Value} {n : Nat} {xs : List Value} (h : w.ownsRow base e size v n xs) (k : Put w p x w') (hp : p.block < base) : w'.ownsRow base e size v n xs := by
  refine ⟨h.1, ?_⟩
  rcases h.2 with h2 | ⟨g, cap, cur, hv, hg, hh, r⟩
  · exact .inl h2
  · refine .inr ⟨g, cap, cur, hv, hg, ?_, r⟩
    have hlt : g < w.heap.size := (Array.getElem?_eq_some_iff.1 hh).1
    rw [k.other g hlt (by omega)]; exact hh

/-- For a walk: every old cell but the one, every old mark. -/
theorem Put.cells {w w' : World} {p : Addr} {v : Value} (h : Put w p v w') : (∀ b o, b < w.heap.size → b ≠ p.block → w'.cell? ⟨b, o, none⟩ = w.cell? ⟨b, o, none⟩) ∧ (∀ b o, b < w.heap.size → w'.frozen? ⟨b, o, none⟩ = w.frozen? ⟨b, o, none⟩) :=
  ⟨fun b o hb hn => h.old (by intro e; apply hn; rw [← e]) hb, fun b o hb => h.frozen hb⟩

/-- What is left of some bytes: a slice that reads as them. -/
def LeftV (w : World) (b : Nat) (v : Value) (l : List UInt8) : Prop := ∃ o cap, v = .slice (some ⟨b, o, none⟩) l.length cap ∧ l.length ≤ cap ∧ cap ≤ 9223372036854775807 ∧ BytesAt w b o l

theorem BytesAt.put {w w' : World} {p : Addr} {v : Value} {b o : Nat} {l : List UInt8} (h : BytesAt w b o l) (k : Put w p v w') (hb : b < w.heap.size) (hn : b ≠ p.block) : BytesAt w' b o l :=
  fun j hj => (k.old (by intro e; apply hn; rw [← e]) hb).trans (h j hj)

theorem LeftV.put {w w' : World} {p : Addr} {v u : Value} {b : Nat} {l : List UInt8} (h : LeftV w b u l) (k : Put w p v w') (hb : b < w.heap.size) (hn : b ≠ p.block) : LeftV w' b u l := by
  obtain ⟨o, cap, h1, h2, h3, h4⟩ := h
  exact ⟨o, cap, h1, h2, h3, h4.put k hb hn⟩

theorem BytesAt.back {w w' : World} {p : Addr} {v : Value} {b o : Nat} {l : List UInt8} (h : BytesAt w' b o l) (k : Put w p v w') (hb : b < w.heap.size) (hn : b ≠ p.block) : BytesAt w b o l :=
  fun j hj => (k.old (q := ⟨b, o + j, none⟩) (by intro e; apply hn; rw [← e]) hb).symm.trans (h j hj)

theorem LeftV.back {w w' : World} {p : Addr} {v u : Value} {b : Nat} {l : List UInt8} (h : LeftV w' b u l) (k : Put w p v w') (hb : b < w.heap.size) (hn : b ≠ p.block) : LeftV w b u l := by
  obtain ⟨o, cap, h1, h2, h3, h4⟩ := h
  exact ⟨o, cap, h1, h2, h3, h4.back k hb hn⟩

theorem LeftV.below {w w' : World} {u : Value} {b : Nat} {l : List UInt8} (h : LeftV w b u l) {B : Nat} (k : Below B w w') (hb : b < B) : LeftV w' b u l := by
  obtain ⟨o, cap, h1, h2, h3, h4⟩ := h
  exact ⟨o, cap, h1, h2, h3, h4.below k hb⟩

theorem leftv {w : World} {b o k c : Nat} {l : List UInt8} (h : BytesAt w b o l) (hk : k = l.length) (hc : k ≤ c) (hb : c ≤ 9223372036854775807) : LeftV w b (.slice (some ⟨b, o, none⟩) k c) l :=
  ⟨o, c, by rw [hk], by omega, hb, h⟩

theorem bytes_nil (w : World) (b o : Nat) : BytesAt w b o [] := fun j hj => by simp at hj

/-- How long a slice is that a cell holds. -/
def lenAt (w : World) (p : Addr) : Nat := match w.cell? p with | some (.slice _ n _) => n | _ => 0

theorem lenAt_slice {w : World} {p : Addr} {A : Option Addr} {n c : Nat} (h : w.cell? p = some (.slice A n c)) : lenAt w p = n := by unfold lenAt; rw [h]

theorem own_lt {w : World} {base : Nat} {e : TypeId} {size : Nat} {v : Value} {n : Nat} {xs : List Value} (h : w.ownsRow base e size v n xs) {k : Nat} (hk : v.ownBlock = some k) : base ≤ k ∧ k < w.heap.size := by
  rcases h.2 with ⟨h1, _⟩ | ⟨g, _, _, h1, h2, h3, _⟩
  · rw [h1] at hk; cases hk
  · rw [h1] at hk
    simp only [Value.ownBlock, Option.some.injEq] at hk
    subst hk
    exact ⟨h2, (Array.getElem?_eq_some_iff.1 h3).1⟩

theorem own_grown {w w1 : World} {q base : Nat} {e : TypeId} {size : Nat} {v : Value} {n : Nat} {xs : List Value} (h : w.ownsRow base e size v n xs) (hg : w.grownBy w1 (some q)) (hq : q < base) : w1.ownsRow base e size v n xs := by
  refine ⟨h.1, ?_⟩
  rcases h.2 with h2 | ⟨g, cap, cur, hv, hb, hh, r⟩
  · exact .inl h2
  · refine .inr ⟨g, cap, cur, hv, hb, ?_, r⟩
    rw [hg.block g (Array.getElem?_eq_some_iff.1 hh).1 (fun e => by injection e with e; omega)]
    exact hh

theorem cell_in {w : World} {q i : Nat} {c : Array Value} {t : TypeId} {z : Nat × Nat} (h : w.heap[q]? = some (.cells c t z)) : w.cell? ⟨q, i, none⟩ = c[i]? := by simp [World.cell?, h]

theorem mark_in {w : World} {q i : Nat} {c : Array Value} {t : TypeId} (h : w.heap[q]? = some (.cells c t)) : w.frozen? ⟨q, i, none⟩ = false := by simp [World.frozen?, h]

theorem byte_get {l : List UInt8} {j : Nat} {u : Value} (h : (Lib.byteCells l)[j]? = some u) : j < l.length ∧ u = .int .u8 ((l.getD j 0).toNat : Int) := by
  have hj : j < l.length := by
    rcases Nat.lt_or_ge j l.length with hj | hj
    · exact hj
    · rw [List.getElem?_eq_none (by simpa [Lib.byteCells] using hj)] at h; cases h
  refine ⟨hj, ?_⟩
  simp [Lib.byteCells, List.getElem?_eq_getElem hj] at h
  rw [← h, List.getD_eq_getElem?_getD, List.getElem?_eq_getElem hj]
  rfl

theorem own_bytes {w : World} {base g c : Nat} {l : List UInt8} (h : w.ownsRow base 5 1 (.slice (some ⟨g, 0, none⟩) l.length c) l.length (Lib.byteCells l)) : BytesAt w g 0 l := fun j hj => by
  have hx : (Lib.byteCells l)[j]? = some (.int .u8 ((l.getD j 0).toNat : Int)) := by simp [Lib.byteCells, List.getD_eq_getElem?_getD, List.getElem?_eq_getElem hj]
  have := h.cells (g := g) rfl j _ hx
  rwa [Go.WideShapes.add_plain] at this

def bulkW (t : List UInt8) : List UInt8 := 36 :: (Lib.itoa t.length ++ 13 :: 10 :: (t ++ [13, 10]))

def writeB (l : List (List UInt8)) : List UInt8 := 42 :: (Lib.itoa l.length ++ 13 :: 10 :: (l.map bulkW).flatten)

theorem itoa_nat (n : Nat) : Lib.itoa (n : Int) = Lib.decDigits n := by
  unfold Lib.itoa
  rw [if_neg (by omega)]
  simp

/-- Bytes that are laid anew read as they are. -/
theorem bytes_new (w : World) (l : List UInt8) (z : Nat × Nat) : BytesAt (w.alloc (.cells (l.map fun c => Value.int .u8 (c.toNat : Int)).toArray 5 z)) w.heap.size 0 l := fun j hj => by
  rw [cell_in (World.alloc_heap_new w _)]
  simp [List.getElem?_eq_getElem hj, List.getD_eq_getElem?_getD]

theorem addr_block (a : Addr) (n : Nat) : (a.add n).block = a.block := by unfold Addr.add; split <;> rfl

/-- A slice that reads as some bytes: nil, or any other. -/
def SrcAt (w : World) (X : Value) (l : List UInt8) : Prop :=
  ∃ A c, X = .slice A l.length c ∧ l.length ≤ c ∧ c ≤ 9223372036854775807 ∧ (A = none → c = 0) ∧ ∀ ad, A = some ad → ∀ j, j < l.length → w.cell? (ad.add j) = some (.int .u8 ((l.getD j 0).toNat : Int))

theorem SrcAt.form {w : World} {X : Value} {l : List UInt8} (h : SrcAt w X l) : ∃ A c, X = .slice A l.length c := by
  obtain ⟨A, c, h, _⟩ := h
  exact ⟨A, c, h⟩

theorem SrcAt.nil (w : World) : SrcAt w (.slice none 0 0) [] := ⟨none, 0, rfl, Nat.le_refl _, by omega, fun _ => rfl, fun _ h => by cases h⟩

theorem SrcAt.at {w : World} {b o c : Nat} {l : List UInt8} (h : BytesAt w b o l) (hl : l.length ≤ c) (hc : c ≤ 9223372036854775807) : SrcAt w (.slice (some ⟨b, o, none⟩) l.length c) l :=
  ⟨_, _, rfl, hl, hc, (fun h => by cases h), fun ad e j hj => by cases e; rw [Go.WideShapes.add_plain]; exact h j hj⟩

theorem SrcAt.own {w : World} {base : Nat} {X : Value} {l : List UInt8} (h : w.ownsRow base 5 1 X l.length (Lib.byteCells l)) : SrcAt w X l := by
  rcases h.2 with ⟨rfl, h2⟩ | ⟨g, cap', cur, rfl, h2, h3, h4, h5, _⟩
  · obtain rfl : l = [] := List.length_eq_zero_iff.1 h2
    exact SrcAt.nil w
  · exact SrcAt.at (own_bytes h) h4 (by unfold maxLen at h5; omega)

theorem SrcAt.keep {w w' : World} {X : Value} {l : List UInt8} (h : SrcAt w X l) (hk : ∀ k, X.ownBlock = some k → k < w.heap.size → w'.heap[k]? = w.heap[k]?) : SrcAt w' X l := by
  obtain ⟨A, c, rfl, h1, h2, h3, h4⟩ := h
  refine ⟨A, c, rfl, h1, h2, h3, fun ad e j hj => ?_⟩
  subst e
  have hc := h4 ad rfl j hj
  have hlt : ad.block < w.heap.size := by rw [← addr_block ad j]; exact World.block_lt_of_cell? w (ad.add j) hc
  exact (World.cell?_of_block (w := w) (a := ad.add j) (by rw [addr_block]; exact hk ad.block rfl hlt)).trans hc

theorem SrcAt.below {w w' : World} {X : Value} {l : List UInt8} (h : SrcAt w X l) (hb : Below w.heap.size w w') : SrcAt w' X l := h.keep fun k _ hk => hb.block k hk

/-- A row of bytes of the call's own, all of whose cells may be written. -/
def OwnsT (w : World) (base : Nat) (v : Value) (l : List UInt8) : Prop :=
  ∃ g cap, v = .slice (some ⟨g, 0, none⟩) l.length cap ∧ base ≤ g ∧ g < w.heap.size ∧ l.length ≤ cap ∧ cap ≤ maxLen ∧ (∀ j, j < cap → (w.cell? ⟨g, j, none⟩).isSome = true ∧ w.frozen? ⟨g, j, none⟩ = false) ∧ BytesAt w g 0 l

theorem OwnsT.below {w w' : World} {base : Nat} {v : Value} {l : List UInt8} (h : OwnsT w base v l) (hb : Below w.heap.size w w') : OwnsT w' base v l := by
  obtain ⟨g, cap, h1, h2, h3, h4, h5, h6, h7⟩ := h
  refine ⟨g, cap, h1, h2, Nat.lt_of_lt_of_le h3 hb.size, h4, h5, fun j hj => ?_, h7.below hb h3⟩
  rw [hb.cell (p := ⟨g, j, none⟩) h3, hb.frozen (p := ⟨g, j, none⟩) h3]
  exact h6 j hj

theorem OwnsT.base {w : World} {base base' : Nat} {v : Value} {l : List UInt8} (h : OwnsT w base v l) (hb : base' ≤ base) : OwnsT w base' v l := by
  obtain ⟨g, cap, h1, h2, h3⟩ := h
  exact ⟨g, cap, h1, by omega, h3⟩

theorem OwnsT.of_own {w : World} {base g cap : Nat} {l : List UInt8} (h : w.ownsRow base 5 1 (.slice (some ⟨g, 0, none⟩) l.length cap) l.length (Lib.byteCells l)) : OwnsT w base (.slice (some ⟨g, 0, none⟩) l.length cap) l := by
  have hb : BytesAt w g 0 l := fun j hj => by
    have hx : (Lib.byteCells l)[j]? = some (.int .u8 ((l.getD j 0).toNat : Int)) := by simp [Lib.byteCells, List.getD_eq_getElem?_getD, List.getElem?_eq_getElem hj]
    have := h.cells (g := g) rfl j _ hx
    rwa [Go.WideShapes.add_plain] at this
  rcases h.2 with ⟨h1, _⟩ | ⟨g', cap', cur, hv, hg, hh, hn, hm, hs, _⟩
  · cases h1
  · simp only [Value.slice.injEq, true_and, Option.some.injEq, Addr.mk.injEq, and_true] at hv
    obtain ⟨rfl, rfl⟩ := hv
    refine ⟨g, cap, rfl, hg, (Array.getElem?_eq_some_iff.1 hh).1, hn, hm, fun j hj => ⟨?_, ?_⟩, hb⟩
    · rw [cell_in hh, Array.getElem?_eq_getElem (by omega)]
      rfl
    · exact mark_in hh

/-- A text's bytes, laid anew. -/
theorem text_bytes (w : World) (T : ByteArray) (x : List UInt8) (hx : T.data.toList = x) (hm : x.length ≤ 9223372036854775807) :
    ∃ C W1, (convert 9 26 (.string T)).run Tryd.prog w = .ok (.slice (some ⟨w.heap.size, 0, none⟩) x.length C) W1 ∧ Below w.heap.size w W1 ∧ OwnsT W1 w.heap.size (.slice (some ⟨w.heap.size, 0, none⟩) x.length C) x := by
  have h := run_bytes_of_string (P := Tryd.prog) w 9 26 5 T Tryd.underlying9 Tryd.underlying26 Tryd.underlying5
  have hN : T.size = x.length := by rw [← hx, Array.length_toList]; rfl
  rw [hN] at h
  have hge := grownCap_ge w x.length 0 5
  have hcm := grownCap_le_maxLen w x.length 0 5 (by unfold maxLen; exact hm)
  obtain ⟨C, hC⟩ : ∃ C, grownCap w x.length 0 5 = C := ⟨_, rfl⟩
  rw [hC] at h hge hcm
  have hsz : (bytesRow T C).size = C := by
    unfold bytesRow
    rw [Array.size_append, Array.size_map, Array.size_replicate]
    show T.size + (C - T.size) = C
    omega
  have hnew : (w.drew.alloc (.cells (bytesRow T C) 5 ((bytesRow T C).size, (bytesRow T C).size + 1))).heap[w.heap.size]? = some (.cells (bytesRow T C) 5 ((bytesRow T C).size, (bytesRow T C).size + 1)) := World.alloc_heap_new w.drew _
  refine ⟨C, _, h, (Below.refl _ _).drew.alloc (Nat.le_refl _) _, w.heap.size, C, rfl, Nat.le_refl _, by simp, hge, hcm, fun j hj => ⟨?_, ?_⟩, fun j hj => ?_⟩
  · rw [cell_in hnew, Array.getElem?_eq_getElem (by omega)]
    rfl
  · have hf : (w.drew.alloc (.cells (bytesRow T C) 5 ((bytesRow T C).size, (bytesRow T C).size + 1))).heap[w.heap.size]? = some (.cells (bytesRow T C) 5 ((bytesRow T C).size, (bytesRow T C).size + 1)) := hnew
    simp only [World.frozen?, hf, Bool.and_eq_false_iff, decide_eq_false_iff_not]
    left
    omega
  · rw [Nat.zero_add]
    refine (cell_in hnew).trans ?_
    have hjs : j < T.data.size := by rw [← hx, Array.length_toList] at hj; exact hj
    unfold bytesRow
    rw [Array.getElem?_append_left (by rw [Array.size_map]; exact hjs), Array.getElem?_map, Array.getElem?_eq_getElem hjs]
    rw [← hx, List.getD_eq_getElem?_getD, Array.getElem?_toList, Array.getElem?_eq_getElem hjs]
    rfl

theorem size_setCellsW (b : Nat) : ∀ (vs : List Value) (o : Nat) (w : World), (w.setCells b o vs).heap.size = w.heap.size
  | [], _, _ => rfl
  | v :: r, o, w => by
    rw [World.setCells, size_setCellsW b r]
    simp [World.setCell]

theorem strCells_eq (T : ByteArray) (x : List UInt8) (hx : T.data.toList = x) : Lib.strCells T = Lib.byteCells x := by
  unfold Lib.strCells Lib.byteCells
  rw [hx]

/-- The bytes of the first texts. -/
def writeK (ws : List (List UInt8)) (k : Nat) : List UInt8 := 42 :: (Lib.itoa ws.length ++ 13 :: 10 :: ((ws.take k).map bulkW).flatten)

theorem writeK_all (ws : List (List UInt8)) : writeK ws ws.length = writeB ws := by unfold writeK writeB; rw [List.take_length]

theorem writeK_zero (ws : List (List UInt8)) : writeK ws 0 = 42 :: Lib.itoa ws.length ++ [13, 10] := by unfold writeK; simp

theorem writeK_step (ws : List (List UInt8)) (k : Nat) (t : List UInt8) (h : ws[k]? = some t) : writeK ws (k + 1) = writeK ws k ++ (36 :: Lib.itoa t.length) ++ [13, 10] ++ t ++ [13, 10] := by
  unfold writeK
  rw [List.take_add_one, h]
  simp [bulkW]

theorem itoa_le (n : Nat) (h : n < 18446744073709551616) : (Lib.itoa (n : Int)).length ≤ 20 := by rw [itoa_nat, Lib.decDigits_length]; exact Lib.nDigits_le20 n h

theorem bulkW_le (t : List UInt8) (h : t.length ≤ 65536) : (bulkW t).length ≤ 65600 := by
  have := itoa_le t.length (by omega)
  simp only [bulkW, List.length_cons, List.length_append, List.length_nil]
  omega

theorem writeK_le (ws : List (List UInt8)) (h : ∀ t ∈ ws, t.length ≤ 65536) (hn : ws.length ≤ 1024) : ∀ k, k ≤ ws.length → (writeK ws k).length ≤ 23 + k * 65600
  | 0, _ => by
    rw [writeK_zero]
    have := itoa_le ws.length (by omega)
    simp only [List.length_cons, List.length_append, List.length_nil]
    omega
  | k + 1, hk => by
    have ih := writeK_le ws h hn k (by omega)
    have hk1 : ws[k]? = some ws[k] := List.getElem?_eq_getElem (by omega)
    rw [writeK_step ws k _ hk1]
    have hb := bulkW_le ws[k] (h _ (List.getElem_mem _))
    simp only [bulkW, List.length_cons, List.length_append, List.length_nil] at hb ⊢
    omega

end Go.Proofs.YtbldahkgilkclaaDoor
