/-
  What a request that is being read holds, from one step to the next: what is left of the bytes, the texts so far. No condition.
-/
import Derived.Test.YtkaododohnncnaaDoorRpA
namespace Go.Proofs.YtkaododohnncnaaDoor
open Go.RowKit

/-- Of what was there only block B and one row have turned; in block B no mark. -/
structure Mod (W : World) (B : Nat) (tb : Option Nat) (w : World) : Prop where
  os : w.os = W.os
  tape : w.tape = W.tape
  output : w.output = W.output
  lt : B < W.heap.size
  size : W.heap.size ≤ w.heap.size
  other : ∀ k, k < W.heap.size → k ≠ B → some k ≠ tb → w.heap[k]? = W.heap[k]?
  mark : ∀ o, w.frozen? ⟨B, o, none⟩ = W.frozen? ⟨B, o, none⟩
  tbn : tb ≠ some B

variable {W w w1 w2 : World} {B b : Nat} {tb : Option Nat}

theorem Mod.refl (hB : B < W.heap.size) (ht : tb ≠ some B) : Mod W B tb W := ⟨rfl, rfl, rfl, hB, Nat.le_refl _, fun _ _ _ _ => rfl, fun _ => rfl, ht⟩
theorem Mod.put {v : Value} (h : Mod W B tb w) (k : Put w ⟨B, 0, none⟩ v w1) : Mod W B tb w1 :=
  ⟨k.os.trans h.os, k.tape.trans h.tape, k.output.trans h.output, h.lt, Nat.le_trans h.size k.size,
    fun i hi hn ht => (k.other i (Nat.lt_of_lt_of_le hi h.size) hn).trans (h.other i hi hn ht),
    fun o => (k.frozen (q := ⟨B, o, none⟩) (Nat.lt_of_lt_of_le h.lt h.size)).trans (h.mark o), h.tbn⟩
theorem Mod.below (h : Mod W B tb w) (k : Below w.heap.size w w1) : Mod W B tb w1 :=
  ⟨k.os.trans h.os, k.tape.trans h.tape, k.output.trans h.output, h.lt, Nat.le_trans h.size k.size,
    fun i hi hn ht => (k.block i (Nat.lt_of_lt_of_le hi h.size)).trans (h.other i hi hn ht),
    fun o => (k.frozen (p := ⟨B, o, none⟩) (Nat.lt_of_lt_of_le h.lt h.size)).trans (h.mark o), h.tbn⟩
/-- A store into a variable made since. -/
theorem Mod.far {v : Value} {p : Addr} (h : Mod W B tb w) (k : Put w p v w1) (hp : W.heap.size ≤ p.block) : Mod W B tb w1 :=
  ⟨k.os.trans h.os, k.tape.trans h.tape, k.output.trans h.output, h.lt, Nat.le_trans h.size k.size,
    fun i hi hn ht => (k.other i (Nat.lt_of_lt_of_le hi h.size) (by omega)).trans (h.other i hi hn ht),
    fun o => (k.frozen (q := ⟨B, o, none⟩) (Nat.lt_of_lt_of_le h.lt h.size)).trans (h.mark o), h.tbn⟩
theorem Mod.grow {row : Option Nat} (h : Mod W B tb w) (g : w.grownBy w1 row) (hr : ∀ k, row = some k → k ≠ B ∧ (tb = some k ∨ W.heap.size ≤ k)) : Mod W B tb w1 :=
  ⟨g.os.trans h.os, g.tape.trans h.tape, g.output.trans h.output, h.lt, Nat.le_trans h.size g.size,
    fun i hi hn ht => (g.block i (Nat.lt_of_lt_of_le hi h.size) (fun e => by
      rcases (hr i e.symm).2 with h1 | h1
      · exact ht h1.symm
      · omega)).trans (h.other i hi hn ht),
    fun o => by
      have hb := g.block B (Nat.lt_of_lt_of_le h.lt h.size) (fun e => (hr B e.symm).1 rfl)
      exact (World.frozen?_of_block (w := w) (a := ⟨B, o, none⟩) hb).trans (h.mark o), h.tbn⟩
theorem Mod.set {v : Value} {o : Nat} (h : Mod W B tb w) : Mod W B tb (w.setCell ⟨B, o, none⟩ v) :=
  ⟨h.os, h.tape, h.output, h.lt, by rw [show (w.setCell ⟨B, o, none⟩ v).heap.size = w.heap.size from by simp [World.setCell]]; exact h.size,
    fun i hi hn ht => (Below.heap_setCell _ _ _ _ hn).trans (h.other i hi hn ht),
    fun o' => (World.frozen?_setCell _ _ _ _).trans (h.mark o'), h.tbn⟩
theorem Mod.trans {tb1 : Option Nat} (h : Mod W B tb w) (k : Mod w B tb1 w1) (ht : ∀ i, tb1 = some i → tb = some i ∨ W.heap.size ≤ i) : Mod W B tb w1 :=
  ⟨k.os.trans h.os, k.tape.trans h.tape, k.output.trans h.output, h.lt, Nat.le_trans h.size k.size,
    fun i hi hn hb => (k.other i (Nat.lt_of_lt_of_le hi h.size) hn (fun e => by
      rcases ht i e.symm with h1 | h1
      · exact hb h1.symm
      · omega)).trans (h.other i hi hn hb),
    fun o => (k.mark o).trans (h.mark o), h.tbn⟩
/-- Below all that may turn. -/
theorem Mod.low (h : Mod W B tb w) {n : Nat} (hn : n ≤ B) (ht : ∀ k, tb = some k → n ≤ k) : Below n W w :=
  ⟨h.os, h.tape, h.output, h.size, fun k hk => h.other k (by have := h.lt; omega) (by omega) (fun e => by have := ht k e.symm; omega)⟩

/-- A text of a request: nil, or a slice that reads as it, in no place that may turn. -/
def TextV (w : World) (B : Nat) (tv u : Value) (t : List UInt8) : Prop :=
  (u = .slice none 0 0 ∧ t = []) ∨ ∃ g o cap, u = .slice (some ⟨g, o, none⟩) t.length cap ∧ t.length ≤ cap ∧ BytesAt w g o t ∧ g < w.heap.size ∧ g ≠ B ∧ tv.ownBlock ≠ some g

/-- The texts so far. -/
def Texts (w : World) (B : Nat) (tv : Value) (vs : List Value) (ts : List (List UInt8)) : Prop := vs.length = ts.length ∧ ∀ (i : Nat) (u : Value) (t : List UInt8), vs[i]? = some u → ts[i]? = some t → TextV w B tv u t

/-- What it holds, told of the world in which reading began. -/
structure RSt (W : World) (B b : Nat) (tb : Option Nat) (l : List UInt8) (ts : List (List UInt8)) (v tv : Value) (vs : List Value) (w : World) : Prop where
  mod : Mod W B tb w
  lo : b < B
  c0 : w.cell? ⟨B, 0, none⟩ = some v
  left : LeftV W b v l
  c1 : w.cell? ⟨B, 1, none⟩ = some tv
  m0 : W.frozen? ⟨B, 0, none⟩ = false
  m1 : W.frozen? ⟨B, 1, none⟩ = false
  own : w.ownsRow (B + 1) 23 1 tv ts.length vs
  tbk : ∀ k, tv.ownBlock = some k → tb = some k ∨ W.heap.size ≤ k
  tbl : ∀ k, tb = some k → B < k
  texts : Texts w B tv vs ts

variable {l l' : List UInt8} {ts : List (List UInt8)} {v v' tv : Value} {vs : List Value}

theorem TextV.step {tv u : Value} {t : List UInt8} (h : TextV w B tv u t) (hs : w.heap.size ≤ w1.heap.size) (hk : ∀ k, k < w.heap.size → k ≠ B → tv.ownBlock ≠ some k → w1.heap[k]? = w.heap[k]?) : TextV w1 B tv u t := by
  rcases h with h | ⟨g, o, cap, h1, h2, h3, h4, h5, h6⟩
  · exact Or.inl h
  · exact Or.inr ⟨g, o, cap, h1, h2, fun j hj => (World.cell?_of_block (w := w) (a := ⟨g, o + j, none⟩) (hk g h4 h5 h6)).trans (h3 j hj), by omega, h5, h6⟩

theorem RSt.fresh (h : RSt W B b tb l ts v tv vs w) : b < W.heap.size ∧ b ≠ B ∧ b < w.heap.size ∧ B < w.heap.size ∧ W.heap.size ≤ w.heap.size :=
  ⟨by have := h.lo; have := h.mod.lt; omega, by have := h.lo; omega, by have := h.lo; have := h.mod.lt; have := h.mod.size; omega, by have := h.mod.lt; have := h.mod.size; omega, h.mod.size⟩
/-- The bytes read now as they did. -/
theorem RSt.bytes (h : RSt W B b tb l ts v tv vs w) {u : Value} {x : List UInt8} (k : LeftV W b u x) : LeftV w b u x := k.below (h.mod.low (n := B) (Nat.le_refl _) (fun k hk => Nat.le_of_lt (h.tbl k hk))) h.lo
theorem RSt.back (h : RSt W B b tb l ts v tv vs w) {u : Value} {x : List UInt8} (k : LeftV w b u x) : LeftV W b u x := by
  obtain ⟨o, cap, h1, h2, h3, h4⟩ := k
  have hl := h.mod.low (n := B) (Nat.le_refl _) (fun k hk => Nat.le_of_lt (h.tbl k hk))
  exact ⟨o, cap, h1, h2, h3, fun j hj => (hl.cell (p := ⟨b, o + j, none⟩) h.lo).symm.trans (h4 j hj)⟩
theorem RSt.f0 (h : RSt W B b tb l ts v tv vs w) : w.frozen? ⟨B, 0, none⟩ = false := (h.mod.mark 0).trans h.m0
theorem RSt.f1 (h : RSt W B b tb l ts v tv vs w) : w.frozen? ⟨B, 1, none⟩ = false := (h.mod.mark 1).trans h.m1

theorem RSt.put (h : RSt W B b tb l ts v tv vs w) (k : Put w ⟨B, 0, none⟩ v' w1) (hl : LeftV W b v' l') : RSt W B b tb l' ts v' tv vs w1 where
  mod := h.mod.put k
  lo := h.lo
  c0 := k.cell h.c0
  left := hl
  c1 := (k.old (q := ⟨B, 1, none⟩) (by intro e; injection e with _ e _; cases e) h.fresh.2.2.2.1).trans h.c1
  m0 := h.m0
  m1 := h.m1
  own := own_put h.own k (Nat.lt_succ_self B)
  tbk := h.tbk
  tbl := h.tbl
  texts := ⟨h.texts.1, fun i u t hu ht => (h.texts.2 i u t hu ht).step k.size (fun j hj hn _ => k.other j hj hn)⟩

/-- Blocks made since, and stores into them, turn nothing of it. -/
theorem RSt.same (h : RSt W B b tb l ts v tv vs w) (hm : Mod W B tb w1) (hs : w.heap.size ≤ w1.heap.size) (hk : ∀ k, k < w.heap.size → w1.heap[k]? = w.heap[k]?) : RSt W B b tb l ts v tv vs w1 where
  mod := hm
  lo := h.lo
  c0 := (World.cell?_of_block (w := w) (a := ⟨B, 0, none⟩) (hk B h.fresh.2.2.2.1)).trans h.c0
  left := h.left
  c1 := (World.cell?_of_block (w := w) (a := ⟨B, 1, none⟩) (hk B h.fresh.2.2.2.1)).trans h.c1
  m0 := h.m0
  m1 := h.m1
  own := by
    refine ⟨h.own.1, ?_⟩
    rcases h.own.2 with h2 | ⟨g, cap, cur, hv, hg, hh, r⟩
    · exact .inl h2
    · exact .inr ⟨g, cap, cur, hv, hg, by rw [hk g (Array.getElem?_eq_some_iff.1 hh).1]; exact hh, r⟩
  tbk := h.tbk
  tbl := h.tbl
  texts := ⟨h.texts.1, fun i u t hu ht => (h.texts.2 i u t hu ht).step hs (fun j hj _ _ => hk j hj)⟩
theorem RSt.below (h : RSt W B b tb l ts v tv vs w) (k : Below w.heap.size w w1) : RSt W B b tb l ts v tv vs w1 := h.same (h.mod.below k) k.size (fun j hj => k.block j hj)

/-- A store into a variable made since, which holds none of its texts. -/
theorem RSt.far (h : RSt W B b tb l ts v tv vs w) {p : Addr} {x : Value} (k : Put w p x w1) (hp : W.heap.size ≤ p.block) (ht : tv.ownBlock ≠ some p.block) (hv : ∀ u ∈ vs, u.ownBlock ≠ some p.block) : RSt W B b tb l ts v tv vs w1 where
  mod := h.mod.far k hp
  lo := h.lo
  c0 := (k.old (q := ⟨B, 0, none⟩) (by intro e; have := h.mod.lt; rw [← e] at hp; simp only at hp; omega) h.fresh.2.2.2.1).trans h.c0
  left := h.left
  c1 := (k.old (q := ⟨B, 1, none⟩) (by intro e; have := h.mod.lt; rw [← e] at hp; simp only at hp; omega) h.fresh.2.2.2.1).trans h.c1
  m0 := h.m0
  m1 := h.m1
  own := h.own.kept k.grown (by
    rcases h.own.2 with ⟨h1, _⟩ | ⟨g, _, _, h1, _⟩
    · exact Or.inl (by rw [h1]; rfl)
    · exact Or.inr ht)
  tbk := h.tbk
  tbl := h.tbl
  texts := ⟨h.texts.1, fun i u t hu hts => by
    have hu2 := hv u (List.mem_of_getElem? hu)
    rcases h.texts.2 i u t hu hts with hx | ⟨g, o, cap, h1, h2, h3, h4, h5, h6⟩
    · exact Or.inl hx
    · refine Or.inr ⟨g, o, cap, h1, h2, fun j hj => ?_, by have := k.size; omega, h5, h6⟩
      have hgp : g ≠ p.block := fun e => hu2 (by rw [h1, e]; rfl)
      exact (k.old (q := ⟨g, o + j, none⟩) (by intro e; apply hgp; rw [← e]) h4).trans (h3 j hj)⟩

/-- While its row grows, its variable is as it was. -/
theorem RSt.grown (h : RSt W B b tb l ts v tv vs w) (hg : w.grownBy w1 tv.ownBlock) : w1.cell? ⟨B, 1, none⟩ = some tv ∧ w1.frozen? ⟨B, 1, none⟩ = false ∧ B < w1.heap.size := by
  have hB : some B ≠ tv.ownBlock := fun e => by
    rcases h.tbk B e.symm with h1 | h1
    · exact h.mod.tbn h1
    · have := h.mod.lt; omega
  have hcB := hg.block B h.fresh.2.2.2.1 hB
  exact ⟨(World.cell?_of_block (w := w) (a := ⟨B, 1, none⟩) hcB).trans h.c1, (World.frozen?_of_block (w := w) (a := ⟨B, 1, none⟩) hcB).trans h.f1, by have := hg.size; have := h.fresh.2.2.2.1; omega⟩

/-- One text more: the row has grown (w to w1), and the variable holds the new one. -/
theorem RSt.more (h : RSt W B b tb l ts v tv vs w) {u tv' : Value} {t : List UInt8} (hu : TextV w B tv u t) (hg : w.grownBy w1 tv.ownBlock) (hn : w1.ownsRow (B + 1) 23 1 tv' (ts.length + 1) (vs ++ [u])) (hat : tv'.ownBlock = tv.ownBlock ∨ ∃ k, tv'.ownBlock = some k ∧ w.heap.size ≤ k) :
    RSt W B b tb l (ts ++ [t]) v tv' (vs ++ [u]) (w1.setCell ⟨B, 1, none⟩ tv') := by
  have hB : some B ≠ tv.ownBlock := fun e => by
    rcases h.tbk B e.symm with h1 | h1
    · exact h.mod.tbn h1
    · have := h.mod.lt; omega
  have hcB := hg.block B h.fresh.2.2.2.1 hB
  have hm : Mod W B tb w1 := h.mod.grow hg (fun k hk => ⟨fun e => hB (by rw [hk, e]), h.tbk k hk⟩)
  have hsz : (w1.setCell ⟨B, 1, none⟩ tv').heap.size = w1.heap.size := by simp [World.setCell]
  have hst : ∀ (u : Value) (t : List UInt8), TextV w B tv u t → TextV (w1.setCell ⟨B, 1, none⟩ tv') B tv' u t := by
    intro u t hx
    rcases hx with hx | ⟨g, o, cap, h1, h2, h3, h4, h5, h6⟩
    · exact Or.inl hx
    · refine Or.inr ⟨g, o, cap, h1, h2, fun j hj => ?_, by rw [hsz]; have := hg.size; omega, h5, fun e => ?_⟩
      · rw [World.cell?_setCell_other _ _ _ _ (fun e => h5 (by injection e with e _ _; exact e.symm))]
        exact (World.cell?_of_block (w := w) (a := ⟨g, o + j, none⟩) (hg.block g h4 (Ne.symm h6))).trans (h3 j hj)
      · rcases hat with e2 | ⟨k, e2, e3⟩
        · exact h6 (by rw [← e2, e])
        · rw [e2] at e
          injection e with e
          omega
  exact {
    mod := hm.set
    lo := h.lo
    c0 := (World.cell?_setCell_other _ _ _ _ (by intro e; injection e with _ e _; cases e)).trans ((World.cell?_of_block (w := w) (a := ⟨B, 0, none⟩) hcB).trans h.c0)
    left := h.left
    c1 := World.cell?_setCell_same _ _ _ ((World.cell?_of_block (w := w) (a := ⟨B, 1, none⟩) hcB).trans h.c1)
    m0 := h.m0
    m1 := h.m1
    own := by
      rw [List.length_append]
      exact ownsRow_set hn B (Nat.lt_succ_self B) 1 tv'
    tbk := fun k hk => by
      rcases hat with e2 | ⟨k', e2, e3⟩
      · exact h.tbk k (by rw [← e2, hk])
      · rw [e2] at hk
        injection hk with hk
        have := h.mod.size
        exact Or.inr (by omega)
    tbl := h.tbl
    texts := ⟨by simp [h.texts.1], fun i x y hx hy => by
      by_cases hi : i < ts.length
      · rw [List.getElem?_append_left (by rw [h.texts.1]; exact hi)] at hx
        rw [List.getElem?_append_left hi] at hy
        exact hst x y (h.texts.2 i x y hx hy)
      · rw [List.getElem?_append_right (by rw [h.texts.1]; omega), h.texts.1] at hx
        rw [List.getElem?_append_right (by omega)] at hy
        rcases Nat.lt_or_ge (i - ts.length) 1 with h0 | h0
        · have h0 : i - ts.length = 0 := by omega
          rw [h0] at hx hy
          simp at hx hy
          subst hx; subst hy
          exact hst _ _ hu
        · rw [List.getElem?_eq_none (by simpa using h0)] at hx; cases hx⟩ }

theorem own_lt {w : World} {base : Nat} {e : TypeId} {size : Nat} {v : Value} {n : Nat} {xs : List Value} (h : w.ownsRow base e size v n xs) {k : Nat} (hk : v.ownBlock = some k) : base ≤ k ∧ k < w.heap.size := by
  rcases h.2 with ⟨h1, _⟩ | ⟨g, _, _, h1, h2, h3, _⟩
  · rw [h1] at hk; cases hk
  · rw [h1] at hk
    simp only [Value.ownBlock, Option.some.injEq] at hk
    subst hk
    exact ⟨h2, (Array.getElem?_eq_some_iff.1 h3).1⟩

/-- A text that was made since. -/
theorem text_own {u : Value} {t : List UInt8} {base : Nat} (h : w.ownsRow base 5 1 u t.length (Lib.byteCells t)) (hB : B < base) (ht : ∀ k, tv.ownBlock = some k → k < base) : TextV w B tv u t := by
  rcases h.2 with ⟨h1, h2⟩ | ⟨g, cap, cur, h1, h2, h3, h4, h5, _⟩
  · exact Or.inl ⟨h1, List.length_eq_zero_iff.1 h2⟩
  · refine Or.inr ⟨g, 0, cap, h1, h4, fun j hj => ?_, (Array.getElem?_eq_some_iff.1 h3).1, by omega, fun e => by have := ht g e; omega⟩
    have hx : (Lib.byteCells t)[j]? = some (.int .u8 ((t.getD j 0).toNat : Int)) := by
      simp [Lib.byteCells, List.getD_eq_getElem?_getD, List.getElem?_eq_getElem hj]
    have := h.cells (g := g) (by rw [h1]; rfl) j _ hx
    rwa [Go.WideShapes.add_plain] at this

end Go.Proofs.YtkaododohnncnaaDoor
