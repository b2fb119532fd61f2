/-
  What Split holds in memory from one request to the next. No condition.
-/
import Derived.Test.YtkaododohnncnaaDoorRpX
import Derived.Test.YtkaododohnncnaaDoorRpZ
namespace Go.Proofs.YtkaododohnncnaaDoor
open Go.RowKit

theorem own_mod {w w1 : World} {B : Nat} {tb : Option Nat} {base : Nat} {e : TypeId} {size : Nat} {v : Value} {n : Nat} {xs : List Value} (h : w.ownsRow base e size v n xs) (k : Mod w B tb w1) (hB : B < base) (ht : v.ownBlock = none ∨ v.ownBlock ≠ tb) : w1.ownsRow base e size v n xs := by
  refine ⟨h.1, ?_⟩
  rcases h.2 with h2 | ⟨g, cap, cur, hv, hg, hh, r⟩
  · exact .inl h2
  · refine .inr ⟨g, cap, cur, hv, hg, ?_, r⟩
    have hlt : g < w.heap.size := (Array.getElem?_eq_some_iff.1 hh).1
    rw [k.other g hlt (by omega) (fun e => by
      rcases ht with h1 | h1
      · rw [hv] at h1; cases h1
      · exact h1 (by rw [hv, ← e]; rfl))]
    exact hh

theorem own_grown {w w1 : World} {q base : Nat} {e : TypeId} {size : Nat} {v : Value} {n : Nat} {xs : List Value} (h : w.ownsRow base e size v n xs) (hg : w.grownBy w1 (some q)) (hq : q < base) : w1.ownsRow base e size v n xs := by
  refine ⟨h.1, ?_⟩
  rcases h.2 with h2 | ⟨g, cap, cur, hv, hb, hh, r⟩
  · exact .inl h2
  · refine .inr ⟨g, cap, cur, hv, hb, ?_, r⟩
    rw [hg.block g (Array.getElem?_eq_some_iff.1 hh).1 (fun e => by injection e with e; omega)]
    exact hh

theorem OwnsReqs.mod {w w1 : World} {B base n : Nat} {vl tv : Value} {vs : List Value} {acc : List (List (List UInt8))} (h : OwnsReqs w base vl acc) (ho : w.ownsRow (B + 1) 23 1 tv n vs) (k : Mod w B tv.ownBlock w1) (hB : B < base) : OwnsReqs w1 base vl acc := by
  obtain ⟨xs, h1, h2, h3⟩ := h
  exact ⟨xs, h1, own_mod h2 k hB (own_ne h2 ho (by decide)), fun i u r hu hr => own_mod (h3 i u r hu hr) k hB (own_ne (h3 i u r hu hr) ho (by decide))⟩
theorem OwnsReqs.grown {w w1 : World} {base q : Nat} {vl : Value} {acc : List (List (List UInt8))} (h : OwnsReqs w base vl acc) (hg : w.grownBy w1 (some q)) (hq : q < base) : OwnsReqs w1 base vl acc := by
  obtain ⟨xs, h1, h2, h3⟩ := h
  exact ⟨xs, h1, own_grown h2 hg hq, fun i u r hu hr => own_grown (h3 i u r hu hr) hg hq⟩
theorem OwnsReqs.base {w : World} {base base' : Nat} {vl : Value} {acc : List (List (List UInt8))} (h : OwnsReqs w base vl acc) (hb : base' ≤ base) : OwnsReqs w base' vl acc := by
  obtain ⟨xs, h1, h2, h3⟩ := h
  exact ⟨xs, h1, ownsRow_base h2 hb, fun i u r hu hr => ownsRow_base (h3 i u r hu hr) hb⟩

/-- Split's variables. -/
structure SpK (w : World) (H : Nat) (bv : Value) (ls : Loop) (n : Nat) (acc : List (List (List UInt8))) (vl : Value) (wr : World) : Prop where
  below : Below H w wr
  size : H + 8 ≤ wr.heap.size
  loop : wr.heap[H + 7]? = some (.loop ls)
  defs : wr.heap[H + 6]? = some (.deferred (some []))
  cb : wr.cell? ⟨H, 0, none⟩ = some bv
  cl : wr.cell? ⟨H + 1, 0, none⟩ = some vl
  fl : wr.frozen? ⟨H + 1, 0, none⟩ = false
  cn : wr.cell? ⟨H + 2, 0, none⟩ = some (.int .i64 n)
  fn : wr.frozen? ⟨H + 2, 0, none⟩ = false
  ct : wr.cell? ⟨H + 3, 0, none⟩ = some (.string ⟨#[]⟩)
  ft : wr.frozen? ⟨H + 3, 0, none⟩ = false
  cp : wr.cell? ⟨H + 5, 0, none⟩ = some (.pointer (some ⟨H + 4, 0, none⟩))
  req : OwnsReqs wr (H + 8) vl acc

variable {w wr w1 : World} {H b n : Nat} {bv : Value} {l : List UInt8} {ls : Loop} {acc : List (List (List UInt8))} {vl : Value}

theorem SpK.same (h : SpK w H bv ls n acc vl wr) (hb : Below H w w1) (hs : wr.heap.size ≤ w1.heap.size) (hq : ∀ q, q < H + 8 → q ≠ H + 4 → w1.heap[q]? = wr.heap[q]?) (hr : OwnsReqs w1 (H + 8) vl acc) : SpK w H bv ls n acc vl w1 :=
  have c : ∀ q, q < H + 8 → q ≠ H + 4 → w1.cell? ⟨q, 0, none⟩ = wr.cell? ⟨q, 0, none⟩ := fun q h1 h2 => World.cell?_of_block (w := wr) (a := ⟨q, 0, none⟩) (hq q h1 h2)
  have f : ∀ q, q < H + 8 → q ≠ H + 4 → w1.frozen? ⟨q, 0, none⟩ = wr.frozen? ⟨q, 0, none⟩ := fun q h1 h2 => World.frozen?_of_block (w := wr) (a := ⟨q, 0, none⟩) (hq q h1 h2)
  { below := hb
    size := Nat.le_trans h.size hs
    loop := (hq _ (by omega) (by omega)).trans h.loop
    defs := (hq _ (by omega) (by omega)).trans h.defs
    cb := (c _ (by omega) (by omega)).trans h.cb
    cl := (c _ (by omega) (by omega)).trans h.cl
    fl := (f _ (by omega) (by omega)).trans h.fl
    cn := (c _ (by omega) (by omega)).trans h.cn
    fn := (f _ (by omega) (by omega)).trans h.fn
    ct := (c _ (by omega) (by omega)).trans h.ct
    ft := (f _ (by omega) (by omega)).trans h.ft
    cp := (c _ (by omega) (by omega)).trans h.cp
    req := hr }

theorem SpK.mod {tv : Value} {k : Nat} {vs : List Value} (h : SpK w H bv ls n acc vl wr) (ho : wr.ownsRow (H + 4 + 1) 23 1 tv k vs) (m : Mod wr (H + 4) tv.ownBlock w1) (ht : ∀ i, tv.ownBlock = some i → H + 8 ≤ i) : SpK w H bv ls n acc vl w1 :=
  h.same (h.below.trans (m.low (by omega) (fun k hk => by have := ht k hk; omega))) m.size (fun q h1 h2 => m.other q (by have := h.size; omega) h2 (fun e => by have := ht q e.symm; omega)) (h.req.mod ho m (by omega))
theorem SpK.on (h : SpK w H bv ls n acc vl wr) (k : Below wr.heap.size wr w1) : SpK w H bv ls n acc vl w1 :=
  h.same (h.below.trans (k.mono (by have := h.size; omega))) k.size (fun q h1 _ => k.block q (by have := h.size; omega)) (h.req.below k)
theorem SpK.put (h : SpK w H bv ls n acc vl wr) (ls' : Loop) : SpK w H bv ls' n acc vl (wr.putObj (H + 7) (.loop ls')) :=
  have hg := grownBy_putObj' wr (H + 7) (.loop ls')
  have c : ∀ q, q ≠ H + 7 → (wr.putObj (H + 7) (.loop ls')).cell? ⟨q, 0, none⟩ = wr.cell? ⟨q, 0, none⟩ := fun q h1 => World.cell?_of_block (w := wr) (a := ⟨q, 0, none⟩) (World.putObj_heap_other h1)
  have f : ∀ q, q ≠ H + 7 → (wr.putObj (H + 7) (.loop ls')).frozen? ⟨q, 0, none⟩ = wr.frozen? ⟨q, 0, none⟩ := fun q h1 => World.frozen?_of_block (w := wr) (a := ⟨q, 0, none⟩) (World.putObj_heap_other h1)
  { below := h.below.grown hg (by have := h.size; omega) (fun k e => by injection e; omega)
    size := by rw [World.putObj_size]; exact h.size
    loop := World.putObj_heap_same (by have := h.size; omega)
    defs := (World.putObj_heap_other (by omega)).trans h.defs
    cb := (c _ (by omega)).trans h.cb
    cl := (c _ (by omega)).trans h.cl
    fl := (f _ (by omega)).trans h.fl
    cn := (c _ (by omega)).trans h.cn
    fn := (f _ (by omega)).trans h.fn
    ct := (c _ (by omega)).trans h.ct
    ft := (f _ (by omega)).trans h.ft
    cp := (c _ (by omega)).trans h.cp
    req := h.req.grown hg (by omega) }
/-- The number of bytes is stored. -/
theorem SpK.setn (h : SpK w H bv ls n acc vl wr) (m : Nat) : SpK w H bv ls m acc vl (wr.setCell ⟨H + 2, 0, none⟩ (.int .i64 m)) :=
  have hk := Put.set wr (p := ⟨H + 2, 0, none⟩) (.int .i64 m) (by show H + 2 < _; have := h.size; omega)
  have c : ∀ q, q ≠ H + 2 → q < H + 8 → (wr.setCell ⟨H + 2, 0, none⟩ (.int .i64 m)).cell? ⟨q, 0, none⟩ = wr.cell? ⟨q, 0, none⟩ := fun q h1 h2 => hk.cells.1 q 0 (by have := h.size; omega) h1
  have f : ∀ q, q < H + 8 → (wr.setCell ⟨H + 2, 0, none⟩ (.int .i64 m)).frozen? ⟨q, 0, none⟩ = wr.frozen? ⟨q, 0, none⟩ := fun q h2 => hk.cells.2 q 0 (by have := h.size; omega)
  { below := h.below.setCell (p := ⟨H + 2, 0, none⟩) (by show H ≤ H + 2; omega) _
    size := Nat.le_trans h.size hk.size
    loop := (hk.other _ (by have := h.size; omega) (by show H + 7 ≠ H + 2; omega)).trans h.loop
    defs := (hk.other _ (by have := h.size; omega) (by show H + 6 ≠ H + 2; omega)).trans h.defs
    cb := (c _ (by omega) (by omega)).trans h.cb
    cl := (c _ (by omega) (by omega)).trans h.cl
    fl := (f _ (by omega)).trans h.fl
    cn := hk.cell h.cn
    fn := (f _ (by omega)).trans h.fn
    ct := (c _ (by omega) (by omega)).trans h.ct
    ft := (f _ (by omega)).trans h.ft
    cp := (c _ (by omega) (by omega)).trans h.cp
    req := h.req.grown hk.grown (by show H + 2 < H + 8; omega) }
/-- The row of requests is stored: it has grown (wr to w1), one request more. -/
theorem SpK.setl (h : SpK w H bv ls n acc vl wr) {vl' : Value} {acc' : List (List (List UInt8))} (hg : wr.grownBy w1 vl.ownBlock) (hl : ∀ i, vl.ownBlock = some i → H + 8 ≤ i) (hr : OwnsReqs w1 (H + 8) vl' acc') : SpK w H bv ls n acc' vl' (w1.setCell ⟨H + 1, 0, none⟩ vl') :=
  have hB : ∀ q, q < H + 8 → w1.heap[q]? = wr.heap[q]? := fun q hq => hg.block q (by have := h.size; omega) (fun e => by have := hl q e.symm; omega)
  have hsz : H + 8 ≤ w1.heap.size := Nat.le_trans h.size hg.size
  have hk := Put.set w1 (p := ⟨H + 1, 0, none⟩) vl' (by show H + 1 < _; omega)
  have c : ∀ q, q ≠ H + 1 → q < H + 8 → (w1.setCell ⟨H + 1, 0, none⟩ vl').cell? ⟨q, 0, none⟩ = wr.cell? ⟨q, 0, none⟩ := fun q h1 h2 => (hk.cells.1 q 0 (by omega) h1).trans (World.cell?_of_block (w := wr) (a := ⟨q, 0, none⟩) (hB q h2))
  have f : ∀ q, q < H + 8 → (w1.setCell ⟨H + 1, 0, none⟩ vl').frozen? ⟨q, 0, none⟩ = wr.frozen? ⟨q, 0, none⟩ := fun q h2 => (hk.cells.2 q 0 (by omega)).trans (World.frozen?_of_block (w := wr) (a := ⟨q, 0, none⟩) (hB q h2))
  { below := (h.below.grown hg (by have := h.size; omega) (fun k hk => by have := hl k hk; omega)).setCell (p := ⟨H + 1, 0, none⟩) (by show H ≤ H + 1; omega) _
    size := Nat.le_trans hsz hk.size
    loop := ((hk.other _ (by omega) (by show H + 7 ≠ H + 1; omega)).trans (hB _ (by omega))).trans h.loop
    defs := ((hk.other _ (by omega) (by show H + 6 ≠ H + 1; omega)).trans (hB _ (by omega))).trans h.defs
    cb := (c _ (by omega) (by omega)).trans h.cb
    cl := hk.cell ((World.cell?_of_block (w := wr) (a := ⟨H + 1, 0, none⟩) (hB _ (by show H + 1 < H + 8; omega))).trans h.cl)
    fl := (f _ (by omega)).trans h.fl
    cn := (c _ (by omega) (by omega)).trans h.cn
    fn := (f _ (by omega)).trans h.fn
    ct := (c _ (by omega) (by omega)).trans h.ct
    ft := (f _ (by omega)).trans h.ft
    cp := (c _ (by omega) (by omega)).trans h.cp
    req := hr.grown hk.grown (by show H + 1 < H + 8; omega) }

/-- The reading, behind what turns nothing of it. -/
theorem RIn.keep {B : Nat} {v tv : Value} {k : Nat} {vs : List Value} (h : RIn wr B b l v tv k vs) (hs : wr.heap.size ≤ w1.heap.size) (hq : ∀ q, q < wr.heap.size → (q = b ∨ q = B ∨ tv.ownBlock = some q) → w1.heap[q]? = wr.heap[q]?) : RIn w1 B b l v tv k vs := by
  have hB := hq B h.lt (Or.inr (Or.inl rfl))
  have hb := hq b (by have := h.lo; have := h.lt; omega) (Or.inl rfl)
  have hown := h.own
  exact {
    lo := h.lo
    lt := Nat.lt_of_lt_of_le h.lt hs
    c0 := (World.cell?_of_block (w := wr) (a := ⟨B, 0, none⟩) hB).trans h.c0
    left := by
      obtain ⟨o, cap, h1, h2, h3, h4⟩ := h.left
      exact ⟨o, cap, h1, h2, h3, fun j hj => (World.cell?_of_block (w := wr) (a := ⟨b, o + j, none⟩) hb).trans (h4 j hj)⟩
    c1 := (World.cell?_of_block (w := wr) (a := ⟨B, 1, none⟩) hB).trans h.c1
    f0 := (World.frozen?_of_block (w := wr) (a := ⟨B, 0, none⟩) hB).trans h.f0
    f1 := (World.frozen?_of_block (w := wr) (a := ⟨B, 1, none⟩) hB).trans h.f1
    own := by
      refine ⟨hown.1, ?_⟩
      rcases hown.2 with h2 | ⟨g, cap, cur, hv, hg, hh, r⟩
      · exact .inl h2
      · exact .inr ⟨g, cap, cur, hv, hg, by rw [hq g (Array.getElem?_eq_some_iff.1 hh).1 (Or.inr (Or.inr (by rw [hv]; rfl)))]; exact hh, r⟩ }
theorem RIn.of_st {W : World} {B : Nat} {tb : Option Nat} {ts : List (List UInt8)} {v tv : Value} {vs : List Value} (h : RSt W B b tb l ts v tv vs wr) : RIn wr B b l v tv ts.length vs :=
  ⟨h.lo, h.fresh.2.2.2.1, h.c0, h.bytes h.left, h.c1, h.f0, h.f1, h.own⟩

theorem allocs_size : ∀ (os : List Obj) (w : World), (os.foldl World.alloc w).heap.size = w.heap.size + os.length
  | [], w => rfl
  | o :: os, w => by rw [List.foldl_cons, allocs_size os, World.size_alloc, List.length_cons]; omega
theorem allocs_below : ∀ (os : List Obj) (w : World), Below w.heap.size w (os.foldl World.alloc w)
  | [], w => Below.refl _ _
  | o :: os, w => by
    rw [List.foldl_cons]
    exact ((Below.refl _ w).alloc (Nat.le_refl _) o).trans ((allocs_below os (w.alloc o)).mono (by simp))
theorem allocs_heap : ∀ (os : List Obj) (w : World) (i : Nat), i < os.length → (os.foldl World.alloc w).heap[w.heap.size + i]? = os[i]?
  | [], w, i, h => by simp at h
  | o :: os, w, i, h => by
    rw [List.foldl_cons]
    cases i with
    | zero =>
      rw [Nat.add_zero, (allocs_below os (w.alloc o)).block _ (by simp), World.alloc_heap_new]
      rfl
    | succ i =>
      have := allocs_heap os (w.alloc o) i (by simpa using h)
      rw [World.size_alloc] at this
      rw [show w.heap.size + (i + 1) = w.heap.size + 1 + i from by omega, this]
      rfl
theorem cell_in {w : World} {q i : Nat} {c : Array Value} {t : TypeId} {z : Nat × Nat} (h : w.heap[q]? = some (.cells c t z)) : w.cell? ⟨q, i, none⟩ = c[i]? := by simp [World.cell?, h]
theorem mark_in {w : World} {q i : Nat} {c : Array Value} {t : TypeId} (h : w.heap[q]? = some (.cells c t)) : w.frozen? ⟨q, i, none⟩ = false := by simp [World.frozen?, h]

end Go.Proofs.YtkaododohnncnaaDoor
