/-
  A text, or some bytes, behind a row of bytes of the call's own: and where the new row lies. What a chain of such appends leaves as it was. Conditions: as typed.
-/
import Derived.Test.YtbldahkgilkclaaDoorKit
import Derived.ArgAppend
namespace Go.Proofs.YtbldahkgilkclaaDoor
open Go.RowKit

/-- Of what was there only v's own row has turned; the new row lies there, or is new. -/
structure Grew (w w' : World) (v v' : Value) : Prop where
  os : w'.os = w.os
  tape : w'.tape = w.tape
  output : w'.output = w.output
  size : w.heap.size ≤ w'.heap.size
  block : ∀ k, k < w.heap.size → v.ownBlock ≠ some k → w'.heap[k]? = w.heap[k]?
  lies : ∀ k, v'.ownBlock = some k → v.ownBlock = some k ∨ w.heap.size ≤ k

theorem Grew.refl (w : World) (v : Value) : Grew w w v v := ⟨rfl, rfl, rfl, Nat.le_refl _, fun _ _ _ => rfl, fun _ h => Or.inl h⟩
theorem Grew.trans {w w1 w2 : World} {v v1 v2 : Value} (h : Grew w w1 v v1) (k : Grew w1 w2 v1 v2) : Grew w w2 v v2 :=
  ⟨k.os.trans h.os, k.tape.trans h.tape, k.output.trans h.output, Nat.le_trans h.size k.size, fun i hi hn => (k.block i (Nat.lt_of_lt_of_le hi h.size) (fun e => by
      rcases h.lies i e with h1 | h1
      · exact hn h1
      · omega)).trans (h.block i hi hn),
    fun i hi => by
      rcases k.lies i hi with h1 | h1
      · exact h.lies i h1
      · right; have := h.size; omega⟩
theorem Grew.below {w w1 w2 : World} {v v1 : Value} (h : Grew w w1 v v1) (k : Below w1.heap.size w1 w2) : Grew w w2 v v1 :=
  ⟨k.os.trans h.os, k.tape.trans h.tape, k.output.trans h.output, Nat.le_trans h.size k.size, fun i hi hn => (k.block i (Nat.lt_of_lt_of_le hi h.size)).trans (h.block i hi hn), h.lies⟩
theorem Grew.of {w w' : World} {v v' : Value} (h : w.grownBy w' v.ownBlock) (hv : v'.ownBlock = v.ownBlock ∨ v'.ownBlock = some w.heap.size) : Grew w w' v v' :=
  ⟨h.os, h.tape, h.output, h.size, fun i hi hn => h.block i hi (fun e => hn e.symm), fun k hk => by
    rcases hv with h1 | h1
    · left; rw [← h1]; exact hk
    · right; rw [h1] at hk; injection hk with hk; omega⟩
/-- After blocks that are new. -/
theorem Grew.after {w w1 w2 : World} {v v' : Value} (k : Below w.heap.size w w1) (h : Grew w1 w2 v v') : Grew w w2 v v' :=
  ⟨h.os.trans k.os, h.tape.trans k.tape, h.output.trans k.output, Nat.le_trans k.size h.size, fun i hi hn => (h.block i (Nat.lt_of_lt_of_le hi k.size) hn).trans (k.block i hi), fun i hi => by
    rcases h.lies i hi with h1 | h1
    · exact Or.inl h1
    · right; have := k.size; omega⟩
theorem Grew.low {w w' : World} {v v' : Value} (h : Grew w w' v v') {n : Nat} (hn : n ≤ w.heap.size) (hv : ∀ k, v.ownBlock = some k → n ≤ k) : Below n w w' :=
  ⟨h.os, h.tape, h.output, h.size, fun k hk => h.block k (by omega) (fun e => by have := hv k e; omega)⟩
theorem Grew.cell {w w' : World} {v v' : Value} (h : Grew w w' v v') {p : Addr} (hp : p.block < w.heap.size) (hn : v.ownBlock ≠ some p.block) : w'.cell? p = w.cell? p := World.cell?_of_block (h.block p.block hp hn)
theorem Grew.frozen {w w' : World} {v v' : Value} (h : Grew w w' v v') {p : Addr} (hp : p.block < w.heap.size) (hn : v.ownBlock ≠ some p.block) : w'.frozen? p = w.frozen? p := World.frozen?_of_block (h.block p.block hp hn)

set_option maxRecDepth 100000 in
theorem run_append_str_at (w : World) (base : Nat) (v : Value) (l : List UInt8) (hown : w.ownsRow base 5 1 v l.length (Lib.byteCells l)) (T : ByteArray) (x : List UInt8) (hx : T.data.toList = x) (hlen : l.length + x.length ≤ 1099511627777) (hb : base ≤ w.heap.size) (ty : TypeId) :
    ∃ v' w', (Builtin.append_ #[26, 9] ty #[v, .string T]).run Tryd.prog w = .ok v' w' ∧ w'.ownsRow base 5 1 v' (l ++ x).length (Lib.byteCells (l ++ x)) ∧ Grew w w' v v' := by
  obtain ⟨i0, hi, hy0, hy1, hy2⟩ := info_parts info_u8
  have hT : T.size = x.length := by rw [← hx, Array.length_toList]; rfl
  have hsc := strCells_eq T x hx
  obtain ⟨v', w', hr, h2, h3, h4⟩ := Lib.run_append_own_string (P := Tryd.prog) w base 26 9 ty 5 i0 Tryd.underlying26 Tryd.underlying9 hi hy0 hy1 hy2 v l.length (Lib.byteCells l) hown T (by unfold maxLen; omega) (by omega) hb
  refine ⟨v', w', hr, ?_, Grew.of h3 ?_⟩
  · rw [List.length_append, byteCells_two, ← hsc, ← hT]; exact h2
  · rcases hown.2 with ⟨rfl, h0⟩ | ⟨g, cap, cur, rfl, hbg, hg, hnc, hcm, hcs, htake⟩
    · by_cases hz : T.size = 0
      · left; rw [h4.2 ⟨rfl, hz⟩]
      · right
        have hr2 := run_append_nil_string (P := Tryd.prog) w 26 9 ty 5 i0 (.int .u8 0) Tryd.underlying26 Tryd.underlying9 hi hy0 T (by omega) (by omega) (by rw [hy2]; omega)
        have e := hr2.symm.trans hr
        injection e with e1 e2
        rw [← e1]; rfl
    · by_cases hroom : l.length + T.size ≤ cap
      · left
        have hr2 := Lib.run_append_room_string (P := Tryd.prog) w 26 9 ty 5 i0 Tryd.underlying26 Tryd.underlying9 hi hy1 g l.length cap cur hg T hroom (by omega)
        have e := hr2.symm.trans hr
        injection e with e1 e2
        rw [← e1]; rfl
      · right
        have hr2 := Lib.run_append_grow_string (P := Tryd.prog) w 26 9 ty 5 i0 (.int .u8 0) Tryd.underlying26 Tryd.underlying9 hi hy0 ⟨g, 0, none⟩ l.length cap (Lib.byteCells l) (by rw [hy1]; simp [Lib.byteCells]) (hown.cells (g := g) rfl) T (by omega) (by omega) (by rw [hy2]; exact growslice_fits (by omega) (by omega))
        have e := hr2.symm.trans hr
        injection e with e1 e2
        rw [← e1]; rfl

theorem wpList_append_str_at {w : World} {ops : Array Oper} {rest : List Oper} {o : Oper} {a : Act} {Q : Exit → Act → World → Prop} (hgd : o.guard = none) (sl x : Operand)
    (ho : o.op = .call { callee := .builtin .append, args := #[sl, x], argTypes := #[26, 9] })
    (base : Nat) (v : Value) (l : List UInt8) (hs : a.eval sl = v) (hown : w.ownsRow base 5 1 v l.length (Lib.byteCells l)) (T : ByteArray) (y : List UInt8) (hx : a.eval x = .string T) (hy : T.data.toList = y) (hlen : l.length + y.length ≤ 1099511627777) (hb : base ≤ w.heap.size)
    (h : ∀ v' w', w'.ownsRow base 5 1 v' (l ++ y).length (Lib.byteCells (l ++ y)) → Grew w w' v v' → wpList Tryd.prog ops Q rest (a.put o.dst v') w') : wpList Tryd.prog ops Q (o :: rest) a w := by
  refine wpList_plain hgd fun K hK => ?_
  obtain ⟨v', w', hr, h2, h3⟩ := run_append_str_at w base v l hown T y hy hlen hb o.type
  unfold Oper.wp execOp
  simp only [ho, resolve, invoke, builtin, Sem.run_bind, Sem.run_pure, Result.andThen_ok, List.map_toArray, List.map_cons, List.map_nil, hs, hx, hr]
  exact hK _ _ (h v' w' h2 h3)

/-- Some bytes behind a row all of whose cells may be written. -/
theorem wpList_append_TS {w : World} {ops : Array Oper} {rest : List Oper} {o : Oper} {a : Act} {Q : Exit → Act → World → Prop} (hgd : o.guard = none) (s x : Operand)
    (ho : o.op = .call { callee := .builtin .append, args := #[s, x], argTypes := #[26, 26] })
    (base : Nat) (v : Value) (l : List UInt8) (hs : a.eval s = v) (hown : OwnsT w base v l) (base2 : Nat) (X : Value) (y : List UInt8) (hx : a.eval x = X) (hX : OwnsT w base2 X y) (hlen : l.length + y.length ≤ 1099511627776)
    (h : ∀ v' w', OwnsT w' base v' (l ++ y) → Below base w w' → w.heap.size ≤ w'.heap.size → wpList Tryd.prog ops Q rest (a.put o.dst v') w') : wpList Tryd.prog ops Q (o :: rest) a w := by
  obtain ⟨i0, hi, hy0, hy1, hy2⟩ := info_parts info_u8
  obtain ⟨g, cap, rfl, h2, h3, h4, h5, h6, h7⟩ := hown
  obtain ⟨g2, cap2, rfl, _, _, _, _, _, k7⟩ := hX
  have hyl : (Lib.byteCells y).length = y.length := by simp [Lib.byteCells]
  have hll : (Lib.byteCells l).length = l.length := by simp [Lib.byteCells]
  have get : ∀ (z : List UInt8) (j : Nat) (u : Value), (Lib.byteCells z)[j]? = some u → j < z.length ∧ u = .int .u8 ((z.getD j 0).toNat : Int) := fun z j u hu => byte_get hu
  refine wpList_append_arg w hgd s x 26 ho 5 i0 (.int .u8 0) 1 1 Tryd.underlying26 hi hy0 hy1 hy2 rfl (by decide) g 0 l.length cap (Lib.byteCells l) hs (by rw [hll, Nat.mul_one]) (fun j u hu => ?_) ⟨g2, 0, none⟩ y.length cap2 (Lib.byteCells y) hx (by rw [hyl, Nat.mul_one]) (fun j u hu => ?_) (one_bytes y) (fun hr j hj => ?_) (by unfold maxLen; omega) (by omega) (fun hr => ?_) (fun hr v' w' ho' hg' => ?_)
  · obtain ⟨hj, rfl⟩ := get l j u hu
    exact h7 j hj
  · obtain ⟨hj, rfl⟩ := get y j u hu
    rw [Go.WideShapes.add_plain]
    exact k7 j hj
  · rw [Nat.zero_add, Nat.mul_one]
    exact h6 _ (by omega)
  · rw [Nat.zero_add, Nat.mul_one]
    refine h _ _ ⟨g, cap, by rw [List.length_append], h2, by rw [size_setCellsW]; exact h3, by rw [List.length_append]; exact hr, h5, fun j hj => ⟨World.isSome_setCells g _ _ _ _ (h6 j hj).1, by rw [World.frozen?_setCells]; exact (h6 j hj).2⟩, fun j hj => ?_⟩ (Lib.below_setCells g h2 _ _ (Below.refl _ _)) (Nat.le_of_eq (size_setCellsW g _ _ _).symm)
    rw [List.length_append] at hj
    rw [Nat.zero_add]
    by_cases hjl : j < l.length
    · rw [World.cell?_setCells_out g _ _ _ ⟨g, j, none⟩ (fun _ _ => Or.inl hjl)]
      have := h7 j hjl
      rw [Nat.zero_add] at this
      rw [this, List.getD_eq_getElem?_getD, List.getD_eq_getElem?_getD, List.getElem?_append_left hjl]
    · have hk : j - l.length < (Lib.byteCells y).length := by omega
      have := World.cell?_setCells_in g (Lib.byteCells y) l.length w (fun j hj => (h6 (l.length + j) (by omega)).1) (j - l.length) hk
      rw [show l.length + (j - l.length) = j from by omega] at this
      rw [this, List.getD_eq_getElem?_getD, List.getElem?_append_right (by omega)]
      have hk2 : j - l.length < y.length := by omega
      simp [Lib.byteCells, List.getElem?_eq_getElem hk2]
  · rw [← byteCells_two, ← List.length_append] at ho'
    have hpos : 0 < (l ++ y).length := by rw [List.length_append]; omega
    rcases ho'.2 with ⟨_, hz⟩ | ⟨g', c', cur, rfl, hg2, _⟩
    · omega
    · exact h _ _ ((OwnsT.of_own ho').base (by omega)) ((Below.refl base w).grown hg' (by omega) (fun k hk => by cases hk)) hg'.size

end Go.Proofs.YtbldahkgilkclaaDoor
