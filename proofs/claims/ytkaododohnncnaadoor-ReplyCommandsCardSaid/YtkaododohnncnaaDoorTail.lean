/-
  Rows of bytes of the call's own that came of a text ('[]byte(s)': a mark lies behind their last cell): what they read as, and a text appended. Conditions: as typed.
-/
import Derived.Test.YtkaododohnncnaaDoorRpV
import Derived.Deep.MidRow
import Derived.Laws.IdiomCopy
import Derived.Laws.IdiomStrings
import Derived.Lib.AppendStr
import Derived.Lib.SlBuf
namespace Go.Proofs.YtkaododohnncnaaDoor
open Go.RowKit

/-- A row of bytes of the call's own, all of whose cells may be written. -/
def OwnsT (w : World) (base : Nat) (v : Value) (l : List UInt8) : Prop :=
  ∃ g cap, v = .slice (some ⟨g, 0, none⟩) l.length cap ∧ base ≤ g ∧ g < w.heap.size ∧ l.length ≤ cap ∧ cap ≤ maxLen ∧ (∀ j, j < cap → (w.cell? ⟨g, j, none⟩).isSome = true ∧ w.frozen? ⟨g, j, none⟩ = false) ∧ BytesAt w g 0 l

theorem OwnsT.below {w w' : World} {base : Nat} {v : Value} {l : List UInt8} (h : OwnsT w base v l) (hb : Below w.heap.size w w') : OwnsT w' base v l := by
  obtain ⟨g, cap, h1, h2, h3, h4, h5, h6, h7⟩ := h
  refine ⟨g, cap, h1, h2, Nat.lt_of_lt_of_le h3 hb.size, h4, h5, fun j hj => ?_, h7.below hb h3⟩
  rw [hb.cell (p := ⟨g, j, none⟩) h3, hb.frozen (p := ⟨g, j, none⟩) h3]
  exact h6 j hj
theorem OwnsT.base {w : World} {base base' : Nat} {v : Value} {l : List UInt8} (h : OwnsT w base v l) (hb : base' ≤ base) : OwnsT w base' v l := by
  obtain ⟨g, cap, h1, h2, h3⟩ := h
  exact ⟨g, cap, h1, by omega, h3⟩
theorem OwnsT.of_own {w : World} {base g cap : Nat} {l : List UInt8} (h : w.ownsRow base 5 1 (.slice (some ⟨g, 0, none⟩) l.length cap) l.length (Lib.byteCells l)) : OwnsT w base (.slice (some ⟨g, 0, none⟩) l.length cap) l := by
  have hb : BytesAt w g 0 l := fun j hj => by
    have hx : (Lib.byteCells l)[j]? = some (.int .u8 ((l.getD j 0).toNat : Int)) := by simp [Lib.byteCells, List.getD_eq_getElem?_getD, List.getElem?_eq_getElem hj]
    have := h.cells (g := g) rfl j _ hx
    rwa [Go.WideShapes.add_plain] at this
  rcases h.2 with ⟨h1, _⟩ | ⟨g', cap', cur, hv, hg, hh, hn, hm, hs, _⟩
  · cases h1
  · simp only [Value.slice.injEq, true_and, Option.some.injEq, Addr.mk.injEq, and_true] at hv
    obtain ⟨rfl, rfl⟩ := hv
    refine ⟨g, cap, rfl, hg, (Array.getElem?_eq_some_iff.1 hh).1, hn, hm, fun j hj => ⟨?_, ?_⟩, hb⟩
    · rw [cell_in hh, Array.getElem?_eq_getElem (by omega)]
      rfl
    · exact mark_in hh

/-- A text's bytes, laid anew. -/
theorem text_bytes (w : World) (T : ByteArray) (x : List UInt8) (hx : T.data.toList = x) (hm : x.length ≤ 9223372036854775807) :
    ∃ C W1, (convert 9 23 (.string T)).run Tryd.prog w = .ok (.slice (some ⟨w.heap.size, 0, none⟩) x.length C) W1 ∧ Below w.heap.size w W1 ∧ OwnsT W1 w.heap.size (.slice (some ⟨w.heap.size, 0, none⟩) x.length C) x := by
  have h := run_bytes_of_string (P := Tryd.prog) w 9 23 5 T Tryd.underlying9 Tryd.underlying23 Tryd.underlying5
  have hN : T.size = x.length := by rw [← hx, Array.length_toList]; rfl
  rw [hN] at h
  have hge := grownCap_ge w x.length 0 5
  have hcm := grownCap_le_maxLen w x.length 0 5 (by unfold maxLen; exact hm)
  obtain ⟨C, hC⟩ : ∃ C, grownCap w x.length 0 5 = C := ⟨_, rfl⟩
  rw [hC] at h hge hcm
  have hsz : (bytesRow T C).size = C := by
    unfold bytesRow
    rw [Array.size_append, Array.size_map, Array.size_replicate]
    show T.size + (C - T.size) = C
    omega
  have hnew : (w.drew.alloc (.cells (bytesRow T C) 5 ((bytesRow T C).size, (bytesRow T C).size + 1))).heap[w.heap.size]? = some (.cells (bytesRow T C) 5 ((bytesRow T C).size, (bytesRow T C).size + 1)) := World.alloc_heap_new w.drew _
  refine ⟨C, _, h, (Below.refl _ _).drew.alloc (Nat.le_refl _) _, w.heap.size, C, rfl, Nat.le_refl _, by simp, hge, hcm, fun j hj => ⟨?_, ?_⟩, fun j hj => ?_⟩
  · rw [cell_in hnew, Array.getElem?_eq_getElem (by omega)]
    rfl
  · have hf : (w.drew.alloc (.cells (bytesRow T C) 5 ((bytesRow T C).size, (bytesRow T C).size + 1))).heap[w.heap.size]? = some (.cells (bytesRow T C) 5 ((bytesRow T C).size, (bytesRow T C).size + 1)) := hnew
    simp only [World.frozen?, hf, Bool.and_eq_false_iff, decide_eq_false_iff_not]
    left
    omega
  · rw [Nat.zero_add]
    refine (cell_in hnew).trans ?_
    have hjs : j < T.data.size := by rw [← hx, Array.length_toList] at hj; exact hj
    unfold bytesRow
    rw [Array.getElem?_append_left (by rw [Array.size_map]; exact hjs), Array.getElem?_map, Array.getElem?_eq_getElem hjs]
    rw [← hx, List.getD_eq_getElem?_getD, Array.getElem?_toList, Array.getElem?_eq_getElem hjs]
    rfl

theorem size_setCellsW (b : Nat) : ∀ (vs : List Value) (o : Nat) (w : World), (w.setCells b o vs).heap.size = w.heap.size
  | [], _, _ => rfl
  | v :: r, o, w => by
    rw [World.setCells, size_setCellsW b r]
    simp [World.setCell]

theorem strCells_eq (T : ByteArray) (x : List UInt8) (hx : T.data.toList = x) : Lib.strCells T = Lib.byteCells x := by
  unfold Lib.strCells Lib.byteCells
  rw [hx]

/-- A text behind such a row. -/
theorem run_append_T (w : World) (base : Nat) (v : Value) (l : List UInt8) (h : OwnsT w base v l) (T : ByteArray) (x : List UInt8) (hx : T.data.toList = x) (hlen : l.length + x.length ≤ 1099511627776) (ty : TypeId) :
    ∃ v' w', (Builtin.append_ #[23, 9] ty #[v, .string T]).run Tryd.prog w = .ok v' w' ∧ OwnsT w' base v' (l ++ x) ∧ Below base w w' ∧ w.heap.size ≤ w'.heap.size := by
  obtain ⟨i0, hi, hy0, hy1, hy2⟩ := info_parts info_u8
  obtain ⟨g, cap, rfl, h2, h3, h4, h5, h6, h7⟩ := h
  have hT : T.size = x.length := by rw [← hx, Array.length_toList]; rfl
  have hsc := strCells_eq T x hx
  have hscl : (Lib.byteCells x).length = x.length := by simp [Lib.byteCells]
  have hf := Lib.run_firstCells_string (P := Tryd.prog) w 1 T
  by_cases hroom : l.length + T.size ≤ cap
  · have hst := run_storeCells_cells (P := Tryd.prog) g l.length (Lib.byteCells x) 0 w (fun j hj => by rw [Nat.add_zero]; exact (h6 (l.length + j) (by omega)).1) (fun j hj => by rw [Nat.add_zero]; exact (h6 (l.length + j) (by omega)).2) (one_bytes x)
    rw [← hsc] at hst
    rw [Nat.add_zero] at hst
    have hr : (Builtin.append_ #[23, 9] ty #[.slice (some ⟨g, 0, none⟩) l.length cap, .string T]).run Tryd.prog w = .ok (.slice (some ⟨g, 0, none⟩) (l.length + T.size) cap) (w.setCells g l.length (Lib.strCells T)) := by
      simp [Builtin.append_, run_underlying Tryd.underlying23, run_underlying Tryd.underlying9, sizeOf, typeInfo, hi, hy1, Builtin.lenOf, hroom, hf, Addr.add_lit, hst]
    rw [hsc] at hr
    have hbl : Below base w (w.setCells g l.length (Lib.byteCells x)) := Lib.below_setCells g h2 _ _ (Below.refl _ _)
    have hzz : w.heap.size ≤ (w.setCells g l.length (Lib.byteCells x)).heap.size := Nat.le_of_eq (size_setCellsW g _ _ _).symm
    refine ⟨_, _, hr, ⟨g, cap, by rw [List.length_append, hT], h2, by omega, by rw [List.length_append]; omega, h5, fun j hj => ⟨World.isSome_setCells g _ _ _ _ (h6 j hj).1, by rw [World.frozen?_setCells]; exact (h6 j hj).2⟩, fun j hj => ?_⟩, hbl, hzz⟩
    rw [List.length_append] at hj
    rw [Nat.zero_add]
    by_cases hjl : j < l.length
    · rw [World.cell?_setCells_out g _ _ _ ⟨g, j, none⟩ (fun _ _ => Or.inl hjl)]
      have := h7 j hjl
      rw [Nat.zero_add] at this
      rw [this, List.getD_eq_getElem?_getD, List.getD_eq_getElem?_getD, List.getElem?_append_left hjl]
    · have hk : j - l.length < (Lib.byteCells x).length := by omega
      have := World.cell?_setCells_in g (Lib.byteCells x) l.length w (fun j hj => (h6 (l.length + j) (by omega)).1) (j - l.length) hk
      rw [show l.length + (j - l.length) = j from by omega] at this
      rw [this, List.getD_eq_getElem?_getD, List.getElem?_append_right (by omega)]
      have hk2 : j - l.length < x.length := by omega
      simp [Lib.byteCells, List.getElem?_eq_getElem hk2]
  · have hcells : ∀ j u, (Lib.byteCells l)[j]? = some u → w.cell? ((⟨g, 0, none⟩ : Addr).add j) = some u := fun j u hu => by
      have hj : j < l.length := by
        rcases Nat.lt_or_ge j l.length with hj | hj
        · exact hj
        · rw [List.getElem?_eq_none (by simpa [Lib.byteCells] using hj)] at hu; cases hu
      rw [Go.WideShapes.add_plain, h7 j hj]
      simp [Lib.byteCells, List.getElem?_eq_getElem hj] at hu
      rw [← hu, List.getD_eq_getElem?_getD, List.getElem?_eq_getElem hj]
      rfl
    have hr := Lib.run_append_grow_string (P := Tryd.prog) w 23 9 ty 5 i0 (.int .u8 0) Tryd.underlying23 Tryd.underlying9 hi hy0 ⟨g, 0, none⟩ l.length cap (Lib.byteCells l) (by rw [hy1]; simp [Lib.byteCells]) hcells T (by omega) (by omega) (by rw [hy2]; exact growslice_fits (by omega) (by omega))
    rw [hsc] at hr
    have hge := grownCap_ge w (l.length + T.size) cap 5
    have hcm := grownCap_le_maxLen w (l.length + T.size) cap 5 (by unfold maxLen; omega)
    obtain ⟨C, hC⟩ : ∃ C, grownCap w (l.length + T.size) cap 5 = C := ⟨_, rfl⟩
    rw [hC] at hr hge hcm
    refine ⟨_, _, hr, ?_, ((Below.refl w.heap.size w).drew.alloc (Nat.le_refl _) _).mono (by omega), by simp⟩
    rw [hT, ← List.length_append]
    rw [hT, ← List.length_append] at hge
    refine OwnsT.of_own ⟨by simp [Lib.byteCells], .inr ⟨w.heap.size, C, _, rfl, by omega, heap_alloc_new w.drew _, hge, hcm, ?_, ?_⟩⟩
    · have hz1 : (Value.int IntKind.u8 0).cells.size = 1 := rfl
      simp only [Array.size_append, List.size_toArray, size_zeroCells, hz1, hscl, show (Lib.byteCells l).length = l.length from by simp [Lib.byteCells]]
      rw [List.length_append] at hge ⊢
      omega
    · simp only [Array.toList_append]
      rw [← byteCells_two, show (l ++ x).length * 1 = (Lib.byteCells (l ++ x)).length from by simp [Lib.byteCells]]
      exact List.take_left

end Go.Proofs.YtkaododohnncnaaDoor
