/-
  Texts as rows of bytes of a call's own, turned byte by byte, and back. Conditions: as typed.
-/
import Derived.Test.YtinpimejiepahaaMbM
import Derived.Test.YtinpimejiepahaaCmA
import Derived.Test.YtinpimejiepahaaConv
import Derived.Laws.IdiomStrings
namespace Go.Proofs.Ytinpimejiepahaa
open Go.RowKit

/-- A text of which the bytes at places below i have been turned by f. -/
def mixF (f : Nat → UInt8 → UInt8) (l : Tx) (i : Nat) : Tx := l.mapIdx fun j c => if j < i then f j c else c
theorem mixF_len (f : Nat → UInt8 → UInt8) (l : Tx) (i : Nat) : (mixF f l i).length = l.length := List.length_mapIdx
theorem mixF_zero (f : Nat → UInt8 → UInt8) (l : Tx) : mixF f l 0 = l := by
  refine List.ext_getElem? fun j => ?_
  unfold mixF
  rw [List.getElem?_mapIdx]
  cases l[j]? <;> simp
theorem mixF_all (f : Nat → UInt8 → UInt8) (l : Tx) {n : Nat} (h : l.length ≤ n) : mixF f l n = l.mapIdx f := by
  refine List.ext_getElem? fun j => ?_
  unfold mixF
  rw [List.getElem?_mapIdx, List.getElem?_mapIdx]
  cases hj : l[j]? with
  | none => rfl
  | some c =>
    have := (List.getElem?_eq_some_iff.1 hj).1
    simp only [Option.map_some]
    rw [if_pos (by omega)]
theorem mixF_at {f : Nat → UInt8 → UInt8} {l : Tx} {i : Nat} {c : UInt8} (h : l[i]? = some c) : (mixF f l i)[i]? = some c := by
  unfold mixF
  rw [List.getElem?_mapIdx, h]
  simp
theorem mixF_set {f : Nat → UInt8 → UInt8} {l : Tx} {i : Nat} {c : UInt8} (h : l[i]? = some c) : (mixF f l i).set i (f i c) = mixF f l (i + 1) := by
  refine List.ext_getElem? fun j => ?_
  have hi := (List.getElem?_eq_some_iff.1 h).1
  rw [List.getElem?_set]
  unfold mixF
  rw [List.getElem?_mapIdx, List.getElem?_mapIdx, List.length_mapIdx]
  by_cases e : i = j
  · subst e
    rw [if_pos rfl, if_pos hi, h]
    simp
  · rw [if_neg e]
    cases hj : l[j]? with
    | none => rfl
    | some d =>
      simp only [Option.map_some]
      by_cases q : j < i
      · rw [if_pos q, if_pos (by omega)]
      · rw [if_neg q, if_neg (by omega)]
theorem mixF_skip {f : Nat → UInt8 → UInt8} {l : Tx} {i : Nat} {c : UInt8} (h : l[i]? = some c) (hf : f i c = c) : mixF f l (i + 1) = mixF f l i := by
  rw [← mixF_set h, hf]
  refine List.ext_getElem? fun j => ?_
  rw [List.getElem?_set]
  split
  · rename_i e
    subst e
    rw [mixF_at h, if_pos (by rw [mixF_len]; exact (List.getElem?_eq_some_iff.1 h).1)]
  · rfl
theorem mapIdx_map (g : UInt8 → UInt8) (l : Tx) : l.mapIdx (fun _ c => g c) = l.map g := by
  refine List.ext_getElem? fun j => ?_
  rw [List.getElem?_mapIdx, List.getElem?_map]

/-- A row of bytes in memory that may be written. -/
def ByR (w : World) (g : Nat) (l : Tx) : Prop := g < w.heap.size ∧ ∀ j c, l[j]? = some c → w.cell? ⟨g, j, none⟩ = some (.int .u8 (c.toNat : Int)) ∧ w.frozen? ⟨g, j, none⟩ = false

theorem ByR.lt {w : World} {g : Nat} {l : Tx} (h : ByR w g l) : g < w.heap.size := h.1
theorem ByR.block {w w' : World} {g : Nat} {l : Tx} (h : ByR w g l) (hb : w'.heap[g]? = w.heap[g]?) (hs : w.heap.size ≤ w'.heap.size) : ByR w' g l :=
  ⟨Nat.lt_of_lt_of_le h.1 hs, fun j c hj => ⟨(World.cell?_of_block (a := ⟨g, j, none⟩) hb).trans (h.2 j c hj).1, (World.frozen?_of_block (a := ⟨g, j, none⟩) hb).trans (h.2 j c hj).2⟩⟩
theorem ByR.below {w w' : World} {g : Nat} {l : Tx} (h : ByR w g l) (hb : Below w.heap.size w w') : ByR w' g l := h.block (hb.block g h.1) hb.size
theorem ByR.set {w : World} {g : Nat} {l : Tx} (h : ByR w g l) {i : Nat} (hi : i < l.length) (c : UInt8) : ByR (w.setCell ⟨g, i, none⟩ (.int .u8 (c.toNat : Int))) g (l.set i c) := by
  refine ⟨by simp [World.setCell]; exact h.1, fun j d hj => ?_⟩
  obtain ⟨e, he⟩ : ∃ e, l[i]? = some e := ⟨_, List.getElem?_eq_getElem hi⟩
  rw [List.getElem?_set] at hj
  by_cases q : i = j
  · subst q
    rw [if_pos rfl, if_pos hi] at hj
    injection hj with hj
    subst hj
    exact ⟨World.cell?_setCell_same' _ _ _ (by rw [(h.2 i e he).1]; rfl), by rw [World.frozen?_setCell]; exact (h.2 i e he).2⟩
  · rw [if_neg q] at hj
    exact ⟨(World.cell?_setCell_other _ _ _ _ (fun e => by injection e with _ e _; exact q e)).trans (h.2 j d hj).1, by rw [World.frozen?_setCell]; exact (h.2 j d hj).2⟩
theorem ByR.bytes {w : World} {g : Nat} {l : Tx} (h : ByR w g l) : BytesAt w g 0 l := fun j hj => by
  have q := (h.2 j _ (List.getElem?_eq_getElem hj)).1
  rw [Nat.zero_add, q, List.getD_eq_getElem?_getD, List.getElem?_eq_getElem hj]
  rfl

/-- A text's bytes, laid anew. -/
theorem text_row (w : World) (x : Tx) (hm : x.length ≤ 9223372036854775807) :
    ∃ C W1, (convert 9 48 (.string ⟨x.toArray⟩)).run Try.prog w = .ok (.slice (some ⟨w.heap.size, 0, none⟩) x.length C) W1 ∧ Below w.heap.size w W1 ∧ ByR W1 w.heap.size x ∧ x.length ≤ C ∧ C ≤ 9223372036854775807 := by
  have h := run_bytes_of_string (P := Try.prog) w 9 48 5 ⟨x.toArray⟩ Try.underlying9 Try.underlying48 Try.underlying5
  have hN : (⟨x.toArray⟩ : ByteArray).size = x.length := List.size_toArray ..
  rw [hN] at h
  have hge := grownCap_ge w x.length 0 5
  have hcm := grownCap_le_maxLen w x.length 0 5 (by unfold maxLen; exact hm)
  obtain ⟨C, hC⟩ : ∃ C, grownCap w x.length 0 5 = C := ⟨_, rfl⟩
  rw [hC] at h hge hcm
  have hnew : (w.drew.alloc (.cells (bytesRow ⟨x.toArray⟩ C) 5 ((bytesRow ⟨x.toArray⟩ C).size, (bytesRow ⟨x.toArray⟩ C).size + 1))).heap[w.heap.size]? = some (.cells (bytesRow ⟨x.toArray⟩ C) 5 ((bytesRow ⟨x.toArray⟩ C).size, (bytesRow ⟨x.toArray⟩ C).size + 1)) := heap_alloc_new w.drew _
  have hsz : C ≤ (bytesRow ⟨x.toArray⟩ C).size := by
    unfold bytesRow
    rw [Array.size_append, Array.size_map, Array.size_replicate]
    show C ≤ (⟨x.toArray⟩ : ByteArray).size + (C - (⟨x.toArray⟩ : ByteArray).size)
    omega
  refine ⟨C, _, h, (Below.refl _ _).drew.alloc (Nat.le_refl _) _, ⟨by simp, fun j c hj => ⟨?_, ?_⟩⟩, hge, by simpa [maxLen] using hcm⟩
  · simp only [World.cell?, hnew]
    have hjs : j < x.toArray.size := by rw [List.size_toArray]; exact (List.getElem?_eq_some_iff.1 hj).1
    unfold bytesRow
    rw [Array.getElem?_append_left (by rw [Array.size_map]; exact hjs), Array.getElem?_map, Array.getElem?_eq_getElem hjs]
    have e := (List.getElem?_eq_some_iff.1 hj).2
    simp only [List.getElem_toArray, Option.map_some]
    rw [e]
    rfl
  · simp only [World.frozen?, hnew, Bool.and_eq_false_iff, decide_eq_false_iff_not]
    left
    have := (List.getElem?_eq_some_iff.1 hj).1
    omega

/-- .. and back. -/
theorem row_text (w : World) (g n C : Nat) (l : Tx) (h : ByR w g l) (hn : l.length = n) : (convert 48 9 (.slice (some ⟨g, 0, none⟩) n C)).run Try.prog w = .ok (.string ⟨l.toArray⟩) w := by
  subst hn
  exact conv_bytes w g 0 C l h.bytes

end Go.Proofs.Ytinpimejiepahaa
