/-
  A map of texts to numbers, as a function of texts: made, asked, stored into. No walk.
-/
import Derived.Test.YtkobhlhkkpnmkaaMbM
import Derived.Maps.OwnSet
import Derived.Maps.OwnOps
namespace Go.Proofs.Ytkobhlhkkpnmkaa
open Go.RowKit

/-- How an element reads: its number. -/
def itElem : Value → Option (DataW Int × List MemPlace)
  | .int .i64 z => some (.held z, [])
  | _ => none

theorem itElem_inv {v : Value} {z : Int} {ps : List MemPlace} (h : itElem v = some (.held z, ps)) : v = .int .i64 z := by
  unfold itElem at h
  split at h
  · injection h with h
    injection h with h1 _
    injection h1 with h1
    rw [h1]
  · cases h

/-- Block mb is a map of at most N entries: it tells g of each text. -/
def IMap (w : World) (mb N : Nat) (g : Tx → Option Int) : Prop :=
  ∃ D : DataW Int, w.ownsMap Try.prog 9 itElem mb N D ∧ (∀ m, D.atKey (.string m) (.held 0) = .held ((g m).getD 0)) ∧ (∀ m, Maps.has D (.string m) = (g m).isSome)

theorem im_law : Maps.Keyed Try.prog 9 := Maps.string_keyed Try.underlying9
theorem im_zero (w : World) : (zeroValue 3).run Try.prog w = .ok (.int .i64 0) w := Try.zeroValue3 w

section
variable {w w' : World} {mb N : Nat} {g : Tx → Option Int}

theorem im_made (w : World) : IMap (w.alloc (.map #[] 0)) w.heap.size 0 (fun _ => none) :=
  ⟨.map [], World.ownsMap_made w _ _ _, fun _ => rfl, fun _ => rfl⟩

theorem IMap.lt (h : IMap w mb N g) : mb < w.heap.size := by obtain ⟨D, h, _⟩ := h; exact h.lt
theorem IMap.block (h : IMap w mb N g) (e : w'.heap[mb]? = w.heap[mb]?) : IMap w' mb N g := by
  obtain ⟨D, ⟨es, clock, hb, F, hs, hD⟩, h2⟩ := h
  exact ⟨D, ⟨es, clock, e.trans hb, F, hs, hD⟩, h2⟩
theorem IMap.below (h : IMap w mb N g) (hb : Below w.heap.size w w') : IMap w' mb N g := h.block (hb.block mb h.lt)
theorem IMap.congr (h : IMap w mb N g) {g' : Tx → Option Int} (e : ∀ m, g m = g' m) : IMap w mb N g' := by
  obtain ⟨D, h1, h2, h3⟩ := h
  exact ⟨D, h1, fun m => by rw [← e]; exact h2 m, fun m => by rw [← e]; exact h3 m⟩
theorem IMap.mono (h : IMap w mb N g) {N' : Nat} (hN : N ≤ N') : IMap w mb N' g := by
  obtain ⟨D, h1, h2⟩ := h
  exact ⟨D, h1.mono hN, h2⟩

theorem im_key {S : ByteArray} (hS : S.size ≤ 9223372036854775807) : keyOf Try.prog 9 (.string S) = some (.string S.data.toList) := WideMaps.keyOf_string_mk Try.underlying9 (by unfold maxLen; omega)

theorem im_look (h : IMap w mb N g) (S : ByteArray) (hS : S.size ≤ 9223372036854775807) :
    (Instr.lookup 52 (.map (some mb)) (.string S) false).run Try.prog w = .ok (.int .i64 ((g S.data.toList).getD 0)) w := by
  obtain ⟨D, h1, h2, _⟩ := h
  obtain ⟨v, ps, hrun, hv⟩ := h1.lookup im_law Try.underlying52 (im_zero w) (zd := .held 0) (zp := []) rfl (im_key hS)
  rw [h2] at hv
  rw [hrun, itElem_inv hv]
theorem im_look2 (h : IMap w mb N g) (S : ByteArray) (hS : S.size ≤ 9223372036854775807) :
    (Instr.lookup 52 (.map (some mb)) (.string S) true).run Try.prog w = .ok (.tuple #[.int .i64 ((g S.data.toList).getD 0), .bool (g S.data.toList).isSome]) w := by
  obtain ⟨D, h1, h2, h3⟩ := h
  obtain ⟨v, ps, hrun, hv⟩ := h1.look_ok im_law Try.underlying52 (im_zero w) (zd := .held 0) (zp := []) rfl (im_key hS)
  rw [h2] at hv
  rw [hrun, itElem_inv hv, h3]

theorem im_ne {m m' : Tx} (h : m' ≠ m) : (Lit.string m' : Lit) ≠ .string m := fun e => h (by injection e)

theorem im_store (h : IMap w mb N g) (S : ByteArray) (hS : S.size ≤ 9223372036854775807) (hN : N < 9223372036854775807) (z : Int) :
    ∃ w', (Instr.mapUpdate 52 (.map (some mb)) (.string S) (.int .i64 z)).run Try.prog w = .ok () w' ∧
      IMap w' mb (N + 1) (fun m => if m = S.data.toList then some z else g m) ∧ (∀ M, M ≤ mb → Below M w w') := by
  obtain ⟨D, h1, h2, h3⟩ := h
  obtain ⟨w', hrun, q1, q2⟩ := h1.store im_law Try.underlying52 (by unfold maxLen; omega) (im_key hS) (val := .int .i64 z) (d := .held z) (ps := []) rfl
  refine ⟨w', hrun, ⟨_, q1, fun m => ?_, fun m => ?_⟩, fun M hM => ?_⟩
  · by_cases e : m = S.data.toList
    · dsimp only; rw [if_pos e, e, Maps.atKey_put_same (k := .string S.data.toList) (h1.isMap) trivial]
      rfl
    · dsimp only; rw [if_neg e, Maps.atKey_put_other (im_ne e)]
      exact h2 m
  · by_cases e : m = S.data.toList
    · dsimp only; rw [if_pos e, e, Maps.has_put_same (k := .string S.data.toList) (h1.isMap) trivial]
      rfl
    · dsimp only; rw [if_neg e, Maps.has_put_other (im_ne e)]
      exact h3 m
  · obtain ⟨os, tape, out, sz, bl⟩ := q2.grown
    exact ⟨os, tape, out, sz, fun k hk => bl k (by have := h1.lt; omega) (fun e => by cases e; omega)⟩

end

end Go.Proofs.Ytkobhlhkkpnmkaa
