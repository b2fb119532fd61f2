/-
  A map of texts to nodes, as a function of texts: made, asked, stored into, taken from. No walk.
-/
import Derived.Test.YtcbiiioglklpoaaDoorSkL
import Derived.Maps.OwnSet
import Derived.Maps.OwnOps
namespace Go.Proofs.YtcbiiioglklpoaaDoor
open Go.RowKit

/-- How an element reads: its block. -/
def ndElem : Value → Option (DataW Nat × List MemPlace)
  | .pointer none => some (.nil, [])
  | .pointer (some ⟨b, 0, none⟩) => some (.held b, [])
  | _ => none

def hdD : Option Nat → DataW Nat
  | none => .nil
  | some b => .held b

theorem ndElem_inv {v : Value} {o : Option Nat} {ps : List MemPlace} (h : ndElem v = some (hdD o, ps)) : v = ptrV o := by
  unfold ndElem at h
  split at h
  · cases o with
    | none => rfl
    | some b => simp [hdD] at h
  · cases o with
    | none => simp [hdD] at h
    | some b => simp [hdD] at h; rw [← h.1]; rfl
  · cases h

/-- Block mb is a map of at most N entries: it tells g of each text, and has sz keys. -/
def NMap (w : World) (mb N : Nat) (g : List UInt8 → Option Nat) (sz : Nat) : Prop :=
  ∃ D : DataW Nat, w.ownsMap Tryd.prog 9 ndElem mb N D ∧ (∀ m, D.atKey (.string m) .nil = hdD (g m)) ∧ (∀ m, Maps.has D (.string m) = (g m).isSome) ∧ Maps.size D = sz

theorem nm_law : Maps.Keyed Tryd.prog 9 := Maps.string_keyed Tryd.underlying9
theorem nm_zero (w : World) : (zeroValue 92).run Tryd.prog w = .ok (.pointer none) w := Tryd.zeroValue92 w

section
variable {w w' : World} {mb N sz : Nat} {g : List UInt8 → Option Nat}

theorem nm_made (w : World) : NMap (w.alloc (.map #[] 0)) w.heap.size 0 (fun _ => none) 0 :=
  ⟨.map [], World.ownsMap_made w _ _ _, fun _ => rfl, fun _ => rfl, rfl⟩

theorem NMap.lt (h : NMap w mb N g sz) : mb < w.heap.size := by obtain ⟨D, h, _⟩ := h; exact h.lt
theorem NMap.block (h : NMap w mb N g sz) (e : w'.heap[mb]? = w.heap[mb]?) : NMap w' mb N g sz := by
  obtain ⟨D, ⟨es, clock, hb, F, hs, hD⟩, h2⟩ := h
  exact ⟨D, ⟨es, clock, e.trans hb, F, hs, hD⟩, h2⟩
theorem NMap.ne_row (h : NMap w mb N g sz) {b n : Nat} {t : TypeId} {f : Nat → Value} (hr : w.rowIs b t n f) : b ≠ mb := fun e => by
  subst e
  obtain ⟨D, ⟨es, clock, hb, _⟩, _⟩ := h
  obtain ⟨c, hc, _⟩ := hr
  rw [hb] at hc
  cases hc
theorem NMap.size_le (h : NMap w mb N g sz) : sz ≤ N := by
  obtain ⟨D, h1, _, _, rfl⟩ := h
  exact h1.size_le

theorem nm_key {S : ByteArray} (hS : S.size ≤ 9223372036854775807) : keyOf Tryd.prog 9 (.string S) = some (.string S.data.toList) := WideMaps.keyOf_string_mk Tryd.underlying9 (by unfold maxLen; omega)

theorem nm_look (h : NMap w mb N g sz) (S : ByteArray) (hS : S.size ≤ 9223372036854775807) :
    (Instr.lookup 93 (.map (some mb)) (.string S) false).run Tryd.prog w = .ok (ptrV (g S.data.toList)) w := by
  obtain ⟨D, h1, h2, _⟩ := h
  obtain ⟨v, ps, hrun, hv⟩ := h1.lookup nm_law Tryd.underlying93 (nm_zero w) (zd := .nil) (zp := []) rfl (nm_key hS)
  rw [h2] at hv
  rw [hrun, ndElem_inv hv]

theorem nm_len (h : NMap w mb N g sz) (ty : TypeId) : (Builtin.len_ #[93] ty #[.map (some mb)]).run Tryd.prog w = .ok (.int .i64 sz) w := by
  obtain ⟨D, h1, _, _, rfl⟩ := h
  exact h1.len Tryd.underlying93 ty

theorem str_ne {m m' : List UInt8} (h : m' ≠ m) : (Lit.string m' : Lit) ≠ .string m := fun e => h (by injection e)

theorem turned_only {b : Nat} (h : w.mapTurned w' b) : Only (· = b) w w' := by
  obtain ⟨os, tape, out, sz, bl⟩ := h.grown
  exact ⟨os, tape, out, sz, fun k hk hne => bl k hk (fun e => hne (by cases e; rfl))⟩

theorem nm_store (h : NMap w mb N g sz) (S : ByteArray) (hS : S.size ≤ 9223372036854775807) (hN : N < 9223372036854775807) (b : Nat) :
    ∃ w', (Instr.mapUpdate 93 (.map (some mb)) (.string S) (.pointer (some ⟨b, 0, none⟩))).run Tryd.prog w = .ok () w' ∧
      NMap w' mb (N + 1) (fun m => if m = S.data.toList then some b else g m) (if (g S.data.toList).isSome then sz else sz + 1) ∧ Only (· = mb) w w' := by
  obtain ⟨D, h1, h2, h3, h4⟩ := h
  obtain ⟨w', hrun, q1, q2⟩ := h1.store nm_law Tryd.underlying93 (by unfold maxLen; omega) (nm_key hS) (val := .pointer (some ⟨b, 0, none⟩)) (d := .held b) (ps := []) rfl
  refine ⟨w', hrun, ⟨_, q1, fun m => ?_, fun m => ?_, ?_⟩, turned_only q2⟩
  · by_cases e : m = S.data.toList
    · dsimp only; rw [if_pos e, e, Maps.atKey_put_same (k := .string S.data.toList) (h1.isMap) trivial]
      rfl
    · dsimp only; rw [if_neg e, Maps.atKey_put_other (str_ne e)]
      exact h2 m
  · by_cases e : m = S.data.toList
    · dsimp only; rw [if_pos e, e, Maps.has_put_same (k := .string S.data.toList) (h1.isMap) trivial]
      rfl
    · dsimp only; rw [if_neg e, Maps.has_put_other (str_ne e)]
      exact h3 m
  · rw [Maps.size_put (h1.tidy nm_law), h3, h4]

theorem nm_delete (h : NMap w mb N g sz) (S : ByteArray) (hS : S.size ≤ 9223372036854775807) (ty : TypeId) :
    ∃ w', (Builtin.delete_ #[93, 9] ty #[.map (some mb), .string S]).run Tryd.prog w = .ok (.tuple #[]) w' ∧
      NMap w' mb N (fun m => if m = S.data.toList then none else g m) (if (g S.data.toList).isSome then sz - 1 else sz) ∧ Only (· = mb) w w' := by
  obtain ⟨D, h1, h2, h3, h4⟩ := h
  obtain ⟨w', hrun, q1, q2⟩ := h1.drop nm_law Tryd.underlying93 (nm_key hS) ty
  refine ⟨w', hrun, ⟨_, q1, fun m => ?_, fun m => ?_, ?_⟩, turned_only q2⟩
  · by_cases e : m = S.data.toList
    · dsimp only; rw [if_pos e, e, Maps.atKey_del_same]
      rfl
    · dsimp only; rw [if_neg e, Maps.atKey_del_other (str_ne e)]
      exact h2 m
  · by_cases e : m = S.data.toList
    · dsimp only; rw [if_pos e, e, Maps.has_del_same]
      rfl
    · dsimp only; rw [if_neg e, Maps.has_del_other (str_ne e)]
      exact h3 m
  · have q := Maps.size_del (k := .string S.data.toList) (h1.tidy nm_law)
    rw [h3, h4] at q
    by_cases e : (g S.data.toList).isSome = true
    · rw [if_pos e] at q ⊢
      omega
    · rw [if_neg e] at q ⊢
      omega

end

end Go.Proofs.YtcbiiioglklpoaaDoor
