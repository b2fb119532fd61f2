/-
  An own row that is written in the middle and cut; the builtin clear over one element. No program's code.
-/
import Derived.Test.YtcjoakbaldeaoaaTbK
import Derived.Lib.SliceRun
import Derived.Deep.Upon
namespace Go.Proofs.Ytcjoakbaldeaoaa
open Go.RowKit

def setsL (xs : List Value) (o : Nat) : List Value → List Value
  | [] => xs
  | v :: r => setsL (xs.set o v) (o + 1) r

theorem setsL_length : ∀ (vs : List Value) (xs : List Value) (o : Nat), (setsL xs o vs).length = xs.length
  | [], _, _ => rfl
  | v :: r, xs, o => by rw [setsL, setsL_length r, List.length_set]

theorem setsL_get : ∀ (vs : List Value) (xs : List Value) (o j : Nat), o + vs.length ≤ xs.length → (setsL xs o vs)[j]? = if o ≤ j ∧ j < o + vs.length then vs[j - o]? else xs[j]?
  | [], xs, o, j, _ => by rw [if_neg (by simp only [List.length_nil]; omega)]; rfl
  | v :: r, xs, o, j, h => by
    rw [List.length_cons] at h ⊢
    rw [setsL, setsL_get r _ _ _ (by rw [List.length_set]; omega), List.getElem?_set]
    by_cases e : o = j
    · subst e
      rw [if_neg (by omega), if_pos rfl, if_pos (by omega), if_pos (by omega), Nat.sub_self]
      rfl
    · rw [if_neg e]
      by_cases hj : o + 1 ≤ j ∧ j < o + 1 + r.length
      · rw [if_pos hj, if_pos (by omega), show j - o = (j - (o + 1)) + 1 from by omega, List.getElem?_cons_succ]
      · rw [if_neg hj, if_neg (by omega)]

theorem ownsRow_setCells {base : Nat} {e : TypeId} {size g n cap : Nat} : ∀ (vs : List Value) (o : Nat) (w : World) (xs : List Value), w.ownsRow base e size (.slice (some ⟨g, 0, none⟩) n cap) n xs → (w.setCells g o vs).ownsRow base e size (.slice (some ⟨g, 0, none⟩) n cap) n (setsL xs o vs) ∧ w.grownBy (w.setCells g o vs) (some g)
  | [], _, w, _, h => ⟨h, World.grownBy.refl _ _⟩
  | v :: r, o, w, xs, h => by
    obtain ⟨h1, h2⟩ := World.ownsRow.stored h o v
    obtain ⟨h3, h4⟩ := ownsRow_setCells r (o + 1) _ _ h1
    exact ⟨h3, h2.trans h4⟩

theorem ownsRow_cut {w : World} {base : Nat} {e : TypeId} {size g n n' cap : Nat} {xs : List Value} (h : w.ownsRow base e size (.slice (some ⟨g, 0, none⟩) n cap) n xs) (hn : n' ≤ n) : w.ownsRow base e size (.slice (some ⟨g, 0, none⟩) n' cap) n' (xs.take (n' * size)) := by
  have hle : n' * size ≤ n * size := Nat.mul_le_mul_right _ hn
  refine ⟨by rw [List.length_take, h.1]; omega, ?_⟩
  rcases h.2 with ⟨q, _⟩ | ⟨g', cap', cur, h', hb, hg, hnc, hcm, hcs, htake⟩
  · cases q
  · simp only [Value.slice.injEq, Option.some.injEq, Addr.mk.injEq, and_true, true_and] at h'
    obtain ⟨rfl, rfl⟩ := h'
    exact Or.inr ⟨g, cap, cur, rfl, hb, hg, Nat.le_trans hn hnc, hcm, hcs, by rw [← htake, List.take_take, Nat.min_eq_left hle]⟩

theorem run_clear_one {P : Program} (w : World) (t e ty : TypeId) (z : Value) (ht : P.underlying t = some (.slice e)) (hv : ∀ w, (zeroValue e).run P w = .ok z w) (zs : List Value) (hz : z.cells.toList = zs) (h1 : ∀ v ∈ zs, v.oneCell' = true) (b o c : Nat)
    (hc : ∀ j, j < zs.length → (w.cell? ⟨b, o + j, none⟩).isSome = true) (hf : ∀ j, j < zs.length → w.frozen? ⟨b, o + j, none⟩ = false) :
    (Builtin.clear_ #[t] ty #[.slice (some ⟨b, o, none⟩) 1 c]).run P w = .ok (.tuple #[]) (w.setCells b o zs) := by
  have hzc : (Builtin.zeroCells z.cells 1).toList = zs := by
    rw [← hz]
    apply List.ext_getElem
    · simp [Builtin.zeroCells]
    · intro i h1 h2
      have hi : i < z.cells.size := by simpa using h2
      simp only [Builtin.zeroCells, Array.getElem_toList, Array.getElem_map, Array.getElem_range, Nat.mod_eq_of_lt hi]
      rw [getElem!_pos z.cells i hi]
  have hst := run_storeCells_cells (P := P) b o zs 0 w (by simpa using hc) (by simpa using hf) h1
  simp only [Nat.add_zero] at hst
  simp [Builtin.clear_, run_underlying ht, hv, hzc, hst]

/-- What a row of items holds when one of them was taken out in place. -/
theorem del_cells {α : Type} (enc : α → Value) (l : List (List UInt8 × α)) (i : Nat) (hi : i < l.length) (zs : List Value) (hz : zs.length = 2) :
    (setsL (setsL (encIt enc l) (i * 2) (encIt enc (l.drop (i + 1)))) ((l.length - 1) * 2) zs).take ((l.length - 1) * 2) = encIt enc (l.take i ++ l.drop (i + 1)) := by
  have hd : (encIt enc (l.drop (i + 1))).length = (l.length - (i + 1)) * 2 := by rw [encIt_length, List.length_drop]
  have hl : (encIt enc l).length = l.length * 2 := encIt_length enc l
  rw [encIt_app]
  apply List.ext_getElem?
  intro j
  rw [List.getElem?_take]
  by_cases hj : j < (l.length - 1) * 2
  · rw [if_pos hj, setsL_get _ _ _ _ (by rw [setsL_length, hl, hz]; omega), if_neg (by omega), setsL_get _ _ _ _ (by rw [hd, hl]; omega), hd]
    by_cases h2 : i * 2 ≤ j
    · rw [if_pos (by omega), List.getElem?_append_right (by rw [encIt_length, List.length_take]; omega)]
      rw [encIt_length, List.length_take, Nat.min_eq_left (by omega)]
    · rw [if_neg (by omega), List.getElem?_append_left (by rw [encIt_length, List.length_take]; omega), ← encIt_take, List.getElem?_take, if_pos (by omega)]
  · rw [if_neg hj, List.getElem?_eq_none]
    rw [List.length_append, hd, encIt_length, List.length_take]
    omega

end Go.Proofs.Ytcjoakbaldeaoaa
