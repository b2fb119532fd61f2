/-
  Two tables in one memory, package table's and the document's, that share nothing; what an act makes of a plain table. No program's code.
-/
import Derived.Test.YtkjcoengijedeaaTcA
import Derived.Test.YtkjcoengijedeaaTrF
namespace Go.Proofs.Ytkjcoengijedeaa
open Go.RowKit

/-- What an act makes. -/
def actT (seed : Nat) (t : Tb Int) (kind : Int) (k : List UInt8) (v : Int) : Tb Int :=
  if kind = 1 then putS (hashT seed) (stepT (hashT seed) t) k v
  else if kind = 2 then stepT (hashT seed) t
  else if kind = 3 then delS (hashT seed) (stepT (hashT seed) t) k
  else if kind = 5 then stepT (hashT seed) t
  else t

theorem good_act {seed m : Nat} {t : Tb Int} (g : Good (hashT seed) m t) (kind : Int) (k : List UInt8) (v : Int) : Good (hashT seed) (m + 1) (actT seed t kind k v) := by
  unfold actT
  split
  · exact good_put (good_step g) k v
  · split
    · exact (good_step g).mono (by omega)
    · split
      · exact (good_del (good_step g) k).mono (by omega)
      · split
        · exact (good_step g).mono (by omega)
        · exact g.mono (by omega)

theorem keys_act {seed : Nat} {p : List UInt8 → Prop} {t : Tb Int} (hs : KeysT p t) (kind : Int) (k : List UInt8) (hp : p k) (v : Int) : KeysT p (actT seed t kind k v) := by
  unfold actT
  split
  · exact keys_putS (keys_step hs) k hp v
  · split
    · exact keys_step hs
    · split
      · exact keys_delS (keys_step hs) k
      · split
        · exact keys_step hs
        · exact hs

def owU (o1 o2 : Own) : Own := fun k => match o1 k with
  | some x => some x
  | none => o2 k

theorem owU_none {o1 o2 : Own} {k : Nat} : owU o1 o2 k = none ↔ o1 k = none ∧ o2 k = none := by
  unfold owU
  cases h : o1 k <;> simp

/-- Two tables, and nothing is of both. -/
structure TwoAt (w : World) (b1 b2 : Nat) (o1 o2 : Own) (Q1 Q2 seed : Nat) (t u : Tb Int) : Prop where
  one : ∃ gA sA gB sB, PT KI w b1 o1 Q1 67 seed t gA sA gB sB
  two : ∃ gA sA gB sB, RT w b2 o2 Q2 seed u gA sA gB sB
  apart : ∀ k, o1 k ≠ none → o2 k = none

section
variable {w w' : World} {b1 b2 Q1 Q2 seed : Nat} {o1 o2 o1' o2' : Own} {t u t' u' : Tb Int}

theorem TwoAt.dom1 (h : TwoAt w b1 b2 o1 o2 Q1 Q2 seed t u) {k : Nat} (hk : o1 k ≠ none) : b1 ≤ k ∧ k < w.heap.size := by
  obtain ⟨gA, sA, gB, sB, hp⟩ := h.one
  exact TbOn.dom hp k hk
theorem TwoAt.dom2 (h : TwoAt w b1 b2 o1 o2 Q1 Q2 seed t u) {k : Nat} (hk : o2 k ≠ none) : b2 ≤ k ∧ k < w.heap.size := by
  obtain ⟨gA, sA, gB, sB, hp⟩ := h.two
  exact TbOn.dom hp k hk

theorem TwoAt.fst (h : TwoAt w b1 b2 o1 o2 Q1 Q2 seed t u) (hp : ∃ gA sA gB sB, PT KI w' b1 o1' Q1 67 seed t' gA sA gB sB) (ht : Turns o1 o1' w w') : TwoAt w' b1 b2 o1' o2 Q1 Q2 seed t' u ∧ Turns (owU o1 o2) (owU o1' o2) w w' := by
  have hap : ∀ k, o2 k ≠ none → o1 k = none := fun k hk => by
    cases hq : o1 k with
    | none => rfl
    | some x => exact absurd (h.apart k (by rw [hq]; exact fun e => by cases e)) hk
  refine ⟨⟨hp, ?_, fun k hk => ?_⟩, ht.os, ht.tape, ht.output, ht.size, fun k hk ho => ht.block k hk (owU_none.1 ho).1, fun k hk => ?_⟩
  · obtain ⟨gA, sA, gB, sB, hr⟩ := h.two
    exact ⟨gA, sA, gB, sB, TbOn.beside hr ht hap⟩
  · by_cases hlt : k < w.heap.size
    · exact h.apart k (by rw [← ht.same k hlt]; exact hk)
    · cases hq : o2 k with
      | none => rfl
      | some x => exact absurd (h.dom2 (k := k) (by rw [hq]; exact fun e => by cases e)).2 hlt
  · unfold owU
    rw [ht.same k hk]

theorem TwoAt.snd (h : TwoAt w b1 b2 o1 o2 Q1 Q2 seed t u) (hp : ∃ gA sA gB sB, RT w' b2 o2' Q2 seed u' gA sA gB sB) (ht : Turns o2 o2' w w') : TwoAt w' b1 b2 o1 o2' Q1 Q2 seed t u' ∧ Turns (owU o1 o2) (owU o1 o2') w w' := by
  refine ⟨⟨?_, hp, fun k hk => ?_⟩, ht.os, ht.tape, ht.output, ht.size, fun k hk ho => ht.block k hk (owU_none.1 ho).2, fun k hk => ?_⟩
  · obtain ⟨gA, sA, gB, sB, hr⟩ := h.one
    exact ⟨gA, sA, gB, sB, TbOn.beside hr ht h.apart⟩
  · rw [ht.same k (h.dom1 hk).2]
    exact h.apart k hk
  · unfold owU
    rw [ht.same k hk]

theorem TwoAt.below (h : TwoAt w b1 b2 o1 o2 Q1 Q2 seed t u) (hb : Below w.heap.size w w') : TwoAt w' b1 b2 o1 o2 Q1 Q2 seed t u ∧ Turns (owU o1 o2) (owU o1 o2) w w' := by
  obtain ⟨gA, sA, gB, sB, hp⟩ := h.one
  obtain ⟨gA', sA', gB', sB', hr⟩ := h.two
  exact ⟨⟨⟨gA, sA, gB, sB, TbOn.below hp hb⟩, ⟨gA', sA', gB', sB', TbOn.below hr hb⟩, h.apart⟩, Turns.of_below _ hb⟩

end

theorem lookW_eq (o : Option Int) : (lookW KI (0 : Int) o).1 = .int .i64 (lookV o).1 ∧ (lookW KI (0 : Int) o).2 = (lookV o).2 := by cases o <;> exact ⟨rfl, rfl⟩

end Go.Proofs.Ytkjcoengijedeaa
