/-
  Two rows with two ends that share nothing. No program's code.
-/
import Derived.Test.YtkjcoengijedeabDqP
namespace Go.Proofs.Ytkjcoengijedeab
open Go.RowKit

section
variable {α : Type} {K : Kq α} {w w' : World} {base Da Db M : Nat} {Fa Fb F' : Nat → Prop} {La Lb L' : List α}

structure TwoDq (K : Kq α) (w : World) (base : Nat) (Fa : Nat → Prop) (Da : Nat) (Fb : Nat → Prop) (Db M : Nat) (La Lb : List α) : Prop where
  a : DqOn K w base Fa Da M La
  b : DqOn K w base Fb Db M Lb
  no : ∀ k, Fa k → ¬ Fb k

theorem TwoDq.symm (h : TwoDq K w base Fa Da Fb Db M La Lb) : TwoDq K w base Fb Db Fa Da M Lb La := ⟨h.b, h.a, fun k hb ha => h.no k ha hb⟩
theorem TwoDq.left (h : TwoDq K w base Fa Da Fb Db M La Lb) (h1 : DqOn K w' base F' Da M L') (h2 : Chg Fa F' w w') : TwoDq K w' base F' Da Fb Db M L' Lb :=
  ⟨h1, h.b.only h2.1 (fun k hb ha => h.no k ha hb), fun k hk hb => by
    rcases h2.2 k hk with q | q
    · exact h.no k q hb
    · have := (h.b.1 k hb).2; omega⟩
theorem TwoDq.below (h : TwoDq K w base Fa Da Fb Db M La Lb) (hb : Below w.heap.size w w') : TwoDq K w' base Fa Da Fb Db M La Lb := ⟨h.a.below hb, h.b.below hb, h.no⟩

/-- A row that holds nothing yet. -/
theorem dq_zero (w : World) : DqOn K (w.alloc (.cells #[.pointer none] K.tD)) w.heap.size (· = w.heap.size) w.heap.size M ([] : List α) :=
  ⟨fun k hk => by simp only at hk; subst hk; exact ⟨Nat.le_refl _, by simp⟩, rfl, Or.inl ⟨World.rowIs_alloc w #[.pointer none] K.tD _ (fun i hi => by
    have hi : i < 1 := hi
    obtain rfl : i = 0 := by omega
    rfl), rfl⟩⟩

theorem DqOn.base_le {F : Nat → Prop} {D base' : Nat} {L : List α} (h : DqOn K w base F D M L) (hb : base' ≤ base) : DqOn K w base' F D M L := ⟨fun k hk => ⟨Nat.le_trans hb (h.1 k hk).1, (h.1 k hk).2⟩, h.2⟩

theorem insAt_end (L : List α) (v : α) : insAt L L.length v = L ++ [v] := by
  unfold insAt
  rw [List.take_length, List.drop_length]
theorem insAt_zero (L : List α) (v : α) : insAt L 0 v = v :: L := rfl
end

end Go.Proofs.Ytkjcoengijedeab
