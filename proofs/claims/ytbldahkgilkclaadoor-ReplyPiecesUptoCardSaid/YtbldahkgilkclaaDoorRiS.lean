/-
  More bytes behind a row of the call's own, off a slice that reads as them. Conditions: as typed.
-/
import Derived.Test.YtbldahkgilkclaaDoorKit
import Derived.Laws.AppendOwnNone
namespace Go.Proofs.YtbldahkgilkclaaDoor
open Go.RowKit

/-- More bytes behind a row of the call's own. -/
theorem wpList_append_src {w : World} {ops : Array Oper} {rest : List Oper} {o : Oper} {a : Act} {Q : Exit → Act → World → Prop} (hgd : o.guard = none) (s x : Operand)
    (ho : o.op = .call { callee := .builtin .append, args := #[s, x], argTypes := #[26, 26] })
    (base : Nat) (v : Value) (xs : List UInt8) (hs : a.eval s = v) (hown : w.ownsRow base 5 1 v xs.length (Lib.byteCells xs))
    (X : Value) (l : List UInt8) (hx : a.eval x = X) (hX : SrcAt w X l)
    (h63 : xs.length + l.length ≤ maxLen) (hbytes : (xs.length + l.length) * 1 ≤ 140737488355328) (hbase : base ≤ w.heap.size)
    (h : ∀ v' w', w'.ownsRow base 5 1 v' (xs ++ l).length (Lib.byteCells (xs ++ l)) → w.grownBy w' v.ownBlock → (v' = .slice none 0 0 ↔ v = .slice none 0 0 ∧ l.length = 0) → (v'.ownBlock = v.ownBlock ∨ v'.ownBlock = some w.heap.size) → wpList Tryd.prog ops Q rest (a.put o.dst v') w') :
    wpList Tryd.prog ops Q (o :: rest) a w := by
  obtain ⟨i0, hi, hy0, hy1, hy2⟩ := info_parts info_u8
  obtain ⟨A, c, rfl, h1, h2, h3, h4⟩ := hX
  rcases A with _ | ad
  · obtain rfl : c = 0 := h3 rfl
    obtain rfl : l = [] := List.length_eq_zero_iff.1 (by omega)
    refine wpList_append_own_none hgd s x 26 ho base 5 i0 1 Tryd.underlying26 hi v _ _ hs hown hx ?_
    refine h v w ?_ (World.grownBy.refl _ _) ?_ (Or.inl rfl)
    · rw [List.append_nil]; exact hown
    · simp
  · refine wpList_append_own_at w hgd s x 26 ho base 5 i0 (.int .u8 0) 1 1 Tryd.underlying26 hi hy0 hy1 hy2 rfl (by decide) v _ _ hs hown ad l.length c (Lib.byteCells l) hx ?c1 ?c2 ?c3 h63 hbytes hbase ?_
    case c1 => simp [Lib.byteCells]
    case c2 =>
      intro j u hj
      obtain ⟨h1, rfl⟩ := byte_get hj
      exact h4 ad rfl j h1
    case c3 => exact one_bytes l
    intro v' w' ho' hg' hn' ha'
    refine h v' w' ?_ hg' hn' ha'
    rw [List.length_append, byteCells_two]
    exact ho'

end Go.Proofs.YtbldahkgilkclaaDoor
