/-
  The walks of Parse and of the document's own Parse. Conditions: the text is a text (no longer than the model lets any text be).
-/
import Derived.Test.YtppbcdollomebaaDoorRet
import Derived.Test.YtppbcdollomebaaDoorNumM
import Derived.Lib.Hide
import Derived.Lib.OthersKept
import Derived.Lib.VarintMem
import Derived.Laws.RangeAny
namespace Go.Proofs.YtppbcdollomebaaDoor
open Go.RowKit

theorem toList_nil (s : ByteArray) (h : s.size = 0) : s.toList = [] ∧ s.toList.isEmpty = true ∧ s.data.toList = [] := by
  have : s = ByteArray.empty := by
    apply ByteArray.ext
    exact Array.eq_empty_of_size_eq_zero h
  subst this
  refine ⟨by rw [ByteArray.toList_eq]; rfl, by rw [ByteArray.toList_eq]; rfl, rfl⟩
theorem toList_cons (s : ByteArray) (h : 0 < s.size) : ¬ s.toList = [] ∧ s.toList.isEmpty = false ∧ (!s.toList.isEmpty) = true ∧ s.data.toList = (s[0]'h) :: s.data.toList.tail := by
  have hl : s.data.toList.length = s.size := Array.length_toList
  have e : ¬ s.toList = [] := by
    rw [ByteArray.toList_eq]
    intro e
    rw [e] at hl
    exact absurd hl (by show ¬ 0 = s.size; omega)
  have e2 : s.toList.isEmpty = false := by
    cases hx : s.toList with
    | nil => exact absurd hx e
    | cons _ _ => rfl
  refine ⟨e, e2, by rw [e2]; rfl, ?_⟩
  cases hd : s.data.toList with
  | nil => rw [hd] at hl; exact absurd hl (by show ¬ 0 = s.size; omega)
  | cons c r =>
    have : s[0]'h = s.data.toList[0]'(by rw [hl]; exact h) := rfl
    rw [this]
    simp only [hd, List.getElem_cons_zero, List.tail_cons]

theorem digs_step (t : ByteArray) (k : Nat) (n : Int) (h : k < t.size) :
    digs (t.data.toList.drop k) n = if 48 ≤ (t[k]'h).toNat ∧ (t[k]'h).toNat ≤ 57 ∧ -9223372036854775808 ≤ n * 10 - (((t[k]'h).toNat : Int) - 48) then digs (t.data.toList.drop (k + 1)) (n * 10 - (((t[k]'h).toNat : Int) - 48)) else none := by
  have hl : k < t.data.toList.length := by rw [Array.length_toList]; exact h
  rw [List.drop_eq_getElem_cons hl, digs]
  rfl
theorem digs_end (t : ByteArray) (n : Int) : digs (t.data.toList.drop t.size) n = some n := by
  rw [List.drop_eq_nil_of_le (by rw [Array.length_toList]; exact Nat.le_refl _)]
  rfl
end Go.Proofs.YtppbcdollomebaaDoor
