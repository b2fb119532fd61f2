/-
  MembersSome at any numbers. Conditions: the arguments lie in memory.
-/
import Derived.Test.YtkobhlhkkpnmkaaMbT
namespace Go.Proofs.Ytkobhlhkkpnmkaa
open Go.RowKit

theorem someL_any {A : Option Addr} {n cp : Nat} {L : List Tx} (w : World) (h1 : TxAt w A n cp L) (x z : Int) (_ : -9223372036854775808 ≤ x) (_ : x ≤ 9223372036854775807) (l2 : 0 ≤ z) (g2 : z ≤ 18446744073709551615) :
    Calls Try.prog 8 #[.slice A n cp, .int .i64 x, .int .u64 z] w fun e w' => e = .returned (.bool true) ∧ Below w.heap.size w w' := by
  obtain ⟨d, rfl⟩ : ∃ d : Nat, z = d := ⟨z.toNat, by omega⟩
  rcases (by omega : x < -100 ∨ (65536 < x ∧ ¬ x < -100) ∨ (-100 ≤ x ∧ x ≤ 65536)) with q | ⟨q1, q2⟩ | ⟨q1, q2⟩
  · exact some1 w h1 x 3 (Or.inl ⟨q, rfl⟩) d (by omega)
  · exact some1 w h1 x 3 (Or.inr (Or.inl ⟨q1, q2, rfl⟩)) d (by omega)
  · exact some1 w h1 x x (Or.inr (Or.inr ⟨q1, q2, rfl⟩)) d (by omega)

end Go.Proofs.Ytkobhlhkkpnmkaa
