/-
  Pointers to nodes, compared. No walk.
-/
import Derived.Test.YtcbiiioglklpoaaDoorSkW
import Derived.LaidEqlPtr
namespace Go.Proofs.YtcbiiioglklpoaaDoor
open Go.RowKit

theorem info_node : (Tryd.prog.info? 106).map (fun j => decide (j.size = 35)) = some true := by kernel_rfl
theorem info_node' : ∃ j, Tryd.prog.info? 106 = some j ∧ j.size ≠ 0 := by
  have h := info_node
  cases hq : Tryd.prog.info? 106 with
  | none => rw [hq] at h; cases h
  | some j =>
    rw [hq] at h
    refine ⟨j, rfl, ?_⟩
    simp at h
    omega

section
variable {X : World} {a b : Nat} {n n' : Nat} {t t' : TypeId} {f f' : Nat → Value}

theorem eql_node_same (X : World) (a : Nat) : (binOp .eql 92 (.pointer (some ⟨a, 0, none⟩)) (.pointer (some ⟨a, 0, none⟩))).run Tryd.prog X = .ok (.bool true) X := by
  obtain ⟨j, hj, _⟩ := info_node'
  exact run_eql_ptr_same X _ Tryd.underlying92 hj
theorem eql_node_other (hne : a ≠ b) (ha : X.rowIs a t n f) (hb : X.rowIs b t' n' f') : (binOp .eql 92 (.pointer (some ⟨a, 0, none⟩)) (.pointer (some ⟨b, 0, none⟩))).run Tryd.prog X = .ok (.bool false) X := by
  obtain ⟨j, hj, hs⟩ := info_node'
  obtain ⟨c1, h1, _⟩ := ha
  obtain ⟨c2, h2, _⟩ := hb
  exact run_eql_ptr_other X (a := ⟨a, 0, none⟩) (b := ⟨b, 0, none⟩) Tryd.underlying92 hj hs (fun e => hne (by injection e)) h1 h2
theorem neq_of_eql {P : Program} {tp : TypeId} {p q : Option Addr} {r : Bool} (h : (binOp .eql tp (.pointer p) (.pointer q)).run P X = .ok (.bool r) X) : (binOp .neq tp (.pointer p) (.pointer q)).run P X = .ok (.bool (!r)) X := by
  simp only [binOp] at h ⊢
  cases hq : (Op.equal tp (.pointer p) (.pointer q)).run P X with
  | ok v w =>
    simp [hq, Result.andThen] at h ⊢
    simp [h.1, h.2]
  | halt hh w => simp [hq, Result.andThen] at h

end

end Go.Proofs.YtcbiiioglklpoaaDoor
