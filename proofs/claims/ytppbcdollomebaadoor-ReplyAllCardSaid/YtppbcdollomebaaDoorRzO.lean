/-
  The walks of package reply's reader, whole and Decode, at any bytes. Conditions: the bytes lie in memory.
-/
import Derived.Test.YtppbcdollomebaaDoorRzN
import Derived.Test.YtppbcdollomebaaDoorRyF
namespace Go.Proofs.YtppbcdollomebaaDoor
open Go.RowKit

theorem yreply_all (B b : Nat) (bs : List UInt8) : ∀ (left nest : Nat) (_ : left + nest = 8) (i : Nat) (w : World) (_ : InAt w B b bs i nest),
    Calls Tryd.prog 38 #[.pointer (some ⟨B, 0, none⟩)] w (RPost w B b bs nest (replyS bs left i))
  | 0, nest, hln, i, w, h => yreply_step B b bs 0 nest i w h fun i w h => yarray_step B b bs 0 nest i hln w h fun h0 => absurd h0 (Nat.lt_irrefl 0)
  | left + 1, nest, hln, i, w, h => yreply_step B b bs (left + 1) nest i w h fun i w h => yarray_step B b bs (left + 1) nest i hln w h fun _ i w hi => yreply_all B b bs left (nest + 1) (by omega) i w hi

theorem assert_fault_y (f : Int) (w : World) (x : TypeId) : (Instr.typeAssert (faultR f) x 76 true).run Tryd.prog w = .ok (.tuple #[.int .i64 f, .bool true]) w := by
  simp [Instr.typeAssert, go_sem, faultR]

set_option maxRecDepth 100000 in
set_option maxHeartbeats 1000000 in
theorem yerrnoOf_fault (f : Int) (w : World) : Calls Tryd.prog 37 #[faultR f] w fun e w' => e = .returned (.int .i64 f) ∧ w = w' := by
  have hta := assert_fault_y f
  unfold faultR at hta ⊢
  go_enter Tryd.func37, Tryd.ntmps37
  go_wp2
  go_ret
  exact ⟨rfl, rfl⟩

set_option maxRecDepth 100000 in
set_option maxHeartbeats 2000000 in
theorem ydeferred_panic (T : Nat) (v0 : Value) (f : Int) (w : World) (hc : w.cell? ⟨T, 0, none⟩ = some v0) (hf : w.frozen? ⟨T, 0, none⟩ = false) :
    CallsD Tryd.prog 36 #[.pointer (some ⟨T, 0, none⟩)] (.panicking [{ v := faultR f, recovered := false }]) w fun e u' w' => e = .returned (.tuple #[]) ∧ u' = .panicking [{ v := faultR f, recovered := true }] ∧ w' = w.setCell ⟨T, 0, none⟩ (.int .i64 f) := by
  refine callsD_of_wpS Tryd.func36 rfl fun c₀ cs hu => ?_
  apply wpS_region
  simp [wpOpsS, go_sem, recoverD, hu, Tryd.ntmps36]
  refine (yerrnoOf_fault f w).mono ?_
  rintro e w' ⟨rfl, rfl⟩
  simp [go_sem, hc, hf, bodyPostS, results, Tryd.results36]

end Go.Proofs.YtppbcdollomebaaDoor
