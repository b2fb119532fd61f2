/-
  Package skip: where a step's way of a level leads. Conditions: the way's two cells.
-/
import Derived.Test.YtcbiiioglklpoaaDoorSkC
import Derived.Test.YtcbiiioglklpoaaDoorDqM
import Derived.WalkKit
import Derived.LoopTactic
namespace Go.Proofs.YtcbiiioglklpoaaDoor
open Go.RowKit

theorem wrap_eq (n : Int) : wrap64 n = IntKind.i64.wrap n := (IntWalk.i64_left n).symm

set_option maxRecDepth 100000 in
set_option maxHeartbeats 8000000 in
theorem next_any {b i : Nat} {pl s : Int} {T : Option Addr} (w : World) (hi : i < 16) (h0 : w.cell? ⟨b, 3 + i * 2, none⟩ = some (.pointer T)) (h1 : w.cell? ⟨b, 3 + i * 2 + 1, none⟩ = some (.int .i64 s)) :
    Calls Tryd.prog 93 #[.agg #[.pointer (some ⟨b, 0, none⟩), .int .i64 pl], .int .i64 i] w fun e w' => e = .returned (.agg #[.pointer T, .int .i64 (IntKind.i64.wrap (pl + s))]) ∧ Below w.heap.size w w' := by
  have hb := World.block_lt_of_cell? w _ h0
  go_enter Tryd.func93, Tryd.ntmps93
  go_wp2
  exact bodyPost_ret (v := .agg #[.pointer T, .int .i64 (IntKind.i64.wrap (pl + s))]) (by simp [results, Tryd.results93, go_sem, wrap_eq]) rfl ⟨rfl, by
    repeat first | exact Below.refl _ _ | refine Below.setCell ?_ (by simp <;> omega) _ | refine Below.alloc ?_ (by simp <;> omega) _⟩

end Go.Proofs.YtcbiiioglklpoaaDoor
