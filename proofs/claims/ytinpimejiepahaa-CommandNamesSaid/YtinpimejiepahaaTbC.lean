/-
  The walk of strings.Clone at any text of at most 2^47 bytes.
-/
import Derived.Test.YtinpimejiepahaaRet
import Derived.Test.YtinpimejiepahaaShelf
namespace Go.Proofs.Ytinpimejiepahaa
open Go.RowKit

set_option maxRecDepth 100000 in
theorem clone_any (K : ByteArray) (w : World) (hK : K.size ≤ 140737488355328) :
    Calls Try.prog 42 #[.string K] w fun e w' => e = .returned (.string K) ∧ Below w.heap.size w w' := by
  have HC := Lib.hid (Try.stringslite_Clone K w (by omega))
  go_enter Try.func42, Try.ntmps42
  go_wp2_with fail
  refine HC.out.mono ?_
  rintro e w1 ⟨rfl, hb⟩
  have HB := Lib.hid hb
  clear hb
  go_wp2
  go_ret
  exact ⟨rfl, HB.out⟩

end Go.Proofs.Ytinpimejiepahaa
