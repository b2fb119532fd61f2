/-
  The walk of the statement RespPieces at empty bytes: it answers true. No condition.
-/
import Derived.Test.YtmbgonldbhpanaaRpP
import Derived.Test.YtmbgonldbhpanaaRpC3
namespace Go.Proofs.Ytmbgonldbhpanaa
open Go.RowKit

set_option maxRecDepth 100000 in
set_option maxHeartbeats 4000000 in
theorem respPieces_none (A CA : Option Addr) (cap cn cc : Nat) (w : World) :
    Calls Try.prog 5 #[.slice A 0 cap, .slice CA cn cc] w fun e w' => e = .returned (.bool true) ∧ Below w.heap.size w w' := by
  have HAW := Lib.hid (awake_any w)
  go_enter Try.func5, Try.ntmps5
  go_wp2_with fail
  refine HAW.out.mono ?_
  rintro e w0 ⟨rfl, hb0⟩
  have HB0 := Lib.hid hb0
  clear hb0 HAW
  go_wp2_with fail
  refine (cut_short A 0 cap w0 (by omega)).mono ?_
  rintro e w' ⟨rfl, rfl⟩
  go_wp2_with fail
  refine (psplit_empty A cap w0).mono ?_
  rintro e w1 ⟨hb1, vl, rfl, hvl⟩
  have HB1 := Lib.hid (HB0.out.trans (hb1.mono HB0.out.size))
  obtain ⟨A1, c1, rfl⟩ := hvl.len
  clear hvl hb1
  simp only [List.length_nil]
  go_wp2_with fail
  refine (pnew_any w1).mono ?_
  rintro e w2 ⟨rfl, hw2⟩
  have hb2 : Below w1.heap.size w1 w2 := by rw [hw2]; exact (Below.refl _ _).alloc (Nat.le_refl _) _
  have HB2 := Lib.hid (HB1.out.trans (hb2.mono HB1.out.size))
  clear hw2 hb2
  go_wp2
  go_loopw [0, 9, 10, 11, 12, 13, 14, 15] (fun bv vg tv iv _ _ _ _ wr => wr = w2 ∧ bv = .slice A 0 cap ∧ vg = .slice none 0 0 ∧ tv = .string ⟨#[]⟩ ∧ iv = .int .i64 0) (fun _ _ _ _ _ _ _ _ _ => 0)
  case atStart => exact ⟨rfl, rfl, rfl, rfl, rfl⟩
  case round =>
    obtain ⟨rfl, rfl, rfl, rfl, rfl⟩ := hrel
    go_wp2_with fail
    refine (rsame_nil none A1 0 c1 _).mono ?_
    rintro e w3 ⟨rfl, q, rfl⟩
    go_wp2
    go_ret
    exact ⟨rfl, below_drewN HB2.out q⟩

end Go.Proofs.Ytmbgonldbhpanaa
