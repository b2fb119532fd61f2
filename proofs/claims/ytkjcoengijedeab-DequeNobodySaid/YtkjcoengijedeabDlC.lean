/-
  The walk of DequeNobody at any places and any text.
-/
import Derived.Test.YtkjcoengijedeabDlX
import Derived.Test.YtkjcoengijedeabDlN
import Derived.Test.YtkjcoengijedeabDlT
namespace Go.Proofs.Ytkjcoengijedeab
open Go.RowKit

set_option maxRecDepth 100000 in
set_option maxHeartbeats 16000000 in
theorem dequeNobody_any (i k : Int) (v : ByteArray) (w : World) :
    Calls Try.prog 7 #[.int .i64 i, .int .i64 k, .string v] w fun e w' => e = .returned (.bool true) ∧ Below w.heap.size w w' := by
  have HPOP := Lib.hid (fun X => popS_nil X)
  have HSHI := Lib.hid (fun X => shiftS_nil X)
  have HAT := Lib.hid (fun X => atS_nil i X)
  have HREM := Lib.hid (fun X => delS_nil i X)
  have HWF : Hid (∀ X, Calls Try.prog 18 #[.pointer none, .bool false, .int .i64 9] X fun e w' => ∃ v, e = .returned (.tuple #[v, .bool true]) ∧ w'.ownsRow X.heap.size 9 1 v 0 [] ∧ Below X.heap.size X w') := fun X => walked_nil (m := 9) false X
  have HWT : Hid (∀ X, Calls Try.prog 18 #[.pointer none, .bool true, .int .i64 9] X fun e w' => ∃ v, e = .returned (.tuple #[v, .bool true]) ∧ w'.ownsRow X.heap.size 9 1 v 0 [] ∧ Below X.heap.size X w') := fun X => walked_nil (m := 9) true X
  have HLI := Lib.hid (fun X => listS_nil X)
  have HLE := Lib.hid (fun X => lenS_nil X)
  have HPU := Lib.hid (fun X => pushS_nil v X)
  have HUN := Lib.hid (fun X => unshiftS_nil v X)
  have HSE := Lib.hid (fun X => setS_nil i v X)
  have HIN := Lib.hid (fun X => insS_nil i v X)
  have HTR := Lib.hid (fun X => trimS_nil i k X)
  have HAW := Lib.hid (fun X => awake_any X)
  go_enter Try.func7, Try.ntmps7
  go_wp2_with fail
  refine (HPOP.out _).mono ?_
  rintro e w1 ⟨rfl, rfl⟩
  go_wp2_with fail
  refine (HSHI.out _).mono ?_
  rintro e w2 ⟨rfl, rfl⟩
  go_wp2_with fail
  refine (HAT.out _).mono ?_
  rintro e w3 ⟨rfl, rfl⟩
  go_wp2_with fail
  refine (HREM.out _).mono ?_
  rintro e w4 ⟨rfl, rfl⟩
  go_wp2_with fail
  refine (HWF.out _).mono ?_
  rintro e w5 ⟨v1, rfl, hr1, hb1⟩
  have HB1 := Lib.hid hb1
  obtain ⟨A1, c1, rfl⟩ := own_form1 hr1
  clear hr1 hb1
  go_wp2_with fail
  refine (HWT.out _).mono ?_
  rintro e w6 ⟨v2, rfl, hr2, hb2⟩
  have HB2 := Lib.hid (HB1.out.trans (hb2.mono HB1.out.size))
  obtain ⟨A2, c2, rfl⟩ := own_form1 hr2
  clear hr2 hb2
  go_wp2_with fail
  refine (HLI.out _).mono ?_
  rintro e w7 ⟨v3, rfl, hr3, hb3⟩
  have HB3 := Lib.hid (HB2.out.trans (hb3.mono HB2.out.size))
  obtain ⟨A3, c3, rfl⟩ := own_form1 hr3
  clear hr3 hb3
  go_wp2_with fail
  refine (HLE.out _).mono ?_
  rintro e w8 ⟨rfl, rfl⟩
  go_wp2_with fail
  refine (HPU.out _).mono ?_
  rintro e w8 ⟨rfl, rfl⟩
  go_wp2_with fail
  refine (HUN.out _).mono ?_
  rintro e w8 ⟨rfl, rfl⟩
  go_wp2_with fail
  refine (HSE.out _).mono ?_
  rintro e w8 ⟨rfl, rfl⟩
  go_wp2_with fail
  refine (HIN.out _).mono ?_
  rintro e w8 ⟨rfl, rfl⟩
  go_wp2_with fail
  refine (HTR.out _).mono ?_
  rintro e w8 ⟨rfl, rfl⟩
  go_wp2_with fail
  refine (HAW.out _).mono ?_
  rintro e w9 ⟨rfl, hb9⟩
  have HB9 := Lib.hid (HB3.out.trans (hb9.mono HB3.out.size))
  clear hb9
  go_wp2
  go_ret
  exact ⟨rfl, HB9.out⟩

end Go.Proofs.Ytkjcoengijedeab
