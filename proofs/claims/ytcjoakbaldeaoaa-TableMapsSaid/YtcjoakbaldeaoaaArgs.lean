/-
  Arguments as the rows hand them to the walks: bytes in a slice, numbers that are well formed. Conditions: as typed.
-/
import Derived.Test.YtcjoakbaldeaoaaBase
import Derived.Test.YtcjoakbaldeaoaaConv
import Derived.SizedLaws
namespace Go.Proofs.Ytcjoakbaldeaoaa
open Go.ChangeShapes Go.WideShapes Go.ChangeAt Go.RowKit

theorem u64_wf {n : Int} (h : (Lit.int .u64 n).wf = true) : 0 ≤ n ∧ n ≤ 18446744073709551615 := by
  simp only [Lit.wf, IntKind.min, IntKind.max, IntKind.signed, IntKind.bits, Bool.and_eq_true] at h
  simpa using h

theorem u8_wf {n : Int} (h : (Lit.int .u8 n).wf = true) : 0 ≤ n ∧ n ≤ 255 := by
  simp only [Lit.wf, IntKind.min, IntKind.max, IntKind.signed, IntKind.bits, Bool.and_eq_true] at h
  simpa using h

theorem bytes_arg {W : World} {b off len : Nat} {zs : List Int} (hz : len ≤ zs.length) (hw : ∀ n ∈ zs, (Lit.int .u8 n).wf = true) (hc : ∀ j, j < zs.length → W.cell? ⟨b, off + j, none⟩ = some (.int .u8 (zs.getD j 0))) :
    ∃ l : List UInt8, l.length = len ∧ BytesAt W b off l := by
  refine ⟨(zs.take len).map fun z => UInt8.ofNat z.toNat, by rw [List.length_map, List.length_take]; omega, fun j hj => ?_⟩
  rw [List.length_map, List.length_take] at hj
  have hj1 : j < len := by omega
  have hj2 : j < zs.length := by omega
  rw [hc j hj2]
  have hb := u8_wf (hw _ (List.getElem_mem hj2))
  have e1 : zs.getD j 0 = zs[j] := by rw [List.getD_eq_getElem?_getD, List.getElem?_eq_getElem hj2]; rfl
  have e2 : ((zs.take len).map fun z => UInt8.ofNat z.toNat).getD j 0 = UInt8.ofNat (zs[j]).toNat := by
    rw [List.getD_eq_getElem?_getD, List.getElem?_map, List.getElem?_take, if_pos hj1, List.getElem?_eq_getElem hj2]; rfl
  rw [e1, e2, UInt8.toNat_ofNat']
  congr 2
  omega

end Go.Proofs.Ytcjoakbaldeaoaa
