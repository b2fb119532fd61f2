/-
  Arguments as the rows hand them: bytes in a slice, nil among others; texts in a slice. Conditions: as typed.
-/
import Derived.Test.YtbldahkgilkclaaDoorKit
import Derived.Test.YtbldahkgilkclaaDoorArgs
import Derived.SliceStrings
namespace Go.Proofs.YtbldahkgilkclaaDoor
open Go.ChangeShapes Go.WideShapes Go.ChangeAt Go.RowKit

/-- A slice of numbers that fit a byte, as bytes. -/
theorem src_arg {W : World} {A : Option Addr} {len cap : Nat} {zs : List Int} (hl : len ≤ cap) (hcap : cap ≤ 9223372036854775807) (hz : zs.length = cap) (hw : ∀ n ∈ zs, (Lit.int .u8 n).wf = true) (hn : A = none → cap = 0) (hc : ∀ ad, A = some ad → ∀ j, j < cap → W.cell? (ad.add j) = some (.int .u8 (zs.getD j 0))) :
    SrcAt W (.slice A len cap) ((zs.take len).map fun z => UInt8.ofNat z.toNat) := by
  have hlen : ((zs.take len).map fun z => UInt8.ofNat z.toNat).length = len := by rw [List.length_map, List.length_take]; omega
  refine ⟨A, cap, by rw [hlen], by omega, hcap, hn, fun ad e j hj => ?_⟩
  rw [hlen] at hj
  have hj2 : j < zs.length := by omega
  rw [hc ad e j (by omega)]
  have hb := u8_wf (hw _ (List.getElem_mem hj2))
  have e1 : zs.getD j 0 = zs[j] := by rw [List.getD_eq_getElem?_getD, List.getElem?_eq_getElem hj2]; rfl
  have e2 : ((zs.take len).map fun z => UInt8.ofNat z.toNat).getD j 0 = UInt8.ofNat (zs[j]).toNat := by
    rw [List.getD_eq_getElem?_getD, List.getElem?_map, List.getElem?_take, if_pos hj, List.getElem?_eq_getElem hj2]; rfl
  rw [e1, e2, UInt8.toNat_ofNat']
  congr 2
  omega

theorem weights_mem_all {H : Type} {P : Program} {e : TypeId} {d : DataW H} {n : Nat} (hn : n ∈ d.weights P e) : ∀ {ds : List (DataW H)}, d ∈ ds → n ∈ DataW.weightsAll P e ds
  | x :: r, h => by
    simp only [DataW.weightsAll, List.mem_append]
    rcases List.mem_cons.1 h with rfl | h
    · exact Or.inl hn
    · exact Or.inr (weights_mem_all hn h)

theorem strs_arg {W : World} {a : Addr} {len : Nat} {ss : List ByteArray} (hl : len ≤ ss.length) (h0 : 0 < len) (hc : ∀ i, i < ss.length → W.cell? (a.add i) = some (.string (ss.getD i ByteArray.empty))) :
    ∃ b o, a = ⟨b, o, none⟩ ∧ ∀ i t, ((ss.take len).map fun s => s.data.toList)[i]? = some t → W.cell? ⟨b, o + i, none⟩ = some (strV t) := by
  obtain ⟨b, off, spot⟩ := a
  have hspot : spot = none := by simpa [Addr.add] using World.cell?_spot (hc 0 (by omega))
  subst hspot
  refine ⟨b, off, rfl, fun i t ht => ?_⟩
  rw [List.getElem?_map, List.getElem?_take] at ht
  split at ht
  · rename_i hi
    have hi2 : i < ss.length := by omega
    rw [List.getElem?_eq_getElem hi2] at ht
    simp only [Option.map_some, Option.some.injEq] at ht
    subst ht
    have := hc i hi2
    rw [Go.WideShapes.add_plain] at this
    rw [this, List.getD_eq_getElem?_getD, List.getElem?_eq_getElem hi2]
    rfl
  · simp at ht

end Go.Proofs.YtbldahkgilkclaaDoor
