/-
  The walk of the statement RespSplits: it answers true. Conditions: the bytes lie in memory as a slice that reads as them.
-/
import Derived.Test.YtmbgonldbhpanaaRpM
namespace Go.Proofs.Ytmbgonldbhpanaa
open Go.RowKit

set_option maxRecDepth 100000 in
set_option maxHeartbeats 4000000 in
theorem respSplits_some (b o cap : Nat) (l : List UInt8) (w : World) (hl : l.length ≤ cap) (hcap : cap ≤ 9223372036854775807) (hb : b < w.heap.size) (hc : BytesAt w b o l) :
    Calls Try.prog 3 #[.slice (some ⟨b, o, none⟩) l.length cap] w fun e w' => e = .returned (.bool true) ∧ Below w.heap.size w w' := by
  have HC := Lib.hid hc
  have HCUT := Lib.hid (cut_any b o cap l w hl hcap)
  have hx : (l.take 300000).length = min 300000 l.length := List.length_take
  have hx1 : (l.take 300000).length ≤ cap := by omega
  have hx2 : (l.take 300000).length ≤ 1099511627776 := by omega
  have hct := hc.take 300000
  have HCT := Lib.hid hct
  obtain ⟨x, hxx⟩ : ∃ x, l.take 300000 = x := ⟨_, rfl⟩
  rw [hxx] at HCUT HCT hx1 hx2
  have HSP := Lib.hid (psplit_any b o cap x w hx1 hcap hx2 hb HCT.out)
  have hrows := splitS_rows x
  obtain ⟨S, hS⟩ : ∃ S, splitS x = S := ⟨_, rfl⟩
  obtain ⟨L, n, F⟩ := S
  rw [hS] at HSP hrows
  have HS := Lib.hid hS
  have HROW := Lib.hid hrows
  clear hc hct hx hS hrows hxx hl
  go_enter Try.func3, Try.ntmps3
  go_wp2_with fail
  refine HCUT.out.mono ?_
  rintro e w' ⟨rfl, rfl⟩
  go_wp2_with fail
  refine HSP.out.mono ?_
  rintro e w1 ⟨hb1, vl, rfl, hvl⟩
  have hz1 := hb1.size
  have HR := Lib.hid (rsplit_any b o cap x w1 hx1 hcap hx2 (by omega) (HCT.out.below hb1 hb))
  rw [HS.out] at HR
  have HVL := Lib.hid hvl
  have HB1 := Lib.hid hb1
  obtain ⟨A1, c1, rfl⟩ := hvl.len
  clear hvl hb1 HSP HCUT
  go_wp2_with fail
  refine HR.out.mono ?_
  rintro e w2 ⟨hb2, vm, rfl, hvm⟩
  have HVM := Lib.hid hvm
  obtain ⟨A2, c2, rfl⟩ := hvm.len
  have HSA := Lib.hid (rsame_own w2 w.heap.size w1.heap.size _ _ L (HVL.out.below hb2) hvm (by have := HROW.out.1; omega) (fun r hr => (HROW.out.2 r hr).2))
  have hb12 := HB1.out.trans (hb2.mono hz1)
  have HB2 := Lib.hid hb12
  clear hvm hb2 HR hb12
  dsimp only at HSA ⊢
  go_wp2_with fail
  refine HSA.out.mono ?_
  rintro e w3 ⟨rfl, q, rfl⟩
  have HAW := Lib.hid (awake_any (w2.drewN q))
  go_wp2_with fail
  refine HAW.out.mono ?_
  rintro e w4 ⟨rfl, hb4⟩
  have HFIN := Lib.hid ((below_drewN HB2.out q).trans (hb4.mono (by show w.heap.size ≤ w2.heap.size; have := HB2.out.size; omega)))
  clear hb4
  go_wp2
  go_ret
  exact ⟨rfl, HFIN.out⟩

set_option maxRecDepth 100000 in
set_option maxHeartbeats 4000000 in
theorem respSplits_none (A : Option Addr) (cap : Nat) (w : World) :
    Calls Try.prog 3 #[.slice A 0 cap] w fun e w' => e = .returned (.bool true) ∧ Below w.heap.size w w' := by
  have HCUT := Lib.hid (cut_short A 0 cap w (by omega))
  have HSP := Lib.hid (psplit_empty A cap w)
  go_enter Try.func3, Try.ntmps3
  go_wp2_with fail
  refine HCUT.out.mono ?_
  rintro e w' ⟨rfl, rfl⟩
  go_wp2_with fail
  refine HSP.out.mono ?_
  rintro e w1 ⟨hb1, vl, rfl, hvl⟩
  have HR := Lib.hid (rsplit_empty A cap w1)
  have hz1 := hb1.size
  have HB1 := Lib.hid hb1
  obtain ⟨A1, c1, rfl⟩ := hvl.len
  clear hvl hb1 HSP HCUT
  go_wp2_with fail
  refine HR.out.mono ?_
  rintro e w2 ⟨hb2, vm, rfl, hvm⟩
  obtain ⟨A2, c2, rfl⟩ := hvm.len
  have hb12 := HB1.out.trans (hb2.mono hz1)
  have HB2 := Lib.hid hb12
  have HSA := Lib.hid (rsame_nil A1 A2 c1 c2 w2)
  clear hvm hb2 HR hb12
  simp only [List.length_nil]
  go_wp2_with fail
  refine HSA.out.mono ?_
  rintro e w3 ⟨rfl, q, rfl⟩
  have HAW := Lib.hid (awake_any (w2.drewN q))
  go_wp2_with fail
  refine HAW.out.mono ?_
  rintro e w4 ⟨rfl, hb4⟩
  have HFIN := Lib.hid ((below_drewN HB2.out q).trans (hb4.mono (by show w.heap.size ≤ w2.heap.size; have := HB2.out.size; omega)))
  clear hb4
  go_wp2
  go_ret
  exact ⟨rfl, HFIN.out⟩

end Go.Proofs.Ytmbgonldbhpanaa
