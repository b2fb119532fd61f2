/-
  Package table (values: string): the walk of Look. Conditions: the table lies in memory as it reads, and keeps what tables keep.
-/
import Derived.Test.YtcjoakbaldeaoaaGTdS
import Derived.Test.YtcjoakbaldeaoaaTbQ
namespace Go.Proofs.Ytcjoakbaldeaoaa
open Go.RowKit

set_option maxRecDepth 100000 in
set_option maxHeartbeats 8000000 in
/-- An item's cells. -/
theorem TbOn.itemS {base Q nh : Nat} {ow : Own} {tyT : TypeId} {hdr : Nat → Value} {RA RB : List (List (List UInt8 × (List UInt8)))} {gA gB : Nat} {sA sB : Nat → Value} {w : World} (h : TbOn KS w base ow Q tyT nh hdr RA gA sA RB gB sB) {i j : Nat} {l : List (List UInt8 × (List UInt8))} {x : List UInt8 × (List UInt8)} (hi : RA[i]? = some l) (hj : l[j]? = some x) :
    ∃ b c, sA i = .slice (some ⟨b, 0, none⟩) l.length c ∧ l.length ≤ c ∧ c ≤ 9223372036854775807 ∧ b < w.heap.size ∧ w.cell? ⟨b, j * 2, none⟩ = some (.string ⟨x.1.toArray⟩) ∧ w.cell? ⟨b, j * 2 + 1, none⟩ = some (KS.enc x.2) := by
  have hb := h.a.bkt i l hi
  have hlt := (List.getElem?_eq_some_iff.1 hj).1
  rcases hb.2 with ⟨h1, h2⟩ | ⟨g, cap, cur, hv, _, hgg, hnc, hcm, _⟩
  · omega
  · rw [hv] at hb
    refine ⟨g, cap, hv, hnc, by have := hcm; simp [maxLen] at this; omega, (Array.getElem?_eq_some_iff.1 hgg).1, ?_, ?_⟩
    · rw [World.ownsRow.cellAt hb (j * 2) (by omega)]
      exact (encIt_get _ l j x hj).1
    · rw [World.ownsRow.cellAt hb (j * 2 + 1) (by omega)]
      exact (encIt_get _ l j x hj).2

set_option maxRecDepth 100000 in
set_option maxHeartbeats 8000000 in
theorem lookS_any {base Q seed m : Nat} {ow : Own} {t : Tb (List UInt8)} {gA gB : Nat} {sA sB : Nat → Value} (hs : seed < 18446744073709551616) (k : List UInt8) (K : ByteArray) (hK : K.data.toList = k) (hK63 : K.size ≤ 9223372036854775807) (w : World) (h : PT KS w base ow Q 86 seed t gA sA gB sB) (hg : Good (hashT seed) m t) (hm : m ≤ 100000) :
    Calls Try.prog 64 #[.pointer (some ⟨Q, 0, none⟩), .string K] w fun e w' => e = .returned (.tuple #[(lookW KS ([] : List UInt8) (lookT (hashT seed) t k)).1, .bool (lookW KS ([] : List UInt8) (lookT (hashT seed) t k)).2]) ∧ Below w.heap.size w w' := by
  have c0 : w.cell? ⟨Q, 0, none⟩ = some (.pointer (some ⟨Q, 0, none⟩)) := h.hd.cell (by omega)
  have HM := Lib.hid (isMadeS_any Q w c0)
  have HW := Lib.hid (whereS_any hs k K hK hK63 w h hg hm)
  have hpos := hg.kept.pos
  have hra : hashT seed k % t.A.length < t.A.length := Nat.mod_lt _ hpos
  rcases where_cases (hashT seed) hg.kept gA gB k with ⟨j, x, c⟩ | ⟨j, x, c⟩ | c | c
  · rw [c.wh] at HW
    rw [c.look]
    dsimp only at HW
    have hA := getD_lt hra
    obtain ⟨b, cc, hsA, hle, hcc, hb, _, hv⟩ := TbOn.itemS h hA c.at_
    have hrow := (h.a.row hpos).cell hra
    have hga := (h.a.row hpos).lt
    have hjl := (List.getElem?_eq_some_iff.1 c.at_).1
    rw [hsA] at hrow
    have HR := Lib.hid hrow
    have HV := Lib.hid hv
    obtain ⟨ln, hln⟩ : ∃ n, (t.A.getD (hashT seed k % t.A.length) []).length = n := ⟨_, rfl⟩
    rw [hln] at HR hle hjl
    obtain ⟨r, hr⟩ : ∃ r, hashT seed k % t.A.length = r := ⟨_, rfl⟩
    rw [hr] at HW HR
    clear h c hA hsA hrow hv hln hr hra hg hm hpos c0 hK
    go_enter Try.func64, Try.ntmps64
    go_wp2_with fail
    refine HM.out.mono ?_
    rintro e w1 ⟨rfl, rfl⟩
    go_wp2_with fail
    refine HW.out.mono ?_
    rintro e w2 ⟨rfl, hb2⟩
    have d1 := (hb2.cell (p := ⟨gA, r, none⟩) hga).trans HR.out
    have v1 := (hb2.cell (p := ⟨b, j * 2 + 1, none⟩) hb).trans HV.out
    have HB2 := Lib.hid hb2
    clear hb2
    go_wp2
    go_ret2
    exact ⟨rfl, HB2.out⟩
  · rw [c.wh] at HW
    rw [c.look]
    dsimp only at HW
    have hBp := c.pos
    have hrb : hashT seed k % t.B.length < t.B.length := Nat.mod_lt _ hBp
    have hB := getD_lt hrb
    obtain ⟨b, cc, hsA, hle, hcc, hb, _, hv⟩ := TbOn.itemS h.symm hB c.at_
    have hrow := (h.b.row hBp).cell hrb
    have hga := (h.b.row hBp).lt
    have hjl := (List.getElem?_eq_some_iff.1 c.at_).1
    rw [hsA] at hrow
    have HR := Lib.hid hrow
    have HV := Lib.hid hv
    obtain ⟨ln, hln⟩ : ∃ n, (t.B.getD (hashT seed k % t.B.length) []).length = n := ⟨_, rfl⟩
    rw [hln] at HR hle hjl
    obtain ⟨r, hr⟩ : ∃ r, hashT seed k % t.B.length = r := ⟨_, rfl⟩
    rw [hr] at HW HR
    clear h c hB hsA hrow hv hln hr hra hg hm hpos c0 hK hBp hrb
    go_enter Try.func64, Try.ntmps64
    go_wp2_with fail
    refine HM.out.mono ?_
    rintro e w1 ⟨rfl, rfl⟩
    go_wp2_with fail
    refine HW.out.mono ?_
    rintro e w2 ⟨rfl, hb2⟩
    have d1 := (hb2.cell (p := ⟨gB, r, none⟩) hga).trans HR.out
    have v1 := (hb2.cell (p := ⟨b, j * 2 + 1, none⟩) hb).trans HV.out
    have HB2 := Lib.hid hb2
    clear hb2
    go_wp2
    go_ret2
    exact ⟨rfl, HB2.out⟩
  · rw [c.wh] at HW
    rw [c.look]
    dsimp only at HW
    clear h c hra hg hm hpos c0 hK
    go_enter Try.func64, Try.ntmps64
    go_wp2_with fail
    refine HM.out.mono ?_
    rintro e w1 ⟨rfl, rfl⟩
    go_wp2_with fail
    refine HW.out.mono ?_
    rintro e w2 ⟨rfl, hb2⟩
    have HB2 := Lib.hid hb2
    clear hb2
    go_wp2
    go_ret2
    exact ⟨rfl, HB2.out⟩
  · rw [c.wh] at HW
    rw [c.look]
    dsimp only at HW
    clear h c hra hg hm hpos c0 hK
    go_enter Try.func64, Try.ntmps64
    go_wp2_with fail
    refine HM.out.mono ?_
    rintro e w1 ⟨rfl, rfl⟩
    go_wp2_with fail
    refine HW.out.mono ?_
    rintro e w2 ⟨rfl, hb2⟩
    have HB2 := Lib.hid hb2
    clear hb2
    go_wp2
    go_ret2
    exact ⟨rfl, HB2.out⟩

end Go.Proofs.Ytcjoakbaldeaoaa
