/-
  The statements' own helper alive; the walk of the first statement. Conditions: the table of math/bits lies where the program laid it.
-/
import Derived.Test.YtcbiiioglklpoaaDoorSkC5
import Derived.Test.YtcbiiioglklpoaaDoorSkRb
namespace Go.Proofs.YtcbiiioglklpoaaDoor
open Go.RowKit

def aliveL : List Mb := [([98], 1), ([97], 1), ([99], -5)]
def aliveS : List Mb := [([99], -5), ([97], 1), ([98], 1)]

theorem alive_ord : Ord aliveS := ⟨by unfold aliveS InOrd; decide, by unfold aliveS Each; decide⟩
theorem alive_each : Each aliveL := by unfold aliveL Each; decide
theorem alive_perm : aliveS.Perm aliveL := by unfold aliveS aliveL; decide
theorem alive_facts : fndM aliveS [98] = some 2 ∧ toM ⟨1, true, 0⟩ ⟨0, false, 1⟩ aliveS - fromM ⟨1, true, 0⟩ aliveS = 0 ∧ rdE [40, 49] = 0 ∧ (rdB [40, 49]).n = 1 ∧ (rdB [40, 49]).open_ = true ∧ (rdB [40, 49]).inf = 0 := by decide +kernel

set_option maxRecDepth 100000 in
set_option maxHeartbeats 4000000 in
theorem alive_any (w : World) (hz : Tz w) (hg : 0 < w.heap.size) : Calls Tryd.prog 15 #[] w fun e w' => e = .returned (.bool true) ∧ Below w.heap.size w w' := by
  obtain ⟨M, hM⟩ : ∃ M, w.heap.size = M := ⟨_, rfl⟩
  obtain ⟨w1, hw1⟩ : ∃ w1, w.alloc (.cells #[.string ⟨#[98]⟩, .int .i64 1, .string ⟨#[97]⟩, .int .i64 1, .string ⟨#[99]⟩, .int .i64 (-5)] 47) = w1 := ⟨_, rfl⟩
  have b1 : Below M w w1 := by rw [← hw1, ← hM]; exact (Below.refl _ _).alloc (Nat.le_refl _) _
  have s1 : w1.heap.size = M + 1 := by rw [← hw1, ← hM]; simp
  have r1 : w1.rowIs M 47 6 (fun i => if i = 0 then .string ⟨#[98]⟩ else if i = 1 then .int .i64 1 else if i = 2 then .string ⟨#[97]⟩ else if i = 3 then .int .i64 1 else if i = 4 then .string ⟨#[99]⟩ else .int .i64 (-5)) := by
    rw [← hw1, ← hM]
    exact World.rowIs_alloc w _ _ _ (fun i hi => by
      have hi : i < 6 := hi
      rcases (by omega : i = 0 ∨ i = 1 ∨ i = 2 ∨ i = 3 ∨ i = 4 ∨ i = 5) with rfl | rfl | rfl | rfl | rfl | rfl <;> rfl)
  have hsc : ScAt w1 (some ⟨M, 0, none⟩) 3 3 aliveL := ⟨rfl, Nat.le_refl _, by omega, fun _ => ⟨M, 0, rfl, by omega, fun j x hx => by
    rcases j with _ | _ | _ | j
    · simp [aliveL] at hx; subst hx; exact ⟨r1.cell (i := 0) (by omega), r1.cell (i := 1) (by omega)⟩
    · simp [aliveL] at hx; subst hx; exact ⟨r1.cell (i := 2) (by omega), r1.cell (i := 3) (by omega)⟩
    · simp [aliveL] at hx; subst hx; exact ⟨r1.cell (i := 4) (by omega), r1.cell (i := 5) (by omega)⟩
    · simp [aliveL] at hx⟩⟩
  have HLD := Lib.hid (load_any 3 (by omega) w1 hsc (by omega) (fun x hx => by simp [aliveL] at hx; rcases hx with rfl | rfl | rfl <;> simp) (hz.block (b1.block _ (by omega))) (by omega))
  have HW1 := Lib.hid hw1
  have HB1 := Lib.hid b1
  have HS1 := Lib.hid s1
  have HF := Lib.hid alive_facts
  clear hw1 b1 s1 r1 hsc hz hg
  rw [hM]
  go_enter Tryd.func15, Tryd.ntmps15
  go_wp2_with fail
  rw [HW1.out]
  refine HLD.out.mono ?_
  rintro e w2 ⟨hb2, ⟨_, base, s, c, h, mb, ns, S, g, sz, L, rfl, hba, hls, hpm⟩ | ⟨hne, _⟩⟩
  · obtain rfl : L = aliveS := hls.ord.1.unique alive_ord.1 (hpm.trans alive_perm.symm)
    have HLS := Lib.hid hls
    have HB2 := Lib.hid hb2
    have HRK := Lib.hid (rank_any hls (by decide) ⟨#[98]⟩ (by decide))
    rw [show (⟨#[98]⟩ : ByteArray).data.toList = [98] from rfl, HF.out.1] at HRK
    clear hb2 hba hls hpm
    go_wp2_with fail
    refine HRK.out.mono ?_
    rintro e w3 ⟨rfl, hb3⟩
    have HB3 := Lib.hid hb3
    have HRD := Lib.hid (read_any ⟨#[40, 49]⟩ w3 (by decide))
    rw [show (⟨#[40, 49]⟩ : ByteArray).data.toList = [40, 49] from rfl, HF.out.2.2.1] at HRD
    unfold bdV at HRD
    rw [HF.out.2.2.2.1, HF.out.2.2.2.2.1, HF.out.2.2.2.2.2] at HRD
    clear hb3
    go_wp2_with fail
    refine HRD.out.mono ?_
    rintro e w4 ⟨rfl, hb4⟩
    have HB4 := Lib.hid (HB3.out.trans (hb4.mono HB3.out.size))
    obtain ⟨w5, hw5⟩ : ∃ w5, w4.alloc (.cells #[.int .i64 1, .bool true, .int .i64 0] 23) = w5 := ⟨_, rfl⟩
    have HB5 : Hid (Below w2.heap.size w2 w5) := by unfold Hid; rw [← hw5]; exact HB4.out.alloc HB4.out.size _
    have HCT := Lib.hid (fun (X : World) (hX : Below w2.heap.size w2 X) => lcount_any (HLS.out.below hX) (by decide) ⟨1, true, 0⟩ ⟨0, false, 1⟩)
    rw [HF.out.2.1] at HCT
    unfold bdV at HCT
    have HLN := Lib.hid (fun (X : World) (hX : Below w2.heap.size w2 X) => len_any (HLS.out.below hX))
    have HW5 := Lib.hid hw5
    clear hb4 hw5
    go_wp2_with fail
    rw [HW5.out]
    refine (HCT.out _ HB5.out).mono ?_
    rintro e w6 ⟨rfl, hb6⟩
    have HB6 := Lib.hid (HB5.out.trans (hb6.mono HB5.out.size))
    clear hb6
    go_wp2_with fail
    refine (HLN.out _ HB6.out).mono ?_
    rintro e w7 ⟨rfl, rfl⟩
    have HB7 : Hid (Below M w w7) := HB1.out.trans ((HB2.out.trans (HB6.out.mono HB2.out.size)).mono (by have := HS1.out; omega))
    go_wp2
    go_ret
    exact ⟨rfl, HB7.out⟩
  · exact absurd alive_each hne

end Go.Proofs.YtcbiiioglklpoaaDoor
