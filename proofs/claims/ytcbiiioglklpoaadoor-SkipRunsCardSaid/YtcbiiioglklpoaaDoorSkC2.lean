/-
  Package skip: copied, listOf, isMade, read, Len, Rank, Count of a list that a call made. Conditions: the list stands.
-/
import Derived.Test.YtcbiiioglklpoaaDoorSkC1
import Derived.Test.YtcbiiioglklpoaaDoorTbC
namespace Go.Proofs.YtcbiiioglklpoaaDoor
open Go.RowKit

set_option maxRecDepth 100000 in
set_option maxHeartbeats 4000000 in
theorem copied_any (SM : ByteArray) (MN : Int) (w : World) (hK : SM.size ≤ 140737488355328) :
    Calls Tryd.prog 45 #[.agg #[.string SM, .int .i64 MN]] w fun e w' => e = .returned (.agg #[.string SM, .int .i64 MN]) ∧ Below w.heap.size w w' := by
  have HC := Lib.hid (fun W => clone_any SM W hK)
  obtain ⟨M, hM⟩ : ∃ M, w.heap.size = M := ⟨_, rfl⟩
  obtain ⟨w2, hw2⟩ : ∃ w2, (w.alloc (.cells #[.string SM, .int .i64 MN] 47)).alloc (.cells #[.string ⟨#[]⟩, .int .i64 0] 47) = w2 := ⟨_, rfl⟩
  have r1 : w2.rowIs M 47 2 (sF SM MN) := by rw [← hw2, ← hM]; exact (rows2 (w := w) (t := 47) (.string SM) (.int .i64 MN) (sF SM MN) rfl rfl).alloc _
  have r2 : w2.rowIs (M + 1) 47 2 (sF ⟨#[]⟩ 0) := by
    rw [← hw2, ← hM]
    have q := rows2 (w := w.alloc (.cells #[.string SM, .int .i64 MN] 47)) (t := 47) (.string ⟨#[]⟩) (.int .i64 0) (sF ⟨#[]⟩ 0) rfl rfl
    have e : (w.alloc (.cells #[.string SM, .int .i64 MN] 47)).heap.size = w.heap.size + 1 := by simp
    rw [e] at q
    exact q
  have b2 : Below M w w2 := by rw [← hw2, ← hM]; exact ((Below.refl _ _).alloc (Nat.le_refl _) _).alloc (by simp) _
  have R1 := Lib.hid (fun (X : World) (hX : Below w2.heap.size w2 X) => r1.of_block (hX.block M r1.lt))
  have R2 := Lib.hid (fun (X : World) (hX : Below w2.heap.size w2 X) => r2.of_block (hX.block (M + 1) r2.lt))
  have B2 := Lib.hid (fun (X : World) (hX : Below w2.heap.size w2 X) => b2.trans (hX.mono (by have := b2.size; omega)))
  have HW2 := Lib.hid hw2
  have x0 := r1.cell (i := 0) (by omega)
  have x1 := r1.cell (i := 1) (by omega)
  rw [show sF SM MN 0 = .string SM from rfl] at x0
  rw [show sF SM MN 1 = .int .i64 MN from rfl] at x1
  have M2 : M + 2 ≤ w2.heap.size := r2.lt
  clear r1 r2 b2 hw2
  rw [hM]
  go_enter Tryd.func45, Tryd.ntmps45
  go_wp2_with fail
  rw [HW2.out]
  go_region_with (go_at_call 64; refine (HC.out _).mono ?_; rintro en w4 ⟨rfl, hb4⟩; have hc4 : Below w2.heap.size w2 w4 := (by first | exact hb4 | exact (Below.refl w2.heap.size w2).drew.trans hb4); have y1 := (R1.out w4 hc4).cell (i := 1) (by omega); rw [show sF SM MN 1 = .int .i64 MN from rfl] at y1; have z0 := (R2.out w4 hc4).cell (i := 0) (by omega); have z1 := (R2.out w4 hc4).cell (i := 1) (by omega); have fz0 := (R2.out w4 hc4).frozen 0; have fz1 := (R2.out w4 hc4).frozen 1; have HC4 := Lib.hid hc4; clear hb4 hc4)
  all_goals
    go_wp2
    exact bodyPost_ret (v := .agg #[.string SM, .int .i64 MN]) (by simp [results, Tryd.results45, go_sem, z0, z1]) rfl ⟨rfl, by
      repeat first | exact B2.out _ HC4.out | refine Below.drew ?_ | refine Below.setCell ?_ (by dsimp only; omega) _⟩

end Go.Proofs.YtcbiiioglklpoaaDoor
