/-
  RingNobody: its walk. No condition.
-/
import Derived.Test.YtbecjaamheibmaaRaO
namespace Go.Proofs.Ytbecjaamheibmaa
open Go.RowKit

theorem hst_ne0 (X : World) : (binOp .neq 43 (.agg #[.int .u64 0, .int .i64 0, .int .u64 0, .int .i64 0]) (.agg #[.int .u64 0, .int .i64 0, .int .u64 0, .int .i64 0])).run Try.prog X = .ok (.bool false) X := by
  go_simp

set_option maxRecDepth 100000 in
set_option maxHeartbeats 16000000 in
theorem nobody_any {A : Option Addr} {n c : Nat} (w : World) (id o : Int) : Calls Try.prog 8 #[.slice A n c, .int .u64 id, .int .i64 o] w fun e w' => e = .returned (.bool true) ∧ Below w.heap.size w w' := by
  obtain ⟨M, hM⟩ : ∃ M, w.heap.size = M := ⟨_, rfl⟩
  obtain ⟨w2, hw2⟩ : ∃ w2, (w.alloc (.cells #[.pointer none, .int .u64 0, .int .i64 0, .int .u64 0, .int .i64 0, .int .i64 0, .int .i64 0, .slice none 0 0] 67)).alloc (.cells #[.pointer none, .pointer (some ⟨w.heap.size, 0, none⟩)] 24) = w2 := ⟨_, rfl⟩
  have hb2 : Below M w w2 := by rw [← hw2, ← hM]; exact ((Below.refl _ _).alloc (Nat.le_refl _) _).alloc (by simp) _
  have HC : Hid (∀ i, i < 2 → ∀ wr, Below w2.heap.size w2 wr → ∃ a, wr.cell? ⟨M + 1, i, none⟩ = some (.pointer a) ∧ NMade wr a) := fun i hi wr hb => by
    have hz : w2.heap.size = M + 2 := by rw [← hw2, ← hM]; simp
    have q1 : w2.cell? ⟨M, 0, none⟩ = some (.pointer none) := by
      rw [← hw2, ← hM]
      exact ((World.rowIs_alloc w #[.pointer none, .int .u64 0, .int .i64 0, .int .u64 0, .int .i64 0, .int .i64 0, .int .i64 0, .slice none 0 0] 67 (fun i => if i = 0 then .pointer none else rgV 0 ⟨0, 0, 0, 0⟩ 0 0 (.slice none 0 0) i) (fun i hi => by
        have hi : i < 8 := hi
        rcases (by omega : i = 0 ∨ i = 1 ∨ i = 2 ∨ i = 3 ∨ i = 4 ∨ i = 5 ∨ i = 6 ∨ i = 7) with rfl | rfl | rfl | rfl | rfl | rfl | rfl | rfl <;> rfl)).alloc _).cell (i := 0) (by decide)
    have q2 := World.rowIs_alloc (w.alloc (.cells #[.pointer none, .int .u64 0, .int .i64 0, .int .u64 0, .int .i64 0, .int .i64 0, .int .i64 0, .slice none 0 0] 67)) #[.pointer none, .pointer (some ⟨w.heap.size, 0, none⟩)] 24 (fun i => if i = 0 then .pointer none else .pointer (some ⟨w.heap.size, 0, none⟩)) (fun i hi => by
      have hi : i < 2 := hi
      rcases (by omega : i = 0 ∨ i = 1) with rfl | rfl <;> rfl)
    rw [hw2, show (w.alloc (.cells #[.pointer none, .int .u64 0, .int .i64 0, .int .u64 0, .int .i64 0, .int .i64 0, .int .i64 0, .slice none 0 0] 67)).heap.size = M + 1 by rw [← hM]; simp] at q2
    have q3 := q2.cell (i := i) hi
    rw [← hb.cell (p := ⟨M + 1, i, none⟩) (by rw [hz]; show M + 1 < M + 2; omega)] at q3
    rcases (by omega : i = 0 ∨ i = 1) with rfl | rfl
    · exact ⟨none, q3, Or.inl rfl⟩
    · rw [hM] at q3
      exact ⟨_, q3, Or.inr ⟨M, rfl, by have := hb.size; omega, (hb.cell (p := ⟨M, 0, none⟩) (by rw [hz]; show M < M + 2; omega)).trans q1⟩⟩
  rw [hM] at hw2
  have HW2 := Lib.hid hw2
  have HB2 := Lib.hid hb2
  have HM := Lib.hid hM
  clear hw2 hb2 hM
  go_enter Try.func8, Try.ntmps8
  go_wp2_with (first | rw [HW2.out] | rw [HM.out])
  go_loopw [22] (fun iv wr => ∃ i : Nat, iv = .int .i64 i ∧ i ≤ 2 ∧ Below w2.heap.size w2 wr) (fun iv _ => 2 - (intOf iv).toNat)
  case atStart => exact ⟨0, rfl, by omega, Below.refl _ _⟩
  case round =>
    obtain ⟨i, rfl, hi, hb⟩ := hrel
    have HB := Lib.hid hb
    by_cases hlt : i < 2
    · obtain ⟨a, ha, hnm⟩ : ∃ a, wr.cell? ⟨M + 1, i, none⟩ = some (.pointer a) ∧ NMade wr a := HC.out i hlt wr hb
      have hi0 : (0 : Int) ≤ (i : Int) := by omega
      have hi2 : (i : Int) < 2 := by omega
      have HN := Lib.hid hnm
      have HWN := Lib.hid (window_nm wr hnm)
      have HFR := Lib.hid (from_nm wr hnm o)
      have HPC := Lib.hid (pieces_nm wr hnm o 3)
      clear hb hnm
      go_wp2_with fail
      refine HFR.out.mono ?_
      rintro e w3 ⟨rfl, rfl⟩
      go_wp2_with fail
      refine HWN.out.mono ?_
      rintro e w3 ⟨rfl, rfl⟩
      go_wp2_with fail
      refine HPC.out.mono ?_
      rintro e w3 ⟨rfl, hb3⟩
      have hn3 := HN.out.below hb3
      have HB3 := Lib.hid hb3
      have HFD := Lib.hid (feed_nm w3 hn3 A n c)
      have HFK := Lib.hid (fork_nm w3 hn3 id)
      have HFL := Lib.hid (follow_nm w3 hn3 id o)
      have HAC := Lib.hid (accepts_nm w3 hn3 id o)
      have HST := Lib.hid (state_nm w3 hn3)
      have HEQ : ∀ X, (binOp .neq 43 (.agg #[.int .u64 0, .int .i64 0, .int .u64 0, .int .i64 0]) (.agg #[.int .u64 0, .int .i64 0, .int .u64 0, .int .i64 0])).run Try.prog X = .ok (.bool false) X := hst_ne0
      clear hb3 hn3
      go_wp2_with fail
      refine HFD.out.mono ?_
      rintro e w4 ⟨rfl, rfl⟩
      go_wp2_with fail
      refine HFK.out.mono ?_
      rintro e w4 ⟨rfl, rfl⟩
      go_wp2_with fail
      refine HFL.out.mono ?_
      rintro e w4 ⟨rfl, rfl⟩
      go_wp2_with fail
      refine HAC.out.mono ?_
      rintro e w4 ⟨rfl, rfl⟩
      go_wp2_with fail
      refine HST.out.mono ?_
      rintro e w4 ⟨rfl, hb4⟩
      have HB4 : Hid (Below w2.heap.size w2 w4) := below_then (below_then HB.out HB3.out) hb4
      clear hb4
      go_wp2
      go_roundw
      case rel => exact ⟨i + 1, by go_num, by omega, HB4.out⟩
      case measure => simp only [intOf]; omega
    · obtain rfl : i = 2 := by omega
      clear hb
      go_wp2_with fail
      refine (alive_any wr).mono ?_
      rintro e w5 ⟨rfl, hb5⟩
      have HE : Hid (Below M w w5) := HB2.out.trans ((below_then HB.out hb5).mono (by have := HB2.out.size; have := HM.out; omega))
      clear hb5
      go_wp2
      go_ret
      exact ⟨rfl, by rw [HM.out]; exact HE.out⟩

end Go.Proofs.Ytbecjaamheibmaa
