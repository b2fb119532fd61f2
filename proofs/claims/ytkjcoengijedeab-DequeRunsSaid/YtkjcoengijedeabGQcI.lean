/-
  Package deque's ring (values: int): the walks of what moves an end, of the ends and of the nearer one. Conditions: the ring's head lies in memory as typed; its numbers are small.
-/
import Derived.Test.YtkjcoengijedeabGQbI
import Derived.Deep.RegionLaw
import Derived.Laws.EntriesVeiled
import Derived.Deep.RegionWith
import Derived.Deep.RegionHeld3
namespace Go.Proofs.Ytkjcoengijedeab
open Go.RowKit

set_option maxRecDepth 100000 in
set_option maxHeartbeats 8000000 in
theorem back2I_any (B R : Nat) (k k2 : Nat) (by_ : Int) (w : World) (hB : w.cell? ⟨B, 0, none⟩ = some (.pointer (some ⟨R, 0, none⟩))) (c2 : w.cell? ⟨R, 2, none⟩ = some (.int .i64 k)) (f2 : w.frozen? ⟨R, 2, none⟩ = false) (hk2 : (k2 : Int) = k + by_) (hk3 : k2 ≤ 1000000) :
    Calls Try.prog 76 #[.int .i64 by_, .pointer (some ⟨B, 0, none⟩)] w fun e w' => e = .returned (.tuple #[]) ∧ w' = w.setCell ⟨R, 2, none⟩ (.int .i64 k2) := by
  have hw : IntKind.i64.wrap ((k : Int) + by_) = (k2 : Int) := by rw [IntWalk.i64_in _ (by omega)]; omega
  clear hk2
  go_enter Try.func76, Try.ntmps76
  go_wp2
  go_end0
  exact ⟨rfl, rfl⟩

set_option maxRecDepth 100000 in
set_option maxHeartbeats 8000000 in
theorem front2I_any (B R g N c f k k2 m : Nat) (by_ : Int) (w : World) (hB : w.cell? ⟨B, 0, none⟩ = some (.pointer (some ⟨R, 0, none⟩))) (c0 : w.cell? ⟨R, 0, none⟩ = some (.slice (some ⟨g, 0, none⟩) N c)) (c1 : w.cell? ⟨R, 1, none⟩ = some (.int .i64 f)) (c2 : w.cell? ⟨R, 2, none⟩ = some (.int .i64 k)) (f1 : w.frozen? ⟨R, 1, none⟩ = false) (f2 : w.frozen? ⟨R, 2, none⟩ = false)
    (hN : 0 < N) (hN2 : N ≤ 1000000) (hm : (m : Int) = f - by_ + N) (hm2 : m ≤ 100000000) (hk2 : (k2 : Int) = k + by_) (hk3 : k2 ≤ 1000000) :
    Calls Try.prog 74 #[.int .i64 by_, .pointer (some ⟨B, 0, none⟩)] w fun e w' => e = .returned (.tuple #[]) ∧ ∃ n, w' = ((w.drewN n).setCell ⟨R, 1, none⟩ (.int .i64 ((m % N : Nat) : Int))).setCell ⟨R, 2, none⟩ (.int .i64 k2) := by
  have HA := Lib.hid (fun X hX => aroundI_any R g N c ((f : Int) - by_) m X hX hN hN2 (by omega) hm2)
  have hw : IntKind.i64.wrap ((k : Int) + by_) = (k2 : Int) := by rw [IntWalk.i64_in _ (by omega)]; omega
  have hw1 : IntKind.i64.wrap ((f : Int) - by_) = (f : Int) - by_ := IntWalk.i64_in _ (by omega)
  obtain ⟨r, hr⟩ : ∃ r, m % N = r := ⟨_, rfl⟩
  rw [hr] at HA ⊢
  clear hk2 hm hr
  go_enter Try.func74, Try.ntmps74
  go_wp2_with fail
  go_region_law (go_simp; go_at_call 72; refine (HA.out _ (by first | exact c0 | go_simp)).mono ?_; rintro e w2 ⟨rfl, n, rfl⟩)
  all_goals
    go_wp2
    go_end0
    exact ⟨rfl, _, rfl⟩

set_option maxHeartbeats 4000000 in
theorem frontI_any (R : Nat) (w : World) :
    Calls Try.prog 66 #[.pointer (some ⟨R, 0, none⟩)] w fun e w' => ∃ B, e = .returned (.agg #[.func (.func 73) #[] #[.pointer (some ⟨B, 0, none⟩)], .func (.func 74) #[] #[.pointer (some ⟨B, 0, none⟩)]]) ∧ w.heap.size ≤ B ∧ w'.cell? ⟨B, 0, none⟩ = some (.pointer (some ⟨R, 0, none⟩)) ∧ Below w.heap.size w w' := by
  go_enter Try.func66, Try.ntmps66
  go_wp2
  exact bodyPost_ret (v := .agg #[.func (.func 73) #[] #[.pointer (some ⟨w.heap.size, 0, none⟩)], .func (.func 74) #[] #[.pointer (some ⟨w.heap.size, 0, none⟩)]]) (by simp [results, Try.results66, go_sem]) rfl
    ⟨w.heap.size, rfl, Nat.le_refl _, by simp [go_sem], ((Below.refl w.heap.size w).alloc (Nat.le_refl _) _).alloc (by simp) _⟩

set_option maxHeartbeats 4000000 in
theorem backI_any (R : Nat) (w : World) :
    Calls Try.prog 67 #[.pointer (some ⟨R, 0, none⟩)] w fun e w' => ∃ B, e = .returned (.agg #[.func (.func 75) #[] #[.pointer (some ⟨B, 0, none⟩)], .func (.func 76) #[] #[.pointer (some ⟨B, 0, none⟩)]]) ∧ w.heap.size ≤ B ∧ w'.cell? ⟨B, 0, none⟩ = some (.pointer (some ⟨R, 0, none⟩)) ∧ Below w.heap.size w w' := by
  go_enter Try.func67, Try.ntmps67
  go_wp2
  exact bodyPost_ret (v := .agg #[.func (.func 75) #[] #[.pointer (some ⟨w.heap.size, 0, none⟩)], .func (.func 76) #[] #[.pointer (some ⟨w.heap.size, 0, none⟩)]]) (by simp [results, Try.results67, go_sem]) rfl
    ⟨w.heap.size, rfl, Nat.le_refl _, by simp [go_sem], ((Below.refl w.heap.size w).alloc (Nat.le_refl _) _).alloc (by simp) _⟩

set_option maxHeartbeats 4000000 in
theorem nearerI_front (R : Nat) (a b : Int) (hlt : a < b) (w : World) :
    Calls Try.prog 58 #[.pointer (some ⟨R, 0, none⟩), .int .i64 a, .int .i64 b] w fun e w' => ∃ B, e = .returned (.tuple #[.agg #[.func (.func 73) #[] #[.pointer (some ⟨B, 0, none⟩)], .func (.func 74) #[] #[.pointer (some ⟨B, 0, none⟩)]], .int .i64 a]) ∧ w.heap.size ≤ B ∧ w'.cell? ⟨B, 0, none⟩ = some (.pointer (some ⟨R, 0, none⟩)) ∧ Below w.heap.size w w' := by
  have HF := Lib.hid (fun X => frontI_any R X)
  go_enter Try.func58, Try.ntmps58
  go_wp2_with fail
  refine (HF.out _).mono ?_
  rintro e w2 ⟨B, rfl, hBs, hB, hb⟩
  have hz : w.heap.size < w2.heap.size := by have := hb.size; simp at this; omega
  have hblk : w2.heap[w.heap.size]? = some (.cells #[.nilFunc, .nilFunc] 91 (0, 0)) := (hb.block _ (by simp)).trans (heap_alloc_new w _)
  have g0 : w2.cell? ⟨w.heap.size, 0, none⟩ = some .nilFunc := by simp [World.cell?, hblk]
  have g1 : w2.cell? ⟨w.heap.size, 1, none⟩ = some .nilFunc := by simp [World.cell?, hblk]
  have k0 : w2.frozen? ⟨w.heap.size, 0, none⟩ = false := by simp [World.frozen?, hblk]
  have k1 : w2.frozen? ⟨w.heap.size, 1, none⟩ = false := by simp [World.frozen?, hblk]
  have HB := Lib.hid hB
  have HBB := Lib.hid (((Below.refl w.heap.size w).alloc (Nat.le_refl _) (.cells #[.nilFunc, .nilFunc] 91)).trans (hb.mono (by simp)))
  have HBS : Hid (w.heap.size < B) := by unfold Hid; simp at hBs; omega
  clear hB hb hBs hblk hz
  obtain ⟨M, hM⟩ : ∃ M, w.heap.size = M := ⟨_, rfl⟩
  rw [hM] at g0 g1 k0 k1 HBB HBS ⊢
  have HM := Lib.hid hM
  obtain ⟨w3, hw3⟩ : ∃ w3, (w2.setCell ⟨M, 0, none⟩ (.func (.func 73) #[] #[.pointer (some ⟨B, 0, none⟩)])).setCell ⟨M, 1, none⟩ (.func (.func 74) #[] #[.pointer (some ⟨B, 0, none⟩)]) = w3 := ⟨_, rfl⟩
  have h0 : w3.cell? ⟨M, 0, none⟩ = some (.func (.func 73) #[] #[.pointer (some ⟨B, 0, none⟩)]) := by
    rw [← hw3, World.cell?_setCell_other _ _ _ _ (fun e => by injection e with _ e; cases e)]
    exact World.cell?_setCell_same' _ _ _ (by rw [g0]; rfl)
  have h1 : w3.cell? ⟨M, 1, none⟩ = some (.func (.func 74) #[] #[.pointer (some ⟨B, 0, none⟩)]) := by
    rw [← hw3]
    exact World.cell?_setCell_same' _ _ _ (by rw [World.cell?_setCell_other _ _ _ _ (fun e => by injection e with _ e; cases e), g1]; rfl)
  have HB3 : Hid (w3.cell? ⟨B, 0, none⟩ = some (.pointer (some ⟨R, 0, none⟩))) := by
    unfold Hid
    have hne : M ≠ B := by have := HBS.out; omega
    rw [← hw3, World.cell?_setCell_other _ _ _ _ (fun e => hne (by injection e)), World.cell?_setCell_other _ _ _ _ (fun e => hne (by injection e))]
    exact HB.out
  have HBB3 : Hid (Below M w w3) := by unfold Hid; rw [← hw3]; exact (HBB.out.setCell (p := ⟨M, 0, none⟩) (Nat.le_refl _) _).setCell (p := ⟨M, 1, none⟩) (Nat.le_refl _) _
  have HW3 := Lib.hid hw3
  clear hM hw3
  go_wp2
  rw [HW3.out]
  exact bodyPost_ret (v := .tuple #[.agg #[.func (.func 73) #[] #[.pointer (some ⟨B, 0, none⟩)], .func (.func 74) #[] #[.pointer (some ⟨B, 0, none⟩)]], .int .i64 a]) (by simp [results, Try.results58, go_sem, h0, h1]) rfl
    ⟨B, rfl, by rw [HM.out]; exact Nat.le_of_lt HBS.out, HB3.out, by rw [HM.out]; exact HBB3.out⟩

set_option maxHeartbeats 4000000 in
theorem nearerI_back (R : Nat) (a b : Int) (hlt : ¬ a < b) (w : World) :
    Calls Try.prog 58 #[.pointer (some ⟨R, 0, none⟩), .int .i64 a, .int .i64 b] w fun e w' => ∃ B, e = .returned (.tuple #[.agg #[.func (.func 75) #[] #[.pointer (some ⟨B, 0, none⟩)], .func (.func 76) #[] #[.pointer (some ⟨B, 0, none⟩)]], .int .i64 b]) ∧ w.heap.size ≤ B ∧ w'.cell? ⟨B, 0, none⟩ = some (.pointer (some ⟨R, 0, none⟩)) ∧ Below w.heap.size w w' := by
  have HF := Lib.hid (fun X => backI_any R X)
  go_enter Try.func58, Try.ntmps58
  go_wp2_with fail
  refine (HF.out _).mono ?_
  rintro e w2 ⟨B, rfl, hBs, hB, hb⟩
  have hz : w.heap.size < w2.heap.size := by have := hb.size; simp at this; omega
  have hblk : w2.heap[w.heap.size]? = some (.cells #[.nilFunc, .nilFunc] 91 (0, 0)) := (hb.block _ (by simp)).trans (heap_alloc_new w _)
  have g0 : w2.cell? ⟨w.heap.size, 0, none⟩ = some .nilFunc := by simp [World.cell?, hblk]
  have g1 : w2.cell? ⟨w.heap.size, 1, none⟩ = some .nilFunc := by simp [World.cell?, hblk]
  have k0 : w2.frozen? ⟨w.heap.size, 0, none⟩ = false := by simp [World.frozen?, hblk]
  have k1 : w2.frozen? ⟨w.heap.size, 1, none⟩ = false := by simp [World.frozen?, hblk]
  have HB := Lib.hid hB
  have HBB := Lib.hid (((Below.refl w.heap.size w).alloc (Nat.le_refl _) (.cells #[.nilFunc, .nilFunc] 91)).trans (hb.mono (by simp)))
  have HBS : Hid (w.heap.size < B) := by unfold Hid; simp at hBs; omega
  clear hB hb hBs hblk hz
  obtain ⟨M, hM⟩ : ∃ M, w.heap.size = M := ⟨_, rfl⟩
  rw [hM] at g0 g1 k0 k1 HBB HBS ⊢
  have HM := Lib.hid hM
  obtain ⟨w3, hw3⟩ : ∃ w3, (w2.setCell ⟨M, 0, none⟩ (.func (.func 75) #[] #[.pointer (some ⟨B, 0, none⟩)])).setCell ⟨M, 1, none⟩ (.func (.func 76) #[] #[.pointer (some ⟨B, 0, none⟩)]) = w3 := ⟨_, rfl⟩
  have h0 : w3.cell? ⟨M, 0, none⟩ = some (.func (.func 75) #[] #[.pointer (some ⟨B, 0, none⟩)]) := by
    rw [← hw3, World.cell?_setCell_other _ _ _ _ (fun e => by injection e with _ e; cases e)]
    exact World.cell?_setCell_same' _ _ _ (by rw [g0]; rfl)
  have h1 : w3.cell? ⟨M, 1, none⟩ = some (.func (.func 76) #[] #[.pointer (some ⟨B, 0, none⟩)]) := by
    rw [← hw3]
    exact World.cell?_setCell_same' _ _ _ (by rw [World.cell?_setCell_other _ _ _ _ (fun e => by injection e with _ e; cases e), g1]; rfl)
  have HB3 : Hid (w3.cell? ⟨B, 0, none⟩ = some (.pointer (some ⟨R, 0, none⟩))) := by
    unfold Hid
    have hne : M ≠ B := by have := HBS.out; omega
    rw [← hw3, World.cell?_setCell_other _ _ _ _ (fun e => hne (by injection e)), World.cell?_setCell_other _ _ _ _ (fun e => hne (by injection e))]
    exact HB.out
  have HBB3 : Hid (Below M w w3) := by unfold Hid; rw [← hw3]; exact (HBB.out.setCell (p := ⟨M, 0, none⟩) (Nat.le_refl _) _).setCell (p := ⟨M, 1, none⟩) (Nat.le_refl _) _
  have HW3 := Lib.hid hw3
  clear hM hw3
  go_wp2
  rw [HW3.out]
  exact bodyPost_ret (v := .tuple #[.agg #[.func (.func 75) #[] #[.pointer (some ⟨B, 0, none⟩)], .func (.func 76) #[] #[.pointer (some ⟨B, 0, none⟩)]], .int .i64 b]) (by simp [results, Try.results58, go_sem, h0, h1]) rfl
    ⟨B, rfl, by rw [HM.out]; exact Nat.le_of_lt HBS.out, HB3.out, by rw [HM.out]; exact HBB3.out⟩

end Go.Proofs.Ytkjcoengijedeab
