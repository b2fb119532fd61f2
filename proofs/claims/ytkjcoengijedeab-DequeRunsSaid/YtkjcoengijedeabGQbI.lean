/-
  Package deque's ring (values: int): the walks of around, slot and of the ends' closures. Conditions: the ring's head lies in memory as typed; its numbers are small.
-/
import Derived.Test.YtkjcoengijedeabDqM
import Derived.WalkKit
import Derived.Lib.Hide
import Derived.IntWalk
import Derived.Deep.QuietTactic
import Derived.BigQuiet
import Derived.StillTailTactics
import Derived.Below
import Derived.Outline
namespace Go.Proofs.Ytkjcoengijedeab
open Go.RowKit

set_option maxRecDepth 100000 in
set_option maxHeartbeats 8000000 in
theorem aroundI_any (R g N c : Nat) (i : Int) (m : Nat) (w : World) (c0 : w.cell? ⟨R, 0, none⟩ = some (.slice (some ⟨g, 0, none⟩) N c)) (hN : 0 < N) (hN2 : N ≤ 1000000) (hm : (m : Int) = i + N) (hm2 : m ≤ 100000000) :
    Calls Try.prog 72 #[.pointer (some ⟨R, 0, none⟩), .int .i64 i] w fun e w' => e = .returned (.int .i64 ((m % N : Nat) : Int)) ∧ ∃ n, w' = w.drewN n := by
  have hlt := Nat.mod_lt m hN
  obtain ⟨r, hr⟩ : ∃ r, m % N = r := ⟨_, rfl⟩
  have ht : Int.tmod (m : Int) (N : Int) = (r : Int) := by rw [← hr]; rfl
  have hw : IntKind.i64.wrap (i + (N : Int)) = (m : Int) := by rw [IntWalk.i64_in _ (by omega)]; omega
  have hwr : IntKind.i64.wrap (r : Int) = (r : Int) := IntWalk.i64_in _ (by omega)
  have hne : ¬ (N : Int) = 0 := by omega
  have hneb : ((N : Int) == 0) = false := by simpa using hne
  rw [hr]
  clear hr hm hlt
  go_enter Try.func72, Try.ntmps72
  go_wp2_with fail
  go_quiet (fail)
  go_wp2
  go_ret
  exact ⟨rfl, _, rfl⟩

set_option maxRecDepth 100000 in
set_option maxHeartbeats 8000000 in
theorem slotI_any (R g N c f place : Nat) (w : World) (c0 : w.cell? ⟨R, 0, none⟩ = some (.slice (some ⟨g, 0, none⟩) N c)) (c1 : w.cell? ⟨R, 1, none⟩ = some (.int .i64 f)) (hN : 0 < N) (hN2 : N ≤ 1000000) (hf : f ≤ 1000000) (hp : place ≤ 1000000) :
    Calls Try.prog 65 #[.pointer (some ⟨R, 0, none⟩), .int .i64 place] w fun e w' => e = .returned (.pointer (some ⟨g, rp f N place, none⟩)) ∧ ∃ n, w' = w.drewN n := by
  have hr : (f + place + N) % N = rp f N place := by unfold rp; rw [Nat.add_mod_right]
  have hlt : rp f N place < N := Nat.mod_lt _ hN
  have HA := Lib.hid (fun nq => aroundI_any R g N c ((f : Int) + (place : Int)) (f + place + N) (w.drewN nq) c0 hN hN2 (by omega) (by omega))
  rw [hr] at HA
  have hw : IntKind.i64.wrap ((f : Int) + (place : Int)) = (f : Int) + (place : Int) := IntWalk.i64_in _ (by omega)
  obtain ⟨r, hr2⟩ : ∃ r, rp f N place = r := ⟨_, rfl⟩
  rw [hr2] at HA hlt ⊢
  have hlt1 : (r : Int) < (N : Int) := by omega
  have hlt2 : ¬ (r : Int) < 0 := by omega
  clear hr hr2 hp
  go_enter Try.func65, Try.ntmps65
  go_wp2_with fail
  go_quiet ((go_at_call 72; exact Calls.quiet_of (HA.out _)))
  go_wp2
  go_ret
  exact ⟨by simp, _, rfl⟩

set_option maxRecDepth 100000 in
set_option maxHeartbeats 8000000 in
theorem front1I_any (B R g N c f place : Nat) (w : World) (hB : w.cell? ⟨B, 0, none⟩ = some (.pointer (some ⟨R, 0, none⟩))) (c0 : w.cell? ⟨R, 0, none⟩ = some (.slice (some ⟨g, 0, none⟩) N c)) (c1 : w.cell? ⟨R, 1, none⟩ = some (.int .i64 f)) (hN : 0 < N) (hN2 : N ≤ 1000000) (hf : f ≤ 1000000) (hp : place ≤ 1000000) :
    Calls Try.prog 73 #[.int .i64 place, .pointer (some ⟨B, 0, none⟩)] w fun e w' => e = .returned (.pointer (some ⟨g, rp f N place, none⟩)) ∧ ∃ n, w' = w.drewN n := by
  have HA := Lib.hid (fun nq => slotI_any R g N c f place (w.drewN nq) c0 c1 hN hN2 hf hp)
  clear c0 c1
  go_enter Try.func73, Try.ntmps73
  go_wp2_with fail
  refine (HA.out 0).mono ?_
  rintro e w2 ⟨rfl, n, rfl⟩
  go_wp2
  go_ret
  exact ⟨rfl, n, rfl⟩

set_option maxRecDepth 100000 in
set_option maxHeartbeats 8000000 in
theorem back1I_any (B R g N c f k place : Nat) (w : World) (hB : w.cell? ⟨B, 0, none⟩ = some (.pointer (some ⟨R, 0, none⟩))) (c0 : w.cell? ⟨R, 0, none⟩ = some (.slice (some ⟨g, 0, none⟩) N c)) (c1 : w.cell? ⟨R, 1, none⟩ = some (.int .i64 f)) (c2 : w.cell? ⟨R, 2, none⟩ = some (.int .i64 k)) (hN : 0 < N) (hN2 : N ≤ 1000000) (hf : f ≤ 1000000) (hk : k ≤ 1000000) (hp : place < k) :
    Calls Try.prog 75 #[.int .i64 place, .pointer (some ⟨B, 0, none⟩)] w fun e w' => e = .returned (.pointer (some ⟨g, rp f N (k - 1 - place), none⟩)) ∧ ∃ n, w' = w.drewN n := by
  have HA := Lib.hid (fun nq => slotI_any R g N c f (k - 1 - place) (w.drewN nq) c0 c1 hN hN2 hf (by omega))
  have hw : IntKind.i64.wrap ((k : Int) - 1) = (k : Int) - 1 := IntWalk.i64_in _ (by omega)
  have hw2 : IntKind.i64.wrap ((k : Int) - 1 - (place : Int)) = ((k - 1 - place : Nat) : Int) := by rw [IntWalk.i64_in _ (by omega)]; omega
  obtain ⟨q, hq⟩ : ∃ q, k - 1 - place = q := ⟨_, rfl⟩
  rw [hq] at HA hw2 ⊢
  clear c0 c1 hq hp
  go_enter Try.func75, Try.ntmps75
  go_wp2_with fail
  go_quiet ((go_at_call 65; exact Calls.quiet_of (HA.out _)))
  go_wp2
  go_ret
  exact ⟨rfl, _, rfl⟩

end Go.Proofs.Ytkjcoengijedeab
