/-
  Package ring's last bytes: the walks of count and place. Conditions: the numbers lie in memory as typed.
-/
import Derived.Test.YtbecjaamheibmaaRgM
import Derived.IntWalk
import Derived.Deep.QuietTactic
import Derived.BigQuiet
import Derived.StillTailTactics
namespace Go.Proofs.Ytbecjaamheibmaa
open Go.RowKit

set_option maxRecDepth 100000 in
set_option maxHeartbeats 4000000 in
theorem count_any (p s al : Nat) (w : World) (c5 : w.cell? ⟨p, 5, none⟩ = some (.int .i64 s)) (c6 : w.cell? ⟨p, 6, none⟩ = some (.int .i64 al)) :
    Calls Try.prog 33 #[.pointer (some ⟨p, 5, none⟩)] w fun e w' => e = .returned (.int .i64 ((min al s : Nat) : Int)) ∧ ∃ n, w' = w.drewN n := by
  obtain ⟨k, hk⟩ : ∃ k, min al s = k := ⟨_, rfl⟩
  rw [hk]
  by_cases h : al ≤ s
  · obtain rfl : al = k := by omega
    have h1 : (al : Int) ≤ (s : Int) := by omega
    clear hk
    go_enter Try.func33, Try.ntmps33
    go_wp2_with fail
    go_quiet (fail)
    go_wp2
    go_ret
    exact ⟨rfl, _, rfl⟩
  · obtain rfl : s = k := by omega
    have h1 : (s : Int) < (al : Int) := by omega
    have h2 : ¬ (al : Int) ≤ (s : Int) := by omega
    clear hk h
    go_enter Try.func33, Try.ntmps33
    go_wp2_with fail
    go_quiet (fail)
    go_wp2
    go_ret
    exact ⟨rfl, _, rfl⟩

set_option maxRecDepth 100000 in
set_option maxHeartbeats 4000000 in
theorem place_any (p s al n q : Nat) (w : World) (c5 : w.cell? ⟨p, 5, none⟩ = some (.int .i64 s)) (c6 : w.cell? ⟨p, 6, none⟩ = some (.int .i64 al)) (hs : 0 < s) (hs2 : s ≤ 16777216) (hn : n ≤ al) (ha : al ≤ 2251799813685248) (hq : q = (al - n) % s) :
    Calls Try.prog 41 #[.pointer (some ⟨p, 5, none⟩), .int .i64 n] w fun e w' => e = .returned (.int .i64 q) ∧ ∃ n, w' = w.drewN n := by
  obtain ⟨d, hd⟩ : ∃ d, al - n = d := ⟨_, rfl⟩
  rw [hd] at hq
  have hqs : q < s := by rw [hq]; exact Nat.mod_lt _ hs
  have hw : IntKind.i64.wrap ((al : Int) - (n : Int)) = (d : Int) := by rw [IntWalk.i64_in _ (by omega)]; omega
  have ht : Int.tmod (d : Int) (s : Int) = (q : Int) := by rw [hq]; rfl
  have hwr : IntKind.i64.wrap (q : Int) = (q : Int) := IntWalk.i64_in _ (by omega)
  have hne : ¬ (s : Int) = 0 := by omega
  have hneb : ((s : Int) == 0) = false := by simpa using hne
  clear hq hd hn ha
  go_enter Try.func41, Try.ntmps41
  go_wp2_with fail
  go_quiet (fail)
  go_wp2
  go_ret
  exact ⟨rfl, _, rfl⟩

end Go.Proofs.Ytbecjaamheibmaa
