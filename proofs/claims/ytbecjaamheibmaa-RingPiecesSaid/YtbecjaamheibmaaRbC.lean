/-
  The statements' cut: its walk. Condition: the slice reads as some bytes.
-/
import Derived.Test.YtbecjaamheibmaaRaA
namespace Go.Proofs.Ytbecjaamheibmaa
open Go.RowKit

/-- What cut hands back. -/
def CutTo (w : World) (A : Option Addr) (n c : Nat) (l : Tx) (m : Nat) : Prop := m ≤ 500 ∧ m ≤ n ∧ ByAt w A m c (l.take 500) ∧ ∀ X, Calls Try.prog 25 #[.slice A n c] X fun e w' => e = .returned (.slice A m c) ∧ X = w'

set_option maxRecDepth 100000 in
set_option maxHeartbeats 4000000 in
theorem cut_any {w : World} {A : Option Addr} {n c : Nat} {l : Tx} (hb : ByAt w A n c l) : ∃ m, CutTo w A n c l m := by
  have hle := hb.le
  have hmx := hb.max
  by_cases h : 500 < n
  · refine ⟨500, Nat.le_refl _, by omega, hb.first (m := 500) (by omega), fun X => ?_⟩
    have h1 : (500 : Int) < (n : Int) := by omega
    have h2 : (500 : Int) ≤ (c : Int) := by omega
    clear hb
    go_enter Try.func25, Try.ntmps25
    go_wp2
    go_ret
    exact ⟨rfl, rfl⟩
  · refine ⟨n, by omega, Nat.le_refl _, by rw [List.take_of_length_le (by rw [hb.len]; omega)]; exact hb, fun X => ?_⟩
    have h1 : decide ((500 : Int) < (n : Int)) = false := by simp; omega
    have h2 : ¬ (500 : Int) < (n : Int) := by omega
    clear hb
    go_enter Try.func25, Try.ntmps25
    go_wp2
    go_ret
    exact ⟨rfl, rfl⟩

end Go.Proofs.Ytbecjaamheibmaa
