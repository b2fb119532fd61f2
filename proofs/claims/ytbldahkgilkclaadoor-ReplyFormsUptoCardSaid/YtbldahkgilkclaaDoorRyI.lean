/-
  The walks of what package reply reads byte by byte, where the bytes end too early: next, take. Conditions: what is left lies in memory as a slice that reads as its bytes.
-/
import Derived.Test.YtbldahkgilkclaaDoorRyD
namespace Go.Proofs.YtbldahkgilkclaaDoor
open Go.RowKit

/-- What reading panics with. -/
def faultR (f : Int) : Value := .iface 64 (.int .i64 f)
def ThrownR (f : Int) (e : Ending) : Prop := e = .panicked [{ v := faultR f, recovered := false }]

set_option maxRecDepth 100000 in
set_option maxHeartbeats 1000000 in
theorem ynext_end (B b : Nat) (v : Value) (w : World) (hc : w.cell? ⟨B, 0, none⟩ = some v) (hl : LeftV w b v []) :
    Calls Tryd.prog 37 #[.pointer (some ⟨B, 0, none⟩)] w fun e w' => ThrownR 31 e ∧ w = w' := by
  obtain ⟨o, cap, rfl, h1, h2, h3⟩ := hl
  rw [List.length_nil] at hc
  clear h3
  go_enter Tryd.func37, Tryd.ntmps37
  go_wp2
  exact ⟨rfl, rfl, rfl⟩

set_option maxRecDepth 100000 in
set_option maxHeartbeats 2000000 in
theorem ytake_short (B b : Nat) (n : Nat) (v : Value) (l : List UInt8) (w : World) (hB : B < w.heap.size) (hc : w.cell? ⟨B, 0, none⟩ = some v) (hf : w.frozen? ⟨B, 0, none⟩ = false) (hl : LeftV w b v l) (hn : l.length < n) (hn63 : n ≤ 9223372036854775807) :
    Calls Tryd.prog 39 #[.pointer (some ⟨B, 0, none⟩), .int .i64 n] w fun e w' => ThrownR 31 e ∧ ∃ v', LeftV w b v' [] ∧ Put w ⟨B, 0, none⟩ v' w' := by
  obtain ⟨o, cap, rfl, h1, h2, h3⟩ := hl
  have H3 := Lib.hid h3
  clear h3
  have hmin : min (n : Int) (l.length : Int) = (l.length : Int) := by omega
  have hdrop : l.drop l.length = [] := List.drop_eq_nil_of_le (Nat.le_refl _)
  rcases Nat.lt_or_ge l.length cap with hnc | hnc
  · go_enter Tryd.func39, Tryd.ntmps39
    go_wp2
    go_region
    all_goals
      go_wp2
      exact ⟨rfl, rfl, _, leftv (l := []) (bytes_nil _ _ _) rfl (by simp) (by omega), Put.after (Below.refl _ _).drew (Put.set _ _ hB) hB⟩
  · obtain rfl : l.length = cap := by omega
    go_enter Tryd.func39, Tryd.ntmps39
    go_wp2
    go_region
    all_goals
      go_wp2
      exact ⟨rfl, rfl, _, leftv (l := []) (bytes_nil _ _ _) rfl (by simp) (by omega), Put.after (Below.refl _ _).drew (Put.set _ _ hB) hB⟩

end Go.Proofs.YtbldahkgilkclaaDoor
