/-
  Package deque (values: int): the walks of Len, has, At, Insert and Remove. Conditions: the row lies in memory as it reads.
-/
import Derived.Test.YtkjcoengijedeabGQhI
namespace Go.Proofs.Ytkjcoengijedeab
open Go.RowKit

set_option maxRecDepth 100000 in
set_option maxHeartbeats 8000000 in
theorem lenI_nil (w : World) : Calls Try.prog 17 #[.pointer none] w fun e w' => e = .returned (.int .i64 0) ∧ w' = w := by
  go_enter Try.func17, Try.ntmps17
  go_wp2
  go_ret
  exact ⟨rfl, rfl⟩

set_option maxRecDepth 100000 in
set_option maxHeartbeats 8000000 in
theorem lenI_any {base D M : Nat} {F : Nat → Prop} {L : List Int} (w : World) (h : DqOn KDI w base F D M L) :
    Calls Try.prog 17 #[.pointer (some ⟨D, 0, none⟩)] w fun e w' => e = .returned (.int .i64 L.length) ∧ w' = w := by
  obtain ⟨_, _, ⟨hd, rfl⟩ | ⟨R, g, N, c, f, S, hd, _, _, _, hr⟩⟩ := h
  · have c0 := hd.cell (i := 0) (by omega)
    go_enter Try.func17, Try.ntmps17
    go_wp2
    go_ret
    exact ⟨rfl, rfl⟩
  · have c0 := hd.cell (i := 0) (by omega)
    have c2 : w.cell? ⟨R, 2, none⟩ = some (.int .i64 L.length) := hr.hd.cell (i := 2) (by omega)
    clear hd hr
    go_enter Try.func17, Try.ntmps17
    go_wp2
    go_ret
    exact ⟨rfl, rfl⟩

set_option maxRecDepth 100000 in
set_option maxHeartbeats 8000000 in
/-- What has tells: in what it is said of a place. -/
theorem hasI_nil (i : Int) (w : World) : Calls Try.prog 48 #[.pointer none, .int .i64 i] w fun e w' => e = .returned (.bool false) ∧ w' = w := by
  have HL := Lib.hid (lenI_nil w)
  by_cases h0 : (0 : Int) ≤ i
  · have h1 : decide (i < 0) = false := decide_eq_false (by omega)
    go_enter Try.func48, Try.ntmps48
    go_wp2_with fail
    refine HL.out.mono ?_
    rintro e w2 ⟨rfl, rfl⟩
    go_wp2
    go_ret
    exact ⟨rfl, rfl⟩
  · have h1 : i < 0 := by omega
    go_enter Try.func48, Try.ntmps48
    go_wp2_with fail
    go_ret
    exact ⟨rfl, rfl⟩

set_option maxRecDepth 100000 in
set_option maxHeartbeats 8000000 in
theorem hasI_yes {base D M : Nat} {F : Nat → Prop} {L : List Int} (w : World) (h : DqOn KDI w base F D M L) (i : Int) (h0 : 0 ≤ i) (hi : i < L.length) :
    Calls Try.prog 48 #[.pointer (some ⟨D, 0, none⟩), .int .i64 i] w fun e w' => e = .returned (.bool true) ∧ w' = w := by
  have HL := Lib.hid (lenI_any w h)
  obtain ⟨k, hk⟩ : ∃ k, L.length = k := ⟨_, rfl⟩
  rw [hk] at HL hi
  clear h hk
  go_enter Try.func48, Try.ntmps48
  go_wp2_with fail
  refine HL.out.mono ?_
  rintro e w2 ⟨rfl, rfl⟩
  go_wp2
  go_ret
  exact ⟨rfl, rfl⟩

set_option maxRecDepth 100000 in
set_option maxHeartbeats 8000000 in
theorem hasI_no {base D M : Nat} {F : Nat → Prop} {L : List Int} (w : World) (h : DqOn KDI w base F D M L) (i : Int) (hi : ¬ (0 ≤ i ∧ i < L.length)) :
    Calls Try.prog 48 #[.pointer (some ⟨D, 0, none⟩), .int .i64 i] w fun e w' => e = .returned (.bool false) ∧ w' = w := by
  have HL := Lib.hid (lenI_any w h)
  obtain ⟨k, hk⟩ : ∃ k, L.length = k := ⟨_, rfl⟩
  rw [hk] at HL hi
  clear h hk
  by_cases h0 : (0 : Int) ≤ i
  · have h1 : decide (i < (k : Int)) = false := decide_eq_false (fun e => hi ⟨h0, e⟩)
    clear hi
    go_enter Try.func48, Try.ntmps48
    go_wp2_with fail
    refine HL.out.mono ?_
    rintro e w2 ⟨rfl, rfl⟩
    go_wp2
    go_ret
    exact ⟨rfl, rfl⟩
  · clear hi
    go_enter Try.func48, Try.ntmps48
    go_wp2_with fail
    go_ret
    exact ⟨rfl, rfl⟩

set_option maxRecDepth 100000 in
set_option maxHeartbeats 8000000 in
theorem atI_nil (i : Int) (w : World) : Calls Try.prog 61 #[.pointer none, .int .i64 i] w fun e w' => e = .returned (.tuple #[.int .i64 0, .int .i64 5]) ∧ w' = w := by
  have HL := Lib.hid (hasI_nil i w)
  go_enter Try.func61, Try.ntmps61
  go_wp2_with fail
  refine HL.out.mono ?_
  rintro e w2 ⟨rfl, rfl⟩
  go_wp2
  go_ret2
  exact ⟨rfl, rfl⟩

set_option maxRecDepth 100000 in
set_option maxHeartbeats 8000000 in
theorem atI_no {base D M : Nat} {F : Nat → Prop} {L : List Int} (w : World) (h : DqOn KDI w base F D M L) (i : Int) (hi : ¬ (0 ≤ i ∧ i < L.length)) :
    Calls Try.prog 61 #[.pointer (some ⟨D, 0, none⟩), .int .i64 i] w fun e w' => e = .returned (.tuple #[.int .i64 0, .int .i64 5]) ∧ w' = w := by
  have HL := Lib.hid (hasI_no w h i hi)
  clear h hi
  go_enter Try.func61, Try.ntmps61
  go_wp2_with fail
  refine HL.out.mono ?_
  rintro e w2 ⟨rfl, rfl⟩
  go_wp2
  go_ret2
  exact ⟨rfl, rfl⟩

set_option maxRecDepth 100000 in
set_option maxHeartbeats 8000000 in
theorem atI_yes {base D M i : Nat} {F : Nat → Prop} {L : List Int} {v : Int} (w : World) (h : DqOn KDI w base F D M L) (hM : M ≤ 400000) (hv : L[i]? = some v) :
    Calls Try.prog 61 #[.pointer (some ⟨D, 0, none⟩), .int .i64 i] w fun e w' => e = .returned (.tuple #[(Value.int .i64) v, .int .i64 0]) ∧ Below w.heap.size w w' := by
  have hi := lt_of_some hv
  have HL := Lib.hid (hasI_yes w h (i : Int) (by omega) (by omega))
  obtain ⟨_, _, ⟨_, rfl⟩ | ⟨R, g, N, c, f, S, hd, _, _, hNM, hr⟩⟩ := h
  · simp at hi
  · have hl := hr.len
    have hN : 0 < N := by omega
    have HSL := Lib.hid (slotI_any R g N c f i w (by rw [← slV_pos hN]; exact hr.hd.cell (i := 0) (by omega)) (hr.hd.cell (i := 1) (by omega)) hN (by omega) (by have := hr.fst; omega) (by omega))
    have c0 := hd.cell (i := 0) (by omega)
    have ec := (hr.row hN).cell (Nat.lt_of_lt_of_le (rp_lt (f := f) hN i) hr.le)
    rw [hr.vals i v hv] at ec
    obtain ⟨p, hp⟩ : ∃ p, rp f N i = p := ⟨_, rfl⟩
    rw [hp] at HSL ec
    replace ec : w.cell? ⟨g, p, none⟩ = some ((Value.int .i64) v) := ec
    clear hd hr hp hv
    go_enter Try.func61, Try.ntmps61
    go_wp2_with fail
    refine HL.out.mono ?_
    rintro e w2 ⟨rfl, rfl⟩
    go_wp2_with fail
    refine HSL.out.mono ?_
    rintro e w3 ⟨rfl, n, rfl⟩
    go_wp2
    go_ret2
    exact ⟨rfl, below_drewN _ _ _⟩

end Go.Proofs.Ytkjcoengijedeab
