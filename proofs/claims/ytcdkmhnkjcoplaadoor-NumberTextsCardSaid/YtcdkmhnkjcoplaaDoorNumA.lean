/-
  The walks of package number's plain functions and of the document's own answers beside them: fromFront, size, digit, Place, Range, Milli, Add. Conditions: the arguments are numbers of their kinds.
-/
import Derived.Test.YtcdkmhnkjcoplaaDoorProg
import Derived.WalkKit
import Derived.WalkSpells
import Derived.WalkLawsBesides
namespace Go.Proofs.YtcdkmhnkjcoplaaDoor
open Go.RowKit

theorem ret_two {k l : IntKind} {a b c d : Int} (h : a = b) (h' : c = d) : Ending.returned (.tuple #[.int k a, .int l c]) = .returned (.tuple #[.int k b, .int l d]) := by rw [h, h']
theorem ret_intb {k : IntKind} {a b : Int} {c d : Bool} (h : a = b) (h' : c = d) : Ending.returned (.tuple #[.int k a, .bool c]) = .returned (.tuple #[.int k b, .bool d]) := by rw [h, h']
theorem ret_one {k : IntKind} {a b : Int} (h : a = b) : Ending.returned (.int k a) = .returned (.int k b) := by rw [h]

set_option maxHeartbeats 400000 in
theorem digit_yes (r : Int) (w : World) (h0 : 48 ≤ r) (h1 : r ≤ 57) :
    Calls Tryd.prog 25 #[.int .i32 r] w fun e w' => e = .returned (.tuple #[.int .i64 (r - 48), .bool true]) ∧ w = w' := by
  go_enter Tryd.func25, Tryd.ntmps25
  go_wp2
  go_ret2
  exact ⟨rfl, rfl⟩

set_option maxHeartbeats 400000 in
theorem digit_no (r : Int) (w : World) (h : r < 48 ∨ 57 < r) :
    Calls Tryd.prog 25 #[.int .i32 r] w fun e w' => e = .returned (.tuple #[.int .i64 0, .bool false]) ∧ w = w' := by
  rcases h with h | h
  · go_enter Tryd.func25, Tryd.ntmps25
    go_wp2
    go_ret2
    exact ⟨rfl, rfl⟩
  · have h' : ¬ r < 48 := by omega
    go_enter Tryd.func25, Tryd.ntmps25
    go_wp2
    go_ret2
    exact ⟨rfl, rfl⟩

/-- What Place answers. -/
def placeI (i n : Int) : Int × Bool := if n ≤ 0 then (0, false) else if i < 0 then (if 0 ≤ i + n then (i + n, true) else (0, false)) else (if i < n then (i, true) else (0, false))
/-- What Range answers. -/
def firstI (i n : Int) : Int := if i < 0 then max (i + n) 0 else i
def lastI (k n : Int) : Int := min (if k < 0 then k + n else k) (n - 1)
def rangeI (i k n : Int) : Int × Int := if n ≤ 0 then (0, 0) else if firstI i n ≤ lastI k n then (firstI i n, lastI k n + 1) else (0, 0)
/-- What Milli answers. -/
def milliI (now n : Int) (s : Bool) : Int × Int :=
  if now < 0 ∨ 1099511627776 < now then (0, 1) else if n < -1099511627776 ∨ 1099511627776 < n then (0, 11) else
  if 1099511627776 < now + (if s then n * 1000 else n) then (0, 5) else (max (now + (if s then n * 1000 else n)) 0, 0)
/-- What a sum of two answers. -/
def addI (a b : Int) : Int × Int := if a + b < -9223372036854775808 ∨ 9223372036854775807 < a + b then (0, 11) else (a + b, 0)
set_option maxHeartbeats 1000000 in
theorem place_any (i n : Int) (w : World) (hi0 : -9223372036854775808 ≤ i) (hi1 : i ≤ 9223372036854775807) (hn0 : -9223372036854775808 ≤ n) (hn1 : n ≤ 9223372036854775807) :
    Calls Tryd.prog 19 #[.int .i64 i, .int .i64 n] w fun e w' => e = .returned (.tuple #[.int .i64 (placeI i n).1, .bool (placeI i n).2]) ∧ w = w' := by
  by_cases hn : n < 0 <;> by_cases hi : i < 0
  all_goals
    go_enter Tryd.func19, Tryd.ntmps19
    go_wp2
  all_goals go_ret2
  all_goals
    exact ⟨ret_intb (by unfold placeI; (repeat' split) <;> first | rfl | (exfalso; omega) | (dsimp only; omega)) (by unfold placeI; (repeat' split) <;> first | rfl | (exfalso; omega)), rfl⟩

set_option maxHeartbeats 1000000 in
theorem refPlace_any (i n : Int) (w : World) (hi0 : -9223372036854775808 ≤ i) (hi1 : i ≤ 9223372036854775807) (hn0 : -9223372036854775808 ≤ n) (hn1 : n ≤ 9223372036854775807) :
    Calls Tryd.prog 20 #[.int .i64 i, .int .i64 n] w fun e w' => e = .returned (.tuple #[.int .i64 (placeI i n).1, .bool (placeI i n).2]) ∧ w = w' := by
  by_cases hn : n < 0 <;> by_cases hi : i < 0
  all_goals
    go_enter Tryd.func20, Tryd.ntmps20
    go_wp2
  all_goals go_ret2
  all_goals
    exact ⟨ret_intb (by unfold placeI; (repeat' split) <;> first | rfl | (exfalso; omega) | (dsimp only; omega)) (by unfold placeI; (repeat' split) <;> first | rfl | (exfalso; omega)), rfl⟩

set_option maxHeartbeats 1000000 in
theorem range_any (i k n : Int) (w : World) (hi0 : -9223372036854775808 ≤ i) (hi1 : i ≤ 9223372036854775807) (hk0 : -9223372036854775808 ≤ k) (hk1 : k ≤ 9223372036854775807) (hn0 : -9223372036854775808 ≤ n) (hn1 : n ≤ 9223372036854775807) :
    Calls Tryd.prog 21 #[.int .i64 i, .int .i64 k, .int .i64 n] w fun e w' => e = .returned (.tuple #[.int .i64 (rangeI i k n).1, .int .i64 (rangeI i k n).2]) ∧ w = w' := by
  by_cases hn : n ≤ 0 <;> by_cases hi : i < 0 <;> by_cases hk : k < 0
  all_goals
    go_enter Tryd.func21, Tryd.ntmps21
    go_wp2
  all_goals go_ret2
  all_goals
    exact ⟨ret_two (by unfold rangeI firstI lastI; (repeat' split) <;> first | rfl | omega) (by unfold rangeI firstI lastI; (repeat' split) <;> first | rfl | omega), rfl⟩

set_option maxHeartbeats 1000000 in
theorem refRange_any (i k n : Int) (w : World) (hi0 : -9223372036854775808 ≤ i) (hi1 : i ≤ 9223372036854775807) (hk0 : -9223372036854775808 ≤ k) (hk1 : k ≤ 9223372036854775807) (hn0 : -9223372036854775808 ≤ n) (hn1 : n ≤ 9223372036854775807) :
    Calls Tryd.prog 22 #[.int .i64 i, .int .i64 k, .int .i64 n] w fun e w' => e = .returned (.tuple #[.int .i64 (rangeI i k n).1, .int .i64 (rangeI i k n).2]) ∧ w = w' := by
  by_cases hn : n ≤ 0 <;> by_cases hi : i < 0 <;> by_cases hk : k < 0
  all_goals
    go_enter Tryd.func22, Tryd.ntmps22
    go_wp2
  all_goals go_ret2
  all_goals
    exact ⟨ret_two (by unfold rangeI firstI lastI; (repeat' split) <;> first | rfl | omega) (by unfold rangeI firstI lastI; (repeat' split) <;> first | rfl | omega), rfl⟩

set_option maxHeartbeats 1000000 in
theorem milli_any (now n : Int) (s : Bool) (w : World) (hnow0 : -9223372036854775808 ≤ now) (hnow1 : now ≤ 9223372036854775807) (hn0 : -9223372036854775808 ≤ n) (hn1 : n ≤ 9223372036854775807) :
    Calls Tryd.prog 23 #[.int .i64 now, .int .i64 n, .bool s] w fun e w' => e = .returned (.tuple #[.int .i64 (milliI now n s).1, .int .i64 (milliI now n s).2]) ∧ w = w' := by
  cases s <;> by_cases hi : now < 0 <;> by_cases hj : 1099511627776 < now <;> by_cases hk : n < -1099511627776 <;> by_cases hl : 1099511627776 < n
  all_goals
    go_enter Tryd.func23, Tryd.ntmps23
    go_wp2
  all_goals go_ret2
  all_goals
    exact ⟨ret_two (by unfold milliI; (repeat' split) <;> first | rfl | omega | simp_all) (by unfold milliI; (repeat' split) <;> first | rfl | omega | simp_all), rfl⟩

set_option maxHeartbeats 1000000 in
theorem refMilli_any (now n : Int) (s : Bool) (w : World) (hnow0 : -9223372036854775808 ≤ now) (hnow1 : now ≤ 9223372036854775807) (hn0 : -9223372036854775808 ≤ n) (hn1 : n ≤ 9223372036854775807) :
    Calls Tryd.prog 24 #[.int .i64 now, .int .i64 n, .bool s] w fun e w' => e = .returned (.tuple #[.int .i64 (milliI now n s).1, .int .i64 (milliI now n s).2]) ∧ w = w' := by
  cases s <;> by_cases hi : now < 0 <;> by_cases hj : 1099511627776 < now <;> by_cases hk : n < -1099511627776 <;> by_cases hl : 1099511627776 < n
  all_goals
    go_enter Tryd.func24, Tryd.ntmps24
    go_wp2
  all_goals go_ret2
  all_goals
    exact ⟨ret_two (by unfold milliI; (repeat' split) <;> first | rfl | omega | simp_all) (by unfold milliI; (repeat' split) <;> first | rfl | omega | simp_all), rfl⟩

set_option maxHeartbeats 1000000 in
theorem refAdd_any (a b : Int) (w : World) (ha0 : -9223372036854775808 ≤ a) (ha1 : a ≤ 9223372036854775807) (hb0 : -9223372036854775808 ≤ b) (hb1 : b ≤ 9223372036854775807) :
    Calls Tryd.prog 28 #[.int .i64 a, .int .i64 b] w fun e w' => e = .returned (.tuple #[.int .i64 (addI a b).1, .int .i64 (addI a b).2]) ∧ w = w' := by
  by_cases hp : 0 < b <;> by_cases hm : b < 0
  all_goals
    go_enter Tryd.func28, Tryd.ntmps28
    go_wp2
  all_goals go_ret2
  all_goals
    exact ⟨ret_two (by unfold addI; (repeat' split) <;> first | rfl | omega) (by unfold addI; (repeat' split) <;> first | rfl | omega), rfl⟩

end Go.Proofs.YtcdkmhnkjcoplaaDoor
