/-
  Package skip: compare, before and its closure, the closures of ranks and scores; above, below, In. Conditions: as typed.
-/
import Derived.Test.YtcbiiioglklpoaaDoorSkF
import Derived.Test.YtcbiiioglklpoaaDoorShelf
import Derived.Shelf.SlSortCmp.InsertionK
namespace Go.Proofs.YtcbiiioglklpoaaDoor
open Go.RowKit

theorem below_grow (w : World) (os : Array Obj) : Below w.heap.size w (Sort.grow w os) :=
  ⟨rfl, rfl, rfl, by simp [Sort.grow], fun k hk => by simp only [Sort.grow]; rw [Array.getElem?_append_left hk]⟩

set_option maxRecDepth 100000 in
set_option maxHeartbeats 4000000 in
theorem compare_any (S K : ByteArray) (a b : Int) (w : World) :
    Calls Tryd.prog 47 #[.agg #[.string S, .int .i64 a], .agg #[.string K, .int .i64 b]] w fun e w' => e = .returned (.int .i64 (cmpM (S.data.toList, a) (K.data.toList, b))) ∧ ∃ os, w' = Sort.grow w os := by
  have HC := Lib.hid (fun W => Tryd.cmp_Compare_int a b W)
  have HS := Lib.hid (fun W => Tryd.strings_Compare S K W)
  obtain ⟨R, hR⟩ : ∃ R, cmpM (S.data.toList, a) (K.data.toList, b) = R := ⟨_, rfl⟩
  have HR := Lib.hid hR
  rw [hR]
  clear hR
  by_cases h : a = b
  · subst h
    have H1 : Hid (R = Lib.compareBytes S.data.toList K.data.toList) := by
      unfold Hid; rw [← HR.out]; unfold cmpM; rw [if_pos rfl]
    go_enter Tryd.func47, Tryd.ntmps47
    go_wp2_with fail
    refine (HS.out _).mono ?_
    rintro e w1 ⟨rfl, rfl⟩
    go_wp2
    go_ret
    exact ⟨by rw [H1.out]; rfl, _, by rw [Sort.alloc_eq_grow, Sort.alloc_eq_grow, Sort.grow_grow]⟩
  · have H1 : Hid (R = Lib.compareInt a b) := by
      unfold Hid; rw [← HR.out]; unfold cmpM Lib.compareInt; rw [if_neg h]
      by_cases h1 : a < b
      · simp [h1]
      · simp [h1, show b < a from by omega]
    go_enter Tryd.func47, Tryd.ntmps47
    go_wp2_with fail
    refine (HC.out _).mono ?_
    rintro e w1 ⟨rfl, rfl⟩
    go_wp2
    go_ret
    exact ⟨by rw [H1.out]; rfl, _, by rw [Sort.alloc_eq_grow, Sort.alloc_eq_grow, Sort.grow_grow]⟩

/-- A bound's cells. -/
def bdV (b : Bd) : Value := .agg #[.int .i64 b.n, .bool b.open_, .int .i64 b.inf]

set_option maxRecDepth 100000 in
set_option maxHeartbeats 4000000 in
theorem above_any (n : Int) (b : Bd) (w : World) :
    Calls Tryd.prog 40 #[.int .i64 n, bdV b] w fun e w' => e = .returned (.bool (abvB n b)) ∧ Below w.heap.size w w' := by
  obtain ⟨bn, bo, bi⟩ := b
  unfold bdV abvB
  dsimp only
  by_cases h1 : bi = -1
  · subst h1
    go_enter Tryd.func40, Tryd.ntmps40
    go_wp2
    go_ret
    exact ⟨rfl, (Below.refl _ _).alloc (Nat.le_refl _) _⟩
  · rw [if_neg h1]
    by_cases h2 : bi = 1
    · subst h2
      go_enter Tryd.func40, Tryd.ntmps40
      go_wp2
      go_ret
      exact ⟨rfl, (Below.refl _ _).alloc (Nat.le_refl _) _⟩
    · rw [if_neg h2]
      obtain ⟨R, hR⟩ : ∃ R, (decide (bn < n) || !bo && decide (n = bn)) = R := ⟨_, rfl⟩
      have HR := Lib.hid hR
      rw [hR]
      clear hR
      by_cases h3 : bn < n
      · go_enter Tryd.func40, Tryd.ntmps40
        go_wp2
        go_ret
        exact ⟨by rw [← HR.out]; simp [h3], (Below.refl _ _).alloc (Nat.le_refl _) _⟩
      · cases bo with
        | true =>
          go_enter Tryd.func40, Tryd.ntmps40
          go_wp2
          go_ret
          exact ⟨by rw [← HR.out]; simp [h3], (Below.refl _ _).alloc (Nat.le_refl _) _⟩
        | false =>
          go_enter Tryd.func40, Tryd.ntmps40
          go_wp2
          go_ret
          exact ⟨by rw [← HR.out, show decide (bn < n) = false from by simp; omega]; by_cases e : n = bn <;> simp [e], (Below.refl _ _).alloc (Nat.le_refl _) _⟩

set_option maxRecDepth 100000 in
set_option maxHeartbeats 4000000 in
theorem below_any (n : Int) (b : Bd) (w : World) :
    Calls Tryd.prog 41 #[.int .i64 n, bdV b] w fun e w' => e = .returned (.bool (blwB n b)) ∧ Below w.heap.size w w' := by
  obtain ⟨bn, bo, bi⟩ := b
  unfold bdV blwB
  dsimp only
  by_cases h1 : bi = -1
  · subst h1
    go_enter Tryd.func41, Tryd.ntmps41
    go_wp2
    go_ret
    exact ⟨rfl, (Below.refl _ _).alloc (Nat.le_refl _) _⟩
  · rw [if_neg h1]
    by_cases h2 : bi = 1
    · subst h2
      go_enter Tryd.func41, Tryd.ntmps41
      go_wp2
      go_ret
      exact ⟨rfl, (Below.refl _ _).alloc (Nat.le_refl _) _⟩
    · rw [if_neg h2]
      obtain ⟨R, hR⟩ : ∃ R, (decide (n < bn) || !bo && decide (n = bn)) = R := ⟨_, rfl⟩
      have HR := Lib.hid hR
      rw [hR]
      clear hR
      by_cases h3 : n < bn
      · go_enter Tryd.func41, Tryd.ntmps41
        go_wp2
        go_ret
        exact ⟨by rw [← HR.out]; simp [h3], (Below.refl _ _).alloc (Nat.le_refl _) _⟩
      · cases bo with
        | true =>
          go_enter Tryd.func41, Tryd.ntmps41
          go_wp2
          go_ret
          exact ⟨by rw [← HR.out]; simp [h3], (Below.refl _ _).alloc (Nat.le_refl _) _⟩
        | false =>
          go_enter Tryd.func41, Tryd.ntmps41
          go_wp2
          go_ret
          exact ⟨by rw [← HR.out, show decide (n < bn) = false from by simp; omega]; by_cases e : n = bn <;> simp [e], (Below.refl _ _).alloc (Nat.le_refl _) _⟩

set_option maxRecDepth 100000 in
set_option maxHeartbeats 4000000 in
theorem in_any (n : Int) (l h : Bd) (w : World) :
    Calls Tryd.prog 11 #[.int .i64 n, bdV l, bdV h] w fun e w' => e = .returned (.bool (inB n l h)) ∧ Below w.heap.size w w' := by
  have HA := Lib.hid (fun W => above_any n l W)
  have HB := Lib.hid (fun W => below_any n h W)
  unfold bdV at HA HB ⊢
  obtain ⟨R, hR⟩ : ∃ R, inB n l h = R := ⟨_, rfl⟩
  have HR : Hid ((abvB n l && blwB n h) = R) := hR
  rw [hR]
  clear hR
  obtain ⟨M, hM⟩ : ∃ M, w.heap.size = M := ⟨_, rfl⟩
  obtain ⟨wa, hwa⟩ : ∃ wa, (w.alloc (.cells #[.int .i64 l.n, .bool l.open_, .int .i64 l.inf] 23)).alloc (.cells #[.int .i64 h.n, .bool h.open_, .int .i64 h.inf] 23) = wa := ⟨_, rfl⟩
  have hrow : wa.rowIs (M + 1) 23 3 (fun i => if i = 0 then .int .i64 h.n else if i = 1 then .bool h.open_ else .int .i64 h.inf) := by
    rw [← hwa, ← hM]
    have q := World.rowIs_alloc (w.alloc (.cells #[.int .i64 l.n, .bool l.open_, .int .i64 l.inf] 23)) #[.int .i64 h.n, .bool h.open_, .int .i64 h.inf] 23 (fun i => if i = 0 then .int .i64 h.n else if i = 1 then .bool h.open_ else .int .i64 h.inf) (fun i hi => by
      have hi : i < 3 := hi
      rcases (by omega : i = 0 ∨ i = 1 ∨ i = 2) with rfl | rfl | rfl <;> rfl)
    have e : (w.alloc (.cells #[.int .i64 l.n, .bool l.open_, .int .i64 l.inf] 23)).heap.size = w.heap.size + 1 := by simp
    rw [e] at q
    exact q
  have hbe : Below M w wa := by rw [← hwa, ← hM]; exact ((Below.refl _ _).alloc (Nat.le_refl _) _).alloc (by simp) _
  rw [hM]
  have HROW := Lib.hid hrow
  have HBE := Lib.hid hbe
  have HWA := Lib.hid hwa
  clear hrow hbe hwa
  go_enter Tryd.func11, Tryd.ntmps11
  cases hq : abvB n l with
  | true =>
    rw [hq] at HA HR
    rw [Bool.true_and] at HR
    go_wp2_with fail
    rw [HWA.out]
    refine (HA.out _).mono ?_
    rintro e w1 ⟨rfl, hb1⟩
    have q := HROW.out.of_block (hb1.block (M + 1) HROW.out.lt)
    have c0 := q.cell (i := 0) (by omega)
    have c1 := q.cell (i := 1) (by omega)
    have c2 := q.cell (i := 2) (by omega)
    simp only [if_true, show (1 : Nat) ≠ 0 from by omega, show (2 : Nat) ≠ 0 from by omega, show (2 : Nat) ≠ 1 from by omega, if_false] at c0 c1 c2
    have HB1 := Lib.hid (HBE.out.trans (hb1.mono (by have := HBE.out.size; omega)))
    clear hb1 q
    go_wp2_with fail
    refine (HB.out _).mono ?_
    rintro e w2 ⟨rfl, hb2⟩
    have HB2 := Lib.hid (HB1.out.trans (hb2.mono (by have := HB1.out.size; omega)))
    clear hb2
    go_wp2
    go_ret
    exact ⟨by rw [← HR.out]; rfl, HB2.out⟩
  | false =>
    rw [hq] at HA HR
    rw [Bool.false_and] at HR
    go_wp2_with fail
    rw [HWA.out]
    refine (HA.out _).mono ?_
    rintro e w1 ⟨rfl, hb1⟩
    have HB1 := Lib.hid (HBE.out.trans (hb1.mono (by have := HBE.out.size; omega)))
    clear hb1
    go_wp2
    go_ret
    exact ⟨by rw [← HR.out]; rfl, HB1.out⟩

/-! ### closures of what is ahead -/
set_option maxRecDepth 100000 in
set_option maxHeartbeats 4000000 in
theorem before1_any {b B k : Nat} {m y : Mb} (X : World) (h0 : X.cell? ⟨b, 0, none⟩ = some (.string ⟨y.1.toArray⟩)) (h1 : X.cell? ⟨b, 1, none⟩ = some (.int .i64 y.2)) (g0 : X.cell? ⟨B, 0, none⟩ = some (.string ⟨m.1.toArray⟩)) (g1 : X.cell? ⟨B, 1, none⟩ = some (.int .i64 m.2)) :
    Calls Tryd.prog 75 #[.agg #[.pointer (some ⟨b, 0, none⟩), .int .i64 k], .pointer (some ⟨B, 0, none⟩)] X fun e w' => e = .returned (.bool (ahd y m)) ∧ Below X.heap.size X w' := by
  have HC := Lib.hid (fun W => compare_any ⟨y.1.toArray⟩ ⟨m.1.toArray⟩ y.2 m.2 W)
  have HD := Lib.hid (cmpM_ahd y m)
  have e1 : (y.1.toArray.toList, y.2) = y := by simp
  have e2 : (m.1.toArray.toList, m.2) = m := by simp
  rw [e1, e2] at HC
  have hb := World.block_lt_of_cell? X _ h0
  have hB := World.block_lt_of_cell? X _ g0
  rw [← HD.out]
  obtain ⟨R, hR⟩ : ∃ R, cmpM y m = R := ⟨_, rfl⟩
  rw [hR] at HC ⊢
  clear hR HD e1 e2
  have HB : Hid (∀ W os, Below X.heap.size X W → Below X.heap.size X (Sort.grow W os)) := fun W os h => h.trans ((below_grow W os).mono h.size)
  go_enter Tryd.func75, Tryd.ntmps75
  go_wp2_with fail
  go_region_with (go_at_call 47; refine (HC.out _).mono ?_; rintro en w4 ⟨rfl, os4, rfl⟩)
  all_goals
    go_wp2
    go_ret
    exact ⟨rfl, HB.out _ _ (by repeat first | exact Below.refl _ _ | refine Below.drew ?_ | refine Below.alloc ?_ (Nat.le_refl _) _)⟩

end Go.Proofs.YtcbiiioglklpoaaDoor
