/-
  Package skip: what before and the closures of ranks and scores tell of each node; count, at, reach. Conditions: as typed.
-/
import Derived.Test.YtcbiiioglklpoaaDoorSkO
import Derived.Test.YtcbiiioglklpoaaDoorSkH
namespace Go.Proofs.YtcbiiioglklpoaaDoor
open Go.RowKit

theorem index_trail0 (f : Nat → Value) (w : World) : (Instr.index 125 (aggF 32 f) (.int .i64 0)).run Tryd.prog w = .ok (.agg #[f 0, f 1]) w := by kernel_rfl

theorem index_trail (f : Nat → Value) {i : Nat} (hi : i < 16) (w : World) : (Instr.index 125 (aggF 32 f) (.int .i64 (i : Nat))).run Tryd.prog w = .ok (.agg #[f (i * 2), f (i * 2 + 1)]) w := by
  rcases (by omega : i = 0 ∨ i = 1 ∨ i = 2 ∨ i = 3 ∨ i = 4 ∨ i = 5 ∨ i = 6 ∨ i = 7 ∨ i = 8 ∨ i = 9 ∨ i = 10 ∨ i = 11 ∨ i = 12 ∨ i = 13 ∨ i = 14 ∨ i = 15) with rfl | rfl | rfl | rfl | rfl | rfl | rfl | rfl | rfl | rfl | rfl | rfl | rfl | rfl | rfl | rfl <;> kernel_rfl

/-- On the lowest level each node stands. -/
theorem IsTr.low {lv : Mb → Nat} {ns : List Nd} {p k : Nat} (h : IsTr lv ns 0 p k) (hl : ∀ m, 0 < lv m) (hp : p ≤ ns.length) : k = p := by
  rcases Nat.lt_or_ge k p with q | q
  · have hk : k < ns.length := by omega
    have := (fstAt_none lv).1 h.2.2 ns[k] (List.mem_iff_getElem?.2 ⟨0, by rw [List.getElem?_drop, List.getElem?_take, if_pos (by omega), Nat.add_zero]; exact List.getElem?_eq_getElem hk⟩)
    have := hl ns[k].2
    omega
  · have := h.1
    omega

/-- A struct with a text and a score, in a box. -/
def mbF (m : Mb) (i : Nat) : Value := if i = 0 then .string ⟨m.1.toArray⟩ else .int .i64 m.2
def bdF (b : Bd) (i : Nat) : Value := if i = 0 then .int .i64 b.n else if i = 1 then .bool b.open_ else .int .i64 b.inf

section
variable {lv : Mb → Nat} {w : World} {h : Nat} {ns : List Nd} {S : Nat → Nat → Value}

theorem ChOn.cells (c : ChOn lv w h ns S) {k : Nat} {x : Nd} (hx : ns[k]? = some x) : w.cell? ⟨x.1, 0, none⟩ = some (.string ⟨x.2.1.toArray⟩) ∧ w.cell? ⟨x.1, 1, none⟩ = some (.int .i64 x.2.2) := by
  obtain ⟨h0, h1⟩ := c.mem k x hx
  have hr := c.row x.1 (BlkAt.succ hx).mem
  exact ⟨by rw [hr.cell (by omega), h0], by rw [hr.cell (by omega), h1]⟩

theorem map_get {ns : List Nd} {k : Nat} {x : Nd} (hx : ns[k]? = some x) : (ns.map (·.2))[k]? = some x.2 := by rw [List.getElem?_map, hx]; rfl

/-- What before tells. -/
theorem before_ahead (hch : ChOn lv w h ns S) {L : List Mb} (hL : ns.map (·.2) = L) (ho : InOrd L) {B : Nat} {m : Mb} (hB : w.rowIs B 47 2 (mbF m)) :
    AheadIs 75 #[.pointer (some ⟨B, 0, none⟩)] w ns (rkM m L) := fun X k x hX hx => by
  subst hL
  obtain ⟨c0, c1⟩ := (hch.below hX).cells hx
  have q := hB.of_block (hX.block B hB.lt)
  have e : decide (k < rkM m (ns.map (·.2))) = ahd x.2 m := by
    have := rkM_iff ho m (map_get hx)
    cases hq : ahd x.2 m with
    | true => simpa using this.1 hq
    | false =>
      rw [hq] at this
      simpa using this
  rw [e]
  exact before1_any (m := m) (y := x.2) X c0 c1 (q.cell (i := 0) (by omega)) (q.cell (i := 1) (by omega))

set_option maxRecDepth 100000 in
set_option maxHeartbeats 4000000 in
theorem at1_any {b B : Nat} {pl rank : Int} (X : World) (g0 : X.cell? ⟨B, 0, none⟩ = some (.int .i64 rank)) :
    Calls Tryd.prog 76 #[.agg #[.pointer (some ⟨b, 0, none⟩), .int .i64 pl], .pointer (some ⟨B, 0, none⟩)] X fun e w' => e = .returned (.bool (decide (pl ≤ rank))) ∧ Below X.heap.size X w' := by
  have hB := World.block_lt_of_cell? X _ g0
  go_enter Tryd.func76, Tryd.ntmps76
  go_wp2
  go_ret
  exact ⟨rfl, (Below.refl _ _).alloc (Nat.le_refl _) _⟩

/-- What at's closure tells: those of places up to the rank. -/
theorem at_ahead {B rank : Nat} (hB : w.cell? ⟨B, 0, none⟩ = some (.int .i64 (rank : Nat))) :
    AheadIs 76 #[.pointer (some ⟨B, 0, none⟩)] w ns rank := fun X k x hX hx => by
  have q := (hX.cell (p := ⟨B, 0, none⟩) (World.block_lt_of_cell? w _ hB)).trans hB
  have e : decide (k < rank) = decide (((k + 1 : Nat) : Int) ≤ (rank : Nat)) := by
    by_cases h : k < rank
    · rw [decide_eq_true h, decide_eq_true (by omega)]
    · rw [decide_eq_false h, decide_eq_false (by omega)]
  rw [e]
  exact at1_any X q

set_option maxRecDepth 100000 in
set_option maxHeartbeats 4000000 in
theorem reach1_any {b B k : Nat} {n : Int} {bd : Bd} (X : World) (h1 : X.cell? ⟨b, 1, none⟩ = some (.int .i64 n)) (g0 : X.cell? ⟨B, 0, none⟩ = some (.int .i64 bd.n)) (g1 : X.cell? ⟨B, 1, none⟩ = some (.bool bd.open_)) (g2 : X.cell? ⟨B, 2, none⟩ = some (.int .i64 bd.inf)) :
    Calls Tryd.prog 77 #[.agg #[.pointer (some ⟨b, 0, none⟩), .int .i64 k], .pointer (some ⟨B, 0, none⟩)] X fun e w' => e = .returned (.bool (!abvB n bd)) ∧ Below X.heap.size X w' := by
  have HC := Lib.hid (fun W => above_any n bd W)
  unfold bdV at HC
  obtain ⟨R, hR⟩ : ∃ R, abvB n bd = R := ⟨_, rfl⟩
  rw [hR] at HC ⊢
  clear hR
  have hb := World.block_lt_of_cell? X _ h1
  have hB := World.block_lt_of_cell? X _ g0
  have HBE : Hid (∀ W W', Below X.heap.size X W → Below W.heap.size W W' → Below X.heap.size X W') := fun W W' h1 h2 => h1.trans (h2.mono h1.size)
  go_enter Tryd.func77, Tryd.ntmps77
  go_wp2_with fail
  go_region_with (go_at_call 40; refine (HC.out _).mono ?_; rintro en w4 ⟨rfl, hb4⟩; have HB4 := Lib.hid hb4; clear hb4)
  all_goals
    go_wp2
    go_ret
    exact ⟨rfl, HBE.out _ _ (by repeat first | exact Below.refl _ _ | refine Below.drew ?_ | refine Below.alloc ?_ (Nat.le_refl _) _) HB4.out⟩

set_option maxRecDepth 100000 in
set_option maxHeartbeats 4000000 in
theorem reach2_any {b B k : Nat} {n : Int} {bd : Bd} (X : World) (h1 : X.cell? ⟨b, 1, none⟩ = some (.int .i64 n)) (g0 : X.cell? ⟨B, 0, none⟩ = some (.int .i64 bd.n)) (g1 : X.cell? ⟨B, 1, none⟩ = some (.bool bd.open_)) (g2 : X.cell? ⟨B, 2, none⟩ = some (.int .i64 bd.inf)) :
    Calls Tryd.prog 78 #[.agg #[.pointer (some ⟨b, 0, none⟩), .int .i64 k], .pointer (some ⟨B, 0, none⟩)] X fun e w' => e = .returned (.bool (blwB n bd)) ∧ Below X.heap.size X w' := by
  have HC := Lib.hid (fun W => below_any n bd W)
  unfold bdV at HC
  obtain ⟨R, hR⟩ : ∃ R, blwB n bd = R := ⟨_, rfl⟩
  rw [hR] at HC ⊢
  clear hR
  have hb := World.block_lt_of_cell? X _ h1
  have hB := World.block_lt_of_cell? X _ g0
  have HBE : Hid (∀ W W', Below X.heap.size X W → Below W.heap.size W W' → Below X.heap.size X W') := fun W W' h1 h2 => h1.trans (h2.mono h1.size)
  go_enter Tryd.func78, Tryd.ntmps78
  go_wp2_with fail
  go_region_with (go_at_call 41; refine (HC.out _).mono ?_; rintro en w4 ⟨rfl, hb4⟩; have HB4 := Lib.hid hb4; clear hb4)
  all_goals
    go_wp2
    go_ret
    exact ⟨rfl, HBE.out _ _ (by repeat first | exact Below.refl _ _ | refine Below.drew ?_ | refine Below.alloc ?_ (Nat.le_refl _) _) HB4.out⟩

theorem reach1_ahead (hch : ChOn lv w h ns S) {L : List Mb} (hL : ns.map (·.2) = L) (ho : InOrd L) {B : Nat} {b : Bd} (hB : w.rowIs B 23 3 (bdF b)) :
    AheadIs 77 #[.pointer (some ⟨B, 0, none⟩)] w ns (fromM b L) := fun X k x hX hx => by
  subst hL
  obtain ⟨c0, c1⟩ := (hch.below hX).cells hx
  have q := hB.of_block (hX.block B hB.lt)
  have e : decide (k < fromM b (ns.map (·.2))) = !abvB x.2.2 b := by
    have := cntB_iff ho (fromM_down b) (map_get hx)
    change _ ↔ k < fromM b _ at this
    cases hq : abvB x.2.2 b with
    | true => rw [hq] at this; simpa using this
    | false => rw [hq] at this; simpa using this
  rw [e]
  exact reach1_any (bd := b) X c1 (q.cell (i := 0) (by omega)) (q.cell (i := 1) (by omega)) (q.cell (i := 2) (by omega))

theorem reach2_ahead (hch : ChOn lv w h ns S) {L : List Mb} (hL : ns.map (·.2) = L) (ho : InOrd L) {B : Nat} {b : Bd} (hB : w.rowIs B 23 3 (bdF b)) :
    AheadIs 78 #[.pointer (some ⟨B, 0, none⟩)] w ns (uptoM b L) := fun X k x hX hx => by
  subst hL
  obtain ⟨c0, c1⟩ := (hch.below hX).cells hx
  have q := hB.of_block (hX.block B hB.lt)
  have e : decide (k < uptoM b (ns.map (·.2))) = blwB x.2.2 b := by
    have := cntB_iff ho (uptoM_down b) (map_get hx)
    change _ ↔ k < uptoM b _ at this
    cases hq : blwB x.2.2 b with
    | true => rw [hq] at this; simpa using this
    | false => rw [hq] at this; simpa using this
  rw [e]
  exact reach2_any (bd := b) X c1 (q.cell (i := 0) (by omega)) (q.cell (i := 1) (by omega)) (q.cell (i := 2) (by omega))

end

theorem enter_b1 (args : Array Value) (w : World) : (callFunc 75 args).run Tryd.prog w = .ok (.enter 75 args) w := by simp [callFunc, go_sem, Tryd.func75, Tryd.f75]
theorem enter_a1 (args : Array Value) (w : World) : (callFunc 76 args).run Tryd.prog w = .ok (.enter 76 args) w := by simp [callFunc, go_sem, Tryd.func76, Tryd.f76]
theorem enter_r1 (args : Array Value) (w : World) : (callFunc 77 args).run Tryd.prog w = .ok (.enter 77 args) w := by simp [callFunc, go_sem, Tryd.func77, Tryd.f77]
theorem enter_r2 (args : Array Value) (w : World) : (callFunc 78 args).run Tryd.prog w = .ok (.enter 78 args) w := by simp [callFunc, go_sem, Tryd.func78, Tryd.f78]

end Go.Proofs.YtcbiiioglklpoaaDoor
