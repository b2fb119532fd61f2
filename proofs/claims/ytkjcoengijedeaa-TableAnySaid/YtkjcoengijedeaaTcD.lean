/-
  The statements' act, over two tables in one memory: what it makes of each, and that it tells true where both hold the same. Conditions: both keep what tables keep; Pick as told.
-/
import Derived.Test.YtkjcoengijedeaaTcC
import Derived.Deep.RegionHeld3
namespace Go.Proofs.Ytkjcoengijedeaa
open Go.RowKit

/-- What is asked of package table's Pick. -/
def PickOk : Prop := ∀ {base Q seed m : Nat} {ow : Own} {t : Tb Int} {gA gB : Nat} {sA sB : Nat → Value} (draw : Nat) (_ : draw < 18446744073709551616) (w : World) (_ : PT KI w base ow Q 67 seed t gA sA gB sB) (_ : Good (hashT seed) m t) (_ : m ≤ 50000) (_ : KeysT (fun k => k.length ≤ 1000) t),
    Calls Try.prog 37 #[.pointer (some ⟨Q, 0, none⟩), .int .u64 draw] w fun e w' => e = .returned (match pickT t draw with | some y => .tuple #[.string ⟨y.1.toArray⟩, .int .i64 y.2, .bool true] | none => .tuple #[.string ⟨#[]⟩, .int .i64 0, .bool false]) ∧ Below w.heap.size w w'

def pickV (o : Option (List UInt8 × Int)) : ByteArray × Int × Bool := match o with
  | some y => (⟨y.1.toArray⟩, y.2, true)
  | none => (⟨#[]⟩, 0, false)

set_option maxRecDepth 100000 in
set_option maxHeartbeats 16000000 in
theorem act_put {w : World} {b1 b2 Q1 Q2 seed m : Nat} {o1 o2 : Own} {t u : Tb Int} (hs : seed < 18446744073709551616) (h : TwoAt w b1 b2 o1 o2 Q1 Q2 seed t u) (hgt : Good (hashT seed) m t) (hgu : Good (hashT seed) m u) (hm : m ≤ 50000) (hkt : KeysT (fun k => k.length ≤ 1000) t) (hku : KeysT (fun k => k.length ≤ 1000) u)
    (v : Int) (S : ByteArray) (hS : S.size ≤ 9223372036854775807) (draw : Nat) :
    Calls Try.prog 16 #[.pointer (some ⟨Q1, 0, none⟩), .pointer (some ⟨Q2, 0, none⟩), .agg #[.int .i64 1, .string S, .int .i64 v, .int .u64 draw]] w fun e w' => ∃ b o1' o2', e = .returned (.bool b) ∧ (t = u → b = true) ∧ TwoAt w' b1 b2 o1' o2' Q1 Q2 seed (actT seed t 1 (cutK S).data.toList v) (actT seed u 1 (cutK S).data.toList v) ∧ Turns (owU o1 o2) (owU o1' o2') w w' := by
  have HKEY := Lib.hid (fun W => key_any S W hS)
  have hC := cutK_size S
  obtain ⟨C, hCe⟩ : ∃ C, cutK S = C := ⟨_, rfl⟩
  rw [hCe] at HKEY hC ⊢
  obtain ⟨k, hke⟩ : ∃ k, C.data.toList = k := ⟨_, rfl⟩
  rw [hke]
  have HKE := Lib.hid hke
  obtain ⟨w1, hw1⟩ : ∃ w1, w.alloc (.cells #[.int .i64 1, .string S, .int .i64 v, .int .u64 draw] 34) = w1 := ⟨_, rfl⟩
  have HW1 := Lib.hid hw1
  have hb1 : Below w.heap.size w w1 := by rw [← hw1]; exact (Below.refl _ _).alloc (Nat.le_refl _) _
  have hblk : w1.heap[w.heap.size]? = some (.cells #[.int .i64 1, .string S, .int .i64 v, .int .u64 draw] 34 (0, 0)) := by rw [← hw1]; exact heap_alloc_new w _
  have hno : owU o1 o2 w.heap.size = none := by
    rw [owU_none]
    constructor
    · cases hq : o1 w.heap.size with
      | none => rfl
      | some x => exact absurd (h.dom1 (k := w.heap.size) (by rw [hq]; exact fun e => by cases e)).2 (Nat.lt_irrefl _)
    · cases hq : o2 w.heap.size with
      | none => rfl
      | some x => exact absurd (h.dom2 (k := w.heap.size) (by rw [hq]; exact fun e => by cases e)).2 (Nat.lt_irrefl _)
  have hsz : w1.heap.size = w.heap.size + 1 := by rw [← hw1]; simp
  obtain ⟨h1, u1⟩ := h.below hb1
  have HU1 := Lib.hid u1
  have H1 := Lib.hid h1
  have HBOX : Hid (∀ (W : World) (ow' : Own), Turns (owU o1 o2) ow' w1 W → W.cell? ⟨w.heap.size, 0, none⟩ = some (.int .i64 1) ∧ W.cell? ⟨w.heap.size, 1, none⟩ = some (.string S) ∧ W.cell? ⟨w.heap.size, 2, none⟩ = some (.int .i64 v) ∧ W.cell? ⟨w.heap.size, 3, none⟩ = some (.int .u64 draw)) := fun W ow' hT => by
    have hq := (hT.block w.heap.size (by omega) hno).trans hblk
    exact ⟨by simp [World.cell?, hq], by simp [World.cell?, hq], by simp [World.cell?, hq], by simp [World.cell?, hq]⟩
  obtain ⟨x0, x1, x2, x3⟩ := HBOX.out w1 _ (Turns.refl _ _)
  have HGT := Lib.hid hgt
  have HGU := Lib.hid hgu
  have HKT := Lib.hid hkt
  have HKU := Lib.hid hku
  have hC2 : C.size ≤ 1000 := by omega
  clear h hgt hgu hkt hku hCe hke hw1 hb1 hblk h1 u1 hsz hno hC
  have HAt : Hid (actT seed t 1 k v = putS (hashT seed) (stepT (hashT seed) t) k v) := by unfold Hid actT; simp
  have HAu : Hid (actT seed u 1 k v = putS (hashT seed) (stepT (hashT seed) u) k v) := by unfold Hid actT; simp
  have HP1 := Lib.hid (fun W oo (hT : TwoAt W b1 b2 oo o2 Q1 Q2 seed t u) => two_put hs hT HGT.out hm HKT.out k C HKE.out hC2 v)
  have HP2 := Lib.hid (fun W oo t' (hT : TwoAt W b1 b2 oo o2 Q1 Q2 seed t' u) => rtwo_put hs hT HGU.out hm HKU.out k C HKE.out hC2 v)
  obtain ⟨B1, hB1⟩ : ∃ B, (lookT (hashT seed) (stepT (hashT seed) t) k).isSome = B := ⟨_, rfl⟩
  obtain ⟨B2, hB2⟩ : ∃ B, (lookT (hashT seed) (stepT (hashT seed) u) k).isSome = B := ⟨_, rfl⟩
  have HBB : Hid (t = u → (B1 == B2) = true) := fun e => by rw [← hB1, ← hB2, e]; simp
  rw [hB1] at HP1
  rw [hB2] at HP2
  rw [HAt.out, HAu.out]
  have HX0 := Lib.hid x2
  clear hB1 hB2
  go_enter Try.func16, Try.ntmps16
  go_wp2_with (first | rw [HW1.out] | (go_at_call 10; refine (HKEY.out _).mono ?_; rintro e w1 ⟨rfl, rfl⟩))
  go_region_law (first
    | (have qq := HT2; go_simp; go_at_call 45; refine (HP2.out _ _ _ (by first | exact HT2.out | exact (HT2.out.below (Below.refl _ _).drew).1)).mono ?_; rintro en w5 ⟨rfl, o5, hT5, hu5⟩; have HT5 := Lib.hid hT5; have HU5 : Hid (Turns (owU o1 o2) (owU o4 o5) w1 w5) := (by first | exact HU2.out.trans hu5 | exact (HU2.out.trans (Turns.of_below _ (Below.refl _ _).drew)).trans hu5); clear hT5 hu5)
    | (go_simp; go_at_call 38; refine (HP1.out _ _ (by first | exact H1.out | exact (H1.out.below (Below.refl _ _).drew).1)).mono ?_; rintro en w4 ⟨rfl, o4, hT4, hu4⟩; have HT2 := Lib.hid hT4; have HU2 : Hid (Turns (owU o1 o2) (owU o4 o2) w1 w4) := (by first | exact hu4 | exact (Turns.of_below _ (Below.refl w1.heap.size w1).drew).trans hu4); have y2 := (HBOX.out w4 _ HU2.out).2.2.1; clear hT4 hu4))
  all_goals
    go_wp2
    go_ret
    exact ⟨_, _, _, rfl, HBB.out, HT5.out, HU1.out.trans HU5.out⟩

set_option maxRecDepth 100000 in
set_option maxHeartbeats 16000000 in
theorem act_del {w : World} {b1 b2 Q1 Q2 seed m : Nat} {o1 o2 : Own} {t u : Tb Int} (hs : seed < 18446744073709551616) (h : TwoAt w b1 b2 o1 o2 Q1 Q2 seed t u) (hgt : Good (hashT seed) m t) (hgu : Good (hashT seed) m u) (hm : m ≤ 50000) (hkt : KeysT (fun k => k.length ≤ 1000) t) (hku : KeysT (fun k => k.length ≤ 1000) u)
    (v : Int) (S : ByteArray) (hS : S.size ≤ 9223372036854775807) (draw : Nat) :
    Calls Try.prog 16 #[.pointer (some ⟨Q1, 0, none⟩), .pointer (some ⟨Q2, 0, none⟩), .agg #[.int .i64 3, .string S, .int .i64 v, .int .u64 draw]] w fun e w' => ∃ b o1' o2', e = .returned (.bool b) ∧ (t = u → b = true) ∧ TwoAt w' b1 b2 o1' o2' Q1 Q2 seed (actT seed t 3 (cutK S).data.toList v) (actT seed u 3 (cutK S).data.toList v) ∧ Turns (owU o1 o2) (owU o1' o2') w w' := by
  have HKEY := Lib.hid (fun W => key_any S W hS)
  have hC := cutK_size S
  obtain ⟨C, hCe⟩ : ∃ C, cutK S = C := ⟨_, rfl⟩
  rw [hCe] at HKEY hC ⊢
  obtain ⟨k, hke⟩ : ∃ k, C.data.toList = k := ⟨_, rfl⟩
  rw [hke]
  have HKE := Lib.hid hke
  obtain ⟨w1, hw1⟩ : ∃ w1, w.alloc (.cells #[.int .i64 3, .string S, .int .i64 v, .int .u64 draw] 34) = w1 := ⟨_, rfl⟩
  have HW1 := Lib.hid hw1
  have hb1 : Below w.heap.size w w1 := by rw [← hw1]; exact (Below.refl _ _).alloc (Nat.le_refl _) _
  have hblk : w1.heap[w.heap.size]? = some (.cells #[.int .i64 3, .string S, .int .i64 v, .int .u64 draw] 34 (0, 0)) := by rw [← hw1]; exact heap_alloc_new w _
  have hno : owU o1 o2 w.heap.size = none := by
    rw [owU_none]
    constructor
    · cases hq : o1 w.heap.size with
      | none => rfl
      | some x => exact absurd (h.dom1 (k := w.heap.size) (by rw [hq]; exact fun e => by cases e)).2 (Nat.lt_irrefl _)
    · cases hq : o2 w.heap.size with
      | none => rfl
      | some x => exact absurd (h.dom2 (k := w.heap.size) (by rw [hq]; exact fun e => by cases e)).2 (Nat.lt_irrefl _)
  have hsz : w1.heap.size = w.heap.size + 1 := by rw [← hw1]; simp
  obtain ⟨h1, u1⟩ := h.below hb1
  have HU1 := Lib.hid u1
  have H1 := Lib.hid h1
  have HBOX : Hid (∀ (W : World) (ow' : Own), Turns (owU o1 o2) ow' w1 W → W.cell? ⟨w.heap.size, 0, none⟩ = some (.int .i64 3) ∧ W.cell? ⟨w.heap.size, 1, none⟩ = some (.string S) ∧ W.cell? ⟨w.heap.size, 2, none⟩ = some (.int .i64 v) ∧ W.cell? ⟨w.heap.size, 3, none⟩ = some (.int .u64 draw)) := fun W ow' hT => by
    have hq := (hT.block w.heap.size (by omega) hno).trans hblk
    exact ⟨by simp [World.cell?, hq], by simp [World.cell?, hq], by simp [World.cell?, hq], by simp [World.cell?, hq]⟩
  obtain ⟨x0, x1, x2, x3⟩ := HBOX.out w1 _ (Turns.refl _ _)
  have HGT := Lib.hid hgt
  have HGU := Lib.hid hgu
  have HKT := Lib.hid hkt
  have HKU := Lib.hid hku
  have hC2 : C.size ≤ 1000 := by omega
  clear h hgt hgu hkt hku hCe hke hw1 hb1 hblk h1 u1 hsz hno hC
  have HAt : Hid (actT seed t 3 k v = delS (hashT seed) (stepT (hashT seed) t) k) := by unfold Hid actT; simp
  have HAu : Hid (actT seed u 3 k v = delS (hashT seed) (stepT (hashT seed) u) k) := by unfold Hid actT; simp
  have HP1 := Lib.hid (fun W oo (hT : TwoAt W b1 b2 oo o2 Q1 Q2 seed t u) => two_del hs hT HGT.out hm HKT.out k C HKE.out hC2)
  have HP2 := Lib.hid (fun W oo t' (hT : TwoAt W b1 b2 oo o2 Q1 Q2 seed t' u) => rtwo_del hs hT HGU.out hm HKU.out k C HKE.out hC2)
  obtain ⟨A0, hA0⟩ : ∃ B, (lookT (hashT seed) (stepT (hashT seed) t) k).isSome = B := ⟨_, rfl⟩
  obtain ⟨D0, hD0⟩ : ∃ B, (lookT (hashT seed) (stepT (hashT seed) u) k).isSome = B := ⟨_, rfl⟩
  have HBB : Hid (t = u → A0 = D0) := fun e => by rw [← hA0, ← hD0, e]
  rw [hA0] at HP1
  rw [hD0] at HP2
  rw [HAt.out, HAu.out]
  clear hA0 hD0
  go_enter Try.func16, Try.ntmps16
  go_wp2_with (first | rw [HW1.out] | (go_at_call 10; refine (HKEY.out _).mono ?_; rintro e w1 ⟨rfl, rfl⟩))
  refine (HP1.out _ _ H1.out).mono ?_
  rintro e w4 ⟨rfl, o4, hT4, hu4⟩
  have HT4 := Lib.hid hT4
  have HU4 := Lib.hid hu4
  clear hT4 hu4
  go_wp2_with fail
  refine (HP2.out _ _ _ HT4.out).mono ?_
  rintro e w5 ⟨rfl, o5, hT5, hu5⟩
  have HT5 := Lib.hid hT5
  have HU5 := Lib.hid (HU4.out.trans hu5)
  clear hT5 hu5
  go_wp2
  go_ret
  exact ⟨_, _, _, rfl, fun e => by rw [HBB.out e]; simp, HT5.out, HU1.out.trans HU5.out⟩

set_option maxRecDepth 100000 in
set_option maxHeartbeats 16000000 in
theorem act_step {w : World} {b1 b2 Q1 Q2 seed m : Nat} {o1 o2 : Own} {t u : Tb Int} (hs : seed < 18446744073709551616) (h : TwoAt w b1 b2 o1 o2 Q1 Q2 seed t u) (hgt : Good (hashT seed) m t) (hgu : Good (hashT seed) m u) (hm : m ≤ 50000) (hkt : KeysT (fun k => k.length ≤ 1000) t) (hku : KeysT (fun k => k.length ≤ 1000) u)
    (v : Int) (S : ByteArray) (hS : S.size ≤ 9223372036854775807) (draw : Nat) :
    Calls Try.prog 16 #[.pointer (some ⟨Q1, 0, none⟩), .pointer (some ⟨Q2, 0, none⟩), .agg #[.int .i64 5, .string S, .int .i64 v, .int .u64 draw]] w fun e w' => ∃ b o1' o2', e = .returned (.bool b) ∧ (t = u → b = true) ∧ TwoAt w' b1 b2 o1' o2' Q1 Q2 seed (actT seed t 5 (cutK S).data.toList v) (actT seed u 5 (cutK S).data.toList v) ∧ Turns (owU o1 o2) (owU o1' o2') w w' := by
  have HKEY := Lib.hid (fun W => key_any S W hS)
  have hC := cutK_size S
  obtain ⟨C, hCe⟩ : ∃ C, cutK S = C := ⟨_, rfl⟩
  rw [hCe] at HKEY hC ⊢
  obtain ⟨k, hke⟩ : ∃ k, C.data.toList = k := ⟨_, rfl⟩
  rw [hke]
  have HKE := Lib.hid hke
  obtain ⟨w1, hw1⟩ : ∃ w1, w.alloc (.cells #[.int .i64 5, .string S, .int .i64 v, .int .u64 draw] 34) = w1 := ⟨_, rfl⟩
  have HW1 := Lib.hid hw1
  have hb1 : Below w.heap.size w w1 := by rw [← hw1]; exact (Below.refl _ _).alloc (Nat.le_refl _) _
  have hblk : w1.heap[w.heap.size]? = some (.cells #[.int .i64 5, .string S, .int .i64 v, .int .u64 draw] 34 (0, 0)) := by rw [← hw1]; exact heap_alloc_new w _
  have hno : owU o1 o2 w.heap.size = none := by
    rw [owU_none]
    constructor
    · cases hq : o1 w.heap.size with
      | none => rfl
      | some x => exact absurd (h.dom1 (k := w.heap.size) (by rw [hq]; exact fun e => by cases e)).2 (Nat.lt_irrefl _)
    · cases hq : o2 w.heap.size with
      | none => rfl
      | some x => exact absurd (h.dom2 (k := w.heap.size) (by rw [hq]; exact fun e => by cases e)).2 (Nat.lt_irrefl _)
  have hsz : w1.heap.size = w.heap.size + 1 := by rw [← hw1]; simp
  obtain ⟨h1, u1⟩ := h.below hb1
  have HU1 := Lib.hid u1
  have H1 := Lib.hid h1
  have HBOX : Hid (∀ (W : World) (ow' : Own), Turns (owU o1 o2) ow' w1 W → W.cell? ⟨w.heap.size, 0, none⟩ = some (.int .i64 5) ∧ W.cell? ⟨w.heap.size, 1, none⟩ = some (.string S) ∧ W.cell? ⟨w.heap.size, 2, none⟩ = some (.int .i64 v) ∧ W.cell? ⟨w.heap.size, 3, none⟩ = some (.int .u64 draw)) := fun W ow' hT => by
    have hq := (hT.block w.heap.size (by omega) hno).trans hblk
    exact ⟨by simp [World.cell?, hq], by simp [World.cell?, hq], by simp [World.cell?, hq], by simp [World.cell?, hq]⟩
  obtain ⟨x0, x1, x2, x3⟩ := HBOX.out w1 _ (Turns.refl _ _)
  have HGT := Lib.hid hgt
  have HGU := Lib.hid hgu
  have HKT := Lib.hid hkt
  have HKU := Lib.hid hku
  have hC2 : C.size ≤ 1000 := by omega
  clear h hgt hgu hkt hku hCe hke hw1 hb1 hblk h1 u1 hsz hno hC
  have HAt : Hid (actT seed t 5 k v = stepT (hashT seed) t) := by unfold Hid actT; simp
  have HAu : Hid (actT seed u 5 k v = stepT (hashT seed) u) := by unfold Hid actT; simp
  have HP1 := Lib.hid (fun W oo (hT : TwoAt W b1 b2 oo o2 Q1 Q2 seed t u) => two_step hs hT HGT.out hm HKT.out)
  have HP2 := Lib.hid (fun W oo t' (hT : TwoAt W b1 b2 oo o2 Q1 Q2 seed t' u) => rtwo_step hs hT HGU.out hm HKU.out)
  obtain ⟨A0, hA0⟩ : ∃ B, decide (0 < (stepT (hashT seed) t).B.length) = B := ⟨_, rfl⟩
  obtain ⟨D0, hD0⟩ : ∃ B, decide (0 < (stepT (hashT seed) u).B.length) = B := ⟨_, rfl⟩
  have HBB : Hid (t = u → A0 = D0) := fun e => by rw [← hA0, ← hD0, e]
  rw [hA0] at HP1
  rw [hD0] at HP2
  rw [HAt.out, HAu.out]
  clear hA0 hD0
  go_enter Try.func16, Try.ntmps16
  go_wp2_with (first | rw [HW1.out] | (go_at_call 10; refine (HKEY.out _).mono ?_; rintro e w1 ⟨rfl, rfl⟩))
  refine (HP1.out _ _ H1.out).mono ?_
  rintro e w4 ⟨rfl, o4, hT4, hu4⟩
  have HT4 := Lib.hid hT4
  have HU4 := Lib.hid hu4
  clear hT4 hu4
  go_wp2_with fail
  refine (HP2.out _ _ _ HT4.out).mono ?_
  rintro e w5 ⟨rfl, o5, hT5, hu5⟩
  have HT5 := Lib.hid hT5
  have HU5 := Lib.hid (HU4.out.trans hu5)
  clear hT5 hu5
  go_wp2
  go_ret
  exact ⟨_, _, _, rfl, fun e => by rw [HBB.out e]; simp, HT5.out, HU1.out.trans HU5.out⟩

set_option maxRecDepth 100000 in
set_option maxHeartbeats 16000000 in
theorem act_get {w : World} {b1 b2 Q1 Q2 seed m : Nat} {o1 o2 : Own} {t u : Tb Int} (hs : seed < 18446744073709551616) (h : TwoAt w b1 b2 o1 o2 Q1 Q2 seed t u) (hgt : Good (hashT seed) m t) (hgu : Good (hashT seed) m u) (hm : m ≤ 50000) (hkt : KeysT (fun k => k.length ≤ 1000) t) (hku : KeysT (fun k => k.length ≤ 1000) u)
    (v : Int) (S : ByteArray) (hS : S.size ≤ 9223372036854775807) (draw : Nat) :
    Calls Try.prog 16 #[.pointer (some ⟨Q1, 0, none⟩), .pointer (some ⟨Q2, 0, none⟩), .agg #[.int .i64 2, .string S, .int .i64 v, .int .u64 draw]] w fun e w' => ∃ b o1' o2', e = .returned (.bool b) ∧ (t = u → b = true) ∧ TwoAt w' b1 b2 o1' o2' Q1 Q2 seed (actT seed t 2 (cutK S).data.toList v) (actT seed u 2 (cutK S).data.toList v) ∧ Turns (owU o1 o2) (owU o1' o2') w w' := by
  have HKEY := Lib.hid (fun W => key_any S W hS)
  have hC := cutK_size S
  obtain ⟨C, hCe⟩ : ∃ C, cutK S = C := ⟨_, rfl⟩
  rw [hCe] at HKEY hC ⊢
  obtain ⟨k, hke⟩ : ∃ k, C.data.toList = k := ⟨_, rfl⟩
  rw [hke]
  have HKE := Lib.hid hke
  obtain ⟨w1, hw1⟩ : ∃ w1, w.alloc (.cells #[.int .i64 2, .string S, .int .i64 v, .int .u64 draw] 34) = w1 := ⟨_, rfl⟩
  have HW1 := Lib.hid hw1
  have hb1 : Below w.heap.size w w1 := by rw [← hw1]; exact (Below.refl _ _).alloc (Nat.le_refl _) _
  have hblk : w1.heap[w.heap.size]? = some (.cells #[.int .i64 2, .string S, .int .i64 v, .int .u64 draw] 34 (0, 0)) := by rw [← hw1]; exact heap_alloc_new w _
  have hno : owU o1 o2 w.heap.size = none := by
    rw [owU_none]
    constructor
    · cases hq : o1 w.heap.size with
      | none => rfl
      | some x => exact absurd (h.dom1 (k := w.heap.size) (by rw [hq]; exact fun e => by cases e)).2 (Nat.lt_irrefl _)
    · cases hq : o2 w.heap.size with
      | none => rfl
      | some x => exact absurd (h.dom2 (k := w.heap.size) (by rw [hq]; exact fun e => by cases e)).2 (Nat.lt_irrefl _)
  have hsz : w1.heap.size = w.heap.size + 1 := by rw [← hw1]; simp
  obtain ⟨h1, u1⟩ := h.below hb1
  have HU1 := Lib.hid u1
  have H1 := Lib.hid h1
  have HBOX : Hid (∀ (W : World) (ow' : Own), Turns (owU o1 o2) ow' w1 W → W.cell? ⟨w.heap.size, 0, none⟩ = some (.int .i64 2) ∧ W.cell? ⟨w.heap.size, 1, none⟩ = some (.string S) ∧ W.cell? ⟨w.heap.size, 2, none⟩ = some (.int .i64 v) ∧ W.cell? ⟨w.heap.size, 3, none⟩ = some (.int .u64 draw)) := fun W ow' hT => by
    have hq := (hT.block w.heap.size (by omega) hno).trans hblk
    exact ⟨by simp [World.cell?, hq], by simp [World.cell?, hq], by simp [World.cell?, hq], by simp [World.cell?, hq]⟩
  obtain ⟨x0, x1, x2, x3⟩ := HBOX.out w1 _ (Turns.refl _ _)
  have HGT := Lib.hid hgt
  have HGU := Lib.hid hgu
  have HKT := Lib.hid hkt
  have HKU := Lib.hid hku
  have hC2 : C.size ≤ 1000 := by omega
  clear h hgt hgu hkt hku hCe hke hw1 hb1 hblk h1 u1 hsz hno hC
  have HAt : Hid (actT seed t 2 k v = stepT (hashT seed) t) := by unfold Hid actT; simp
  have HAu : Hid (actT seed u 2 k v = stepT (hashT seed) u) := by unfold Hid actT; simp
  have HP1 := Lib.hid (fun W oo (hT : TwoAt W b1 b2 oo o2 Q1 Q2 seed t u) => two_get hs hT HGT.out hm HKT.out k C HKE.out hC2)
  have HP2 := Lib.hid (fun W oo t' (hT : TwoAt W b1 b2 oo o2 Q1 Q2 seed t' u) => rtwo_get hs hT HGU.out hm HKU.out k C HKE.out hC2)
  obtain ⟨A0, hA0⟩ : ∃ B, (lookV (lookT (hashT seed) (stepT (hashT seed) t) k)).1 = B := ⟨_, rfl⟩
  obtain ⟨D0, hD0⟩ : ∃ B, (lookV (lookT (hashT seed) (stepT (hashT seed) u) k)).1 = B := ⟨_, rfl⟩
  obtain ⟨A1, hA1⟩ : ∃ B, (lookV (lookT (hashT seed) (stepT (hashT seed) t) k)).2 = B := ⟨_, rfl⟩
  obtain ⟨D1, hD1⟩ : ∃ B, (lookV (lookT (hashT seed) (stepT (hashT seed) u) k)).2 = B := ⟨_, rfl⟩
  have HBB : Hid (t = u → A0 = D0 ∧ A1 = D1) := fun e => ⟨by rw [← hA0, ← hD0, e], by rw [← hA1, ← hD1, e]⟩
  rw [hA0, hA1] at HP1
  rw [hD0, hD1] at HP2
  rw [HAt.out, HAu.out]
  clear hA0 hD0 hA1 hD1
  go_enter Try.func16, Try.ntmps16
  go_wp2_with (first | rw [HW1.out] | (go_at_call 10; refine (HKEY.out _).mono ?_; rintro e w1 ⟨rfl, rfl⟩))
  refine (HP1.out _ _ H1.out).mono ?_
  rintro e w4 ⟨rfl, o4, hT4, hu4⟩
  have HT4 := Lib.hid hT4
  have HU4 := Lib.hid hu4
  clear hT4 hu4
  go_wp2_with fail
  refine (HP2.out _ _ _ HT4.out).mono ?_
  rintro e w5 ⟨rfl, o5, hT5, hu5⟩
  have HT5 := Lib.hid hT5
  have HU5 := Lib.hid (HU4.out.trans hu5)
  clear hT5 hu5
  by_cases hq : A0 = D0
  · have hqb : (A0 == D0) = true := by rw [hq]; simp
    clear hq
    go_wp2
    go_ret
    exact ⟨_, _, _, rfl, fun e => by rw [(HBB.out e).2]; simp, HT5.out, HU1.out.trans HU5.out⟩
  · have HQ := Lib.hid hq
    have hqb : (A0 == D0) = false := by rw [beq_eq_false_iff_ne]; exact hq
    clear hq
    go_wp2
    go_ret
    exact ⟨_, _, _, rfl, fun e => absurd (HBB.out e).1 HQ.out, HT5.out, HU1.out.trans HU5.out⟩

set_option maxRecDepth 100000 in
set_option maxHeartbeats 16000000 in
theorem act_look {w : World} {b1 b2 Q1 Q2 seed m : Nat} {o1 o2 : Own} {t u : Tb Int} (hs : seed < 18446744073709551616) (h : TwoAt w b1 b2 o1 o2 Q1 Q2 seed t u) (hgt : Good (hashT seed) m t) (hgu : Good (hashT seed) m u) (hm : m ≤ 50000) (hkt : KeysT (fun k => k.length ≤ 1000) t) (hku : KeysT (fun k => k.length ≤ 1000) u)
    (v : Int) (S : ByteArray) (hS : S.size ≤ 9223372036854775807) (draw : Nat) :
    Calls Try.prog 16 #[.pointer (some ⟨Q1, 0, none⟩), .pointer (some ⟨Q2, 0, none⟩), .agg #[.int .i64 4, .string S, .int .i64 v, .int .u64 draw]] w fun e w' => ∃ b o1' o2', e = .returned (.bool b) ∧ (t = u → b = true) ∧ TwoAt w' b1 b2 o1' o2' Q1 Q2 seed (actT seed t 4 (cutK S).data.toList v) (actT seed u 4 (cutK S).data.toList v) ∧ Turns (owU o1 o2) (owU o1' o2') w w' := by
  have HKEY := Lib.hid (fun W => key_any S W hS)
  have hC := cutK_size S
  obtain ⟨C, hCe⟩ : ∃ C, cutK S = C := ⟨_, rfl⟩
  rw [hCe] at HKEY hC ⊢
  obtain ⟨k, hke⟩ : ∃ k, C.data.toList = k := ⟨_, rfl⟩
  rw [hke]
  have HKE := Lib.hid hke
  obtain ⟨w1, hw1⟩ : ∃ w1, w.alloc (.cells #[.int .i64 4, .string S, .int .i64 v, .int .u64 draw] 34) = w1 := ⟨_, rfl⟩
  have HW1 := Lib.hid hw1
  have hb1 : Below w.heap.size w w1 := by rw [← hw1]; exact (Below.refl _ _).alloc (Nat.le_refl _) _
  have hblk : w1.heap[w.heap.size]? = some (.cells #[.int .i64 4, .string S, .int .i64 v, .int .u64 draw] 34 (0, 0)) := by rw [← hw1]; exact heap_alloc_new w _
  have hno : owU o1 o2 w.heap.size = none := by
    rw [owU_none]
    constructor
    · cases hq : o1 w.heap.size with
      | none => rfl
      | some x => exact absurd (h.dom1 (k := w.heap.size) (by rw [hq]; exact fun e => by cases e)).2 (Nat.lt_irrefl _)
    · cases hq : o2 w.heap.size with
      | none => rfl
      | some x => exact absurd (h.dom2 (k := w.heap.size) (by rw [hq]; exact fun e => by cases e)).2 (Nat.lt_irrefl _)
  have hsz : w1.heap.size = w.heap.size + 1 := by rw [← hw1]; simp
  obtain ⟨h1, u1⟩ := h.below hb1
  have HU1 := Lib.hid u1
  have H1 := Lib.hid h1
  have HBOX : Hid (∀ (W : World) (ow' : Own), Turns (owU o1 o2) ow' w1 W → W.cell? ⟨w.heap.size, 0, none⟩ = some (.int .i64 4) ∧ W.cell? ⟨w.heap.size, 1, none⟩ = some (.string S) ∧ W.cell? ⟨w.heap.size, 2, none⟩ = some (.int .i64 v) ∧ W.cell? ⟨w.heap.size, 3, none⟩ = some (.int .u64 draw)) := fun W ow' hT => by
    have hq := (hT.block w.heap.size (by omega) hno).trans hblk
    exact ⟨by simp [World.cell?, hq], by simp [World.cell?, hq], by simp [World.cell?, hq], by simp [World.cell?, hq]⟩
  obtain ⟨x0, x1, x2, x3⟩ := HBOX.out w1 _ (Turns.refl _ _)
  have HGT := Lib.hid hgt
  have HGU := Lib.hid hgu
  have HKT := Lib.hid hkt
  have HKU := Lib.hid hku
  have hC2 : C.size ≤ 1000 := by omega
  clear h hgt hgu hkt hku hCe hke hw1 hb1 hblk h1 u1 hsz hno hC
  have HAt : Hid (actT seed t 4 k v = t) := by unfold Hid actT; simp
  have HAu : Hid (actT seed u 4 k v = u) := by unfold Hid actT; simp
  have HP1 := Lib.hid (fun W oo (hT : TwoAt W b1 b2 oo o2 Q1 Q2 seed t u) => two_look hs hT HGT.out hm k C HKE.out hC2)
  have HP2 := Lib.hid (fun W oo t' (hT : TwoAt W b1 b2 oo o2 Q1 Q2 seed t' u) => rtwo_look hs hT HGU.out hm k C HKE.out hC2)
  obtain ⟨A0, hA0⟩ : ∃ B, (lookV (lookT (hashT seed) t k)).1 = B := ⟨_, rfl⟩
  obtain ⟨D0, hD0⟩ : ∃ B, (lookV (lookT (hashT seed) u k)).1 = B := ⟨_, rfl⟩
  obtain ⟨A1, hA1⟩ : ∃ B, (lookV (lookT (hashT seed) t k)).2 = B := ⟨_, rfl⟩
  obtain ⟨D1, hD1⟩ : ∃ B, (lookV (lookT (hashT seed) u k)).2 = B := ⟨_, rfl⟩
  have HBB : Hid (t = u → A0 = D0 ∧ A1 = D1) := fun e => ⟨by rw [← hA0, ← hD0, e], by rw [← hA1, ← hD1, e]⟩
  rw [hA0, hA1] at HP1
  rw [hD0, hD1] at HP2
  rw [HAt.out, HAu.out]
  clear hA0 hD0 hA1 hD1
  go_enter Try.func16, Try.ntmps16
  go_wp2_with (first | rw [HW1.out] | (go_at_call 10; refine (HKEY.out _).mono ?_; rintro e w1 ⟨rfl, rfl⟩))
  refine (HP1.out _ _ H1.out).mono ?_
  rintro e w4 ⟨rfl, hb4⟩
  have HT4 := Lib.hid (H1.out.below hb4).1
  have HU4 := Lib.hid (H1.out.below hb4).2
  clear hb4
  go_wp2_with fail
  refine (HP2.out _ _ _ HT4.out).mono ?_
  rintro e w5 ⟨rfl, hb5⟩
  have HT5 := Lib.hid (HT4.out.below hb5).1
  have HU5 := Lib.hid (HU4.out.trans (HT4.out.below hb5).2)
  clear hb5
  by_cases hq : A0 = D0
  · have hqb : (A0 == D0) = true := by rw [hq]; simp
    clear hq
    go_wp2
    go_ret
    exact ⟨_, _, _, rfl, fun e => by rw [(HBB.out e).2]; simp, HT5.out, HU1.out.trans HU5.out⟩
  · have HQ := Lib.hid hq
    have hqb : (A0 == D0) = false := by rw [beq_eq_false_iff_ne]; exact hq
    clear hq
    go_wp2
    go_ret
    exact ⟨_, _, _, rfl, fun e => absurd (HBB.out e).1 HQ.out, HT5.out, HU1.out.trans HU5.out⟩

end Go.Proofs.Ytkjcoengijedeaa
