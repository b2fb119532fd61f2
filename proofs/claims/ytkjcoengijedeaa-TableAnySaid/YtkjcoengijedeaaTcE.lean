/-
  The statements' act: Pick, no kind, any kind. Conditions: as typed.
-/
import Derived.Test.YtkjcoengijedeaaTcD
namespace Go.Proofs.Ytkjcoengijedeaa
open Go.RowKit

theorem pick_tuple (o : Option (List UInt8 × Int)) : (match o with | some y => Value.tuple #[.string ⟨y.1.toArray⟩, .int .i64 y.2, .bool true] | none => .tuple #[.string ⟨#[]⟩, .int .i64 0, .bool false]) = .tuple #[.string (pickV o).1, .int .i64 (pickV o).2.1, .bool (pickV o).2.2] := by cases o <;> rfl
theorem rpick_tuple (o : Option (List UInt8 × Int)) : (match o with | some y => Value.tuple #[.agg #[.string ⟨y.1.toArray⟩, .int .i64 y.2], .bool true] | none => .tuple #[.agg #[.string ⟨#[]⟩, .int .i64 0], .bool false]) = .tuple #[.agg #[.string (pickV o).1, .int .i64 (pickV o).2.1], .bool (pickV o).2.2] := by cases o <;> rfl

set_option maxRecDepth 100000 in
set_option maxHeartbeats 16000000 in
theorem act_pick {w : World} {b1 b2 Q1 Q2 seed m : Nat} {o1 o2 : Own} {t u : Tb Int} (hpk : PickOk) (_hs : seed < 18446744073709551616) (h : TwoAt w b1 b2 o1 o2 Q1 Q2 seed t u) (hgt : Good (hashT seed) m t) (hgu : Good (hashT seed) m u) (hm : m ≤ 50000) (hkt : KeysT (fun k => k.length ≤ 1000) t) (hku : KeysT (fun k => k.length ≤ 1000) u)
    (v : Int) (S : ByteArray) (hS : S.size ≤ 9223372036854775807) (draw : Nat) (hd : draw < 18446744073709551616) :
    Calls Try.prog 16 #[.pointer (some ⟨Q1, 0, none⟩), .pointer (some ⟨Q2, 0, none⟩), .agg #[.int .i64 6, .string S, .int .i64 v, .int .u64 draw]] w fun e w' => ∃ b o1' o2', e = .returned (.bool b) ∧ (t = u → b = true) ∧ TwoAt w' b1 b2 o1' o2' Q1 Q2 seed (actT seed t 6 (cutK S).data.toList v) (actT seed u 6 (cutK S).data.toList v) ∧ Turns (owU o1 o2) (owU o1' o2') w w' := by
  have HKEY := Lib.hid (fun W => key_any S W hS)
  have hC := cutK_size S
  obtain ⟨C, hCe⟩ : ∃ C, cutK S = C := ⟨_, rfl⟩
  rw [hCe] at HKEY hC ⊢
  obtain ⟨k, hke⟩ : ∃ k, C.data.toList = k := ⟨_, rfl⟩
  rw [hke]
  have HKE := Lib.hid hke
  obtain ⟨w1, hw1⟩ : ∃ w1, w.alloc (.cells #[.int .i64 6, .string S, .int .i64 v, .int .u64 draw] 34) = w1 := ⟨_, rfl⟩
  have HW1 := Lib.hid hw1
  have hb1 : Below w.heap.size w w1 := by rw [← hw1]; exact (Below.refl _ _).alloc (Nat.le_refl _) _
  have hblk : w1.heap[w.heap.size]? = some (.cells #[.int .i64 6, .string S, .int .i64 v, .int .u64 draw] 34 (0, 0)) := by rw [← hw1]; exact heap_alloc_new w _
  have hno : owU o1 o2 w.heap.size = none := by
    rw [owU_none]
    constructor
    · cases hq : o1 w.heap.size with
      | none => rfl
      | some x => exact absurd (h.dom1 (k := w.heap.size) (by rw [hq]; exact fun e => by cases e)).2 (Nat.lt_irrefl _)
    · cases hq : o2 w.heap.size with
      | none => rfl
      | some x => exact absurd (h.dom2 (k := w.heap.size) (by rw [hq]; exact fun e => by cases e)).2 (Nat.lt_irrefl _)
  have hsz : w1.heap.size = w.heap.size + 1 := by rw [← hw1]; simp
  obtain ⟨h1, u1⟩ := h.below hb1
  have HU1 := Lib.hid u1
  have H1 := Lib.hid h1
  have HBOX : Hid (∀ (W : World) (ow' : Own), Turns (owU o1 o2) ow' w1 W → W.cell? ⟨w.heap.size, 0, none⟩ = some (.int .i64 6) ∧ W.cell? ⟨w.heap.size, 1, none⟩ = some (.string S) ∧ W.cell? ⟨w.heap.size, 2, none⟩ = some (.int .i64 v) ∧ W.cell? ⟨w.heap.size, 3, none⟩ = some (.int .u64 draw)) := fun W ow' hT => by
    have hq := (hT.block w.heap.size (by omega) hno).trans hblk
    exact ⟨by simp [World.cell?, hq], by simp [World.cell?, hq], by simp [World.cell?, hq], by simp [World.cell?, hq]⟩
  obtain ⟨x0, x1, x2, x3⟩ := HBOX.out w1 _ (Turns.refl _ _)
  have HGT := Lib.hid hgt
  have HGU := Lib.hid hgu
  have HKT := Lib.hid hkt
  have HKU := Lib.hid hku
  have hC2 : C.size ≤ 1000 := by omega
  clear h hgt hgu hkt hku hCe hke hw1 hb1 hblk h1 u1 hsz hno hC
  have HAt : Hid (actT seed t 6 k v = t) := by unfold Hid actT; simp
  have HAu : Hid (actT seed u 6 k v = u) := by unfold Hid actT; simp
  have HP1 : Hid (∀ W oo, TwoAt W b1 b2 oo o2 Q1 Q2 seed t u → Calls Try.prog 37 #[.pointer (some ⟨Q1, 0, none⟩), .int .u64 draw] W fun e w' => e = .returned (.tuple #[.string (pickV (pickT t draw)).1, .int .i64 (pickV (pickT t draw)).2.1, .bool (pickV (pickT t draw)).2.2]) ∧ Below W.heap.size W w') := fun W oo hT => by
    obtain ⟨gA, sA, gB, sB, hp⟩ := hT.one
    refine (hpk draw hd W hp HGT.out hm HKT.out).mono ?_
    rintro e w' ⟨rfl, hb⟩
    exact ⟨congrArg Ending.returned (pick_tuple _), hb⟩
  have HP2 : Hid (∀ W oo, TwoAt W b1 b2 oo o2 Q1 Q2 seed t u → Calls Try.prog 50 #[.pointer (some ⟨Q2, 0, none⟩), .int .u64 draw] W fun e w' => e = .returned (.tuple #[.agg #[.string (pickV (pickT u draw)).1, .int .i64 (pickV (pickT u draw)).2.1], .bool (pickV (pickT u draw)).2.2]) ∧ Below W.heap.size W w') := fun W oo hT => by
    obtain ⟨gA, sA, gB, sB, hp⟩ := hT.two
    refine (rpick_any draw hd W hp HGU.out hm).mono ?_
    rintro e w' ⟨rfl, hb⟩
    exact ⟨congrArg Ending.returned (rpick_tuple _), hb⟩
  have HBB : Hid (t = u → pickV (pickT t draw) = pickV (pickT u draw)) := fun e => by rw [e]
  obtain ⟨⟨A0, A1, A2⟩, hA⟩ : ∃ B, pickV (pickT t draw) = B := ⟨_, rfl⟩
  obtain ⟨⟨D0, D1, D2⟩, hD⟩ : ∃ B, pickV (pickT u draw) = B := ⟨_, rfl⟩
  rw [hA] at HP1 HBB
  rw [hD] at HP2 HBB
  rw [HAt.out, HAu.out]
  clear hA hD
  go_enter Try.func16, Try.ntmps16
  go_wp2_with (first | rw [HW1.out] | (go_at_call 10; refine (HKEY.out _).mono ?_; rintro e w1 ⟨rfl, rfl⟩))
  refine (HP1.out _ _ H1.out).mono ?_
  rintro e w4 ⟨rfl, hb4⟩
  have HT4 := Lib.hid (H1.out.below hb4).1
  have HU4 := Lib.hid (H1.out.below hb4).2
  obtain ⟨y0, y1, y2, y3⟩ := HBOX.out w4 _ HU4.out
  clear hb4
  go_wp2_with fail
  refine (HP2.out _ _ HT4.out).mono ?_
  rintro e w5 ⟨rfl, hb5⟩
  have HT5 := Lib.hid (HT4.out.below hb5).1
  have HU5 := Lib.hid (HU4.out.trans (HT4.out.below hb5).2)
  clear hb5
  have hbx := (Below.refl w5.heap.size w5).alloc (Nat.le_refl _) (.cells #[.string D0, .int .i64 D1] 53)
  have HT6 := Lib.hid (HT5.out.below hbx).1
  have HU6 := Lib.hid (HU5.out.trans (HT5.out.below hbx).2)
  clear hbx
  by_cases h0 : A0.toList = D0.toList
  · have q0 : (A0.toList == D0.toList) = true := by rw [h0]; simp
    by_cases h1 : A1 = D1
    · have q1 : (A1 == D1) = true := by rw [h1]; simp
      clear h0 h1
      go_wp2
      go_ret
      exact ⟨_, _, _, rfl, fun e => by have q := HBB.out e; simp only [Prod.mk.injEq] at q; rw [q.2.2]; simp, HT6.out, HU1.out.trans HU6.out⟩
    · have H := Lib.hid h1
      have q1 : (A1 == D1) = false := by rw [beq_eq_false_iff_ne]; exact h1
      clear h0 h1
      go_wp2
      go_ret
      exact ⟨_, _, _, rfl, fun e => by have q := HBB.out e; simp only [Prod.mk.injEq] at q; exact absurd q.2.1 H.out, HT6.out, HU1.out.trans HU6.out⟩
  · have H := Lib.hid h0
    have q0 : (A0.toList == D0.toList) = false := by rw [beq_eq_false_iff_ne]; exact h0
    clear h0
    go_wp2
    go_ret
    exact ⟨_, _, _, rfl, fun e => by have q := HBB.out e; simp only [Prod.mk.injEq] at q; exact absurd (by rw [q.1]) H.out, HT6.out, HU1.out.trans HU6.out⟩

set_option maxRecDepth 100000 in
set_option maxHeartbeats 16000000 in
theorem act_none {w : World} {b1 b2 Q1 Q2 seed m : Nat} {o1 o2 : Own} {t u : Tb Int} (_hs : seed < 18446744073709551616) (h : TwoAt w b1 b2 o1 o2 Q1 Q2 seed t u) (hgt : Good (hashT seed) m t) (hgu : Good (hashT seed) m u) (_hm : m ≤ 50000) (hkt : KeysT (fun k => k.length ≤ 1000) t) (hku : KeysT (fun k => k.length ≤ 1000) u)
    (kind : Int) (h0 : kind ≠ 1 ∧ kind ≠ 2 ∧ kind ≠ 3 ∧ kind ≠ 4 ∧ kind ≠ 5 ∧ kind ≠ 6) (v : Int) (S : ByteArray) (hS : S.size ≤ 9223372036854775807) (draw : Nat) :
    Calls Try.prog 16 #[.pointer (some ⟨Q1, 0, none⟩), .pointer (some ⟨Q2, 0, none⟩), .agg #[.int .i64 kind, .string S, .int .i64 v, .int .u64 draw]] w fun e w' => ∃ b o1' o2', e = .returned (.bool b) ∧ (t = u → b = true) ∧ TwoAt w' b1 b2 o1' o2' Q1 Q2 seed (actT seed t kind (cutK S).data.toList v) (actT seed u kind (cutK S).data.toList v) ∧ Turns (owU o1 o2) (owU o1' o2') w w' := by
  have HKEY := Lib.hid (fun W => key_any S W hS)
  have hC := cutK_size S
  obtain ⟨C, hCe⟩ : ∃ C, cutK S = C := ⟨_, rfl⟩
  rw [hCe] at HKEY hC ⊢
  obtain ⟨k, hke⟩ : ∃ k, C.data.toList = k := ⟨_, rfl⟩
  rw [hke]
  have HKE := Lib.hid hke
  obtain ⟨w1, hw1⟩ : ∃ w1, w.alloc (.cells #[.int .i64 kind, .string S, .int .i64 v, .int .u64 draw] 34) = w1 := ⟨_, rfl⟩
  have HW1 := Lib.hid hw1
  have hb1 : Below w.heap.size w w1 := by rw [← hw1]; exact (Below.refl _ _).alloc (Nat.le_refl _) _
  have hblk : w1.heap[w.heap.size]? = some (.cells #[.int .i64 kind, .string S, .int .i64 v, .int .u64 draw] 34 (0, 0)) := by rw [← hw1]; exact heap_alloc_new w _
  have hno : owU o1 o2 w.heap.size = none := by
    rw [owU_none]
    constructor
    · cases hq : o1 w.heap.size with
      | none => rfl
      | some x => exact absurd (h.dom1 (k := w.heap.size) (by rw [hq]; exact fun e => by cases e)).2 (Nat.lt_irrefl _)
    · cases hq : o2 w.heap.size with
      | none => rfl
      | some x => exact absurd (h.dom2 (k := w.heap.size) (by rw [hq]; exact fun e => by cases e)).2 (Nat.lt_irrefl _)
  have hsz : w1.heap.size = w.heap.size + 1 := by rw [← hw1]; simp
  obtain ⟨h1, u1⟩ := h.below hb1
  have HU1 := Lib.hid u1
  have H1 := Lib.hid h1
  have HBOX : Hid (∀ (W : World) (ow' : Own), Turns (owU o1 o2) ow' w1 W → W.cell? ⟨w.heap.size, 0, none⟩ = some (.int .i64 kind) ∧ W.cell? ⟨w.heap.size, 1, none⟩ = some (.string S) ∧ W.cell? ⟨w.heap.size, 2, none⟩ = some (.int .i64 v) ∧ W.cell? ⟨w.heap.size, 3, none⟩ = some (.int .u64 draw)) := fun W ow' hT => by
    have hq := (hT.block w.heap.size (by omega) hno).trans hblk
    exact ⟨by simp [World.cell?, hq], by simp [World.cell?, hq], by simp [World.cell?, hq], by simp [World.cell?, hq]⟩
  obtain ⟨x0, x1, x2, x3⟩ := HBOX.out w1 _ (Turns.refl _ _)
  have HGT := Lib.hid hgt
  have HGU := Lib.hid hgu
  have HKT := Lib.hid hkt
  have HKU := Lib.hid hku
  have hC2 : C.size ≤ 1000 := by omega
  clear h hgt hgu hkt hku hCe hke hw1 hb1 hblk h1 u1 hsz hno hC
  have HAt : Hid (actT seed t kind k v = t) := by unfold Hid actT; rw [if_neg h0.1, if_neg h0.2.1, if_neg h0.2.2.1, if_neg h0.2.2.2.2.1]
  have HAu : Hid (actT seed u kind k v = u) := by unfold Hid actT; rw [if_neg h0.1, if_neg h0.2.1, if_neg h0.2.2.1, if_neg h0.2.2.2.2.1]
  have k1 : (kind == 1) = false := by rw [beq_eq_false_iff_ne]; exact h0.1
  have k2 : (kind == 2) = false := by rw [beq_eq_false_iff_ne]; exact h0.2.1
  have k3 : (kind == 3) = false := by rw [beq_eq_false_iff_ne]; exact h0.2.2.1
  have k4 : (kind == 4) = false := by rw [beq_eq_false_iff_ne]; exact h0.2.2.2.1
  have k5 : (kind == 5) = false := by rw [beq_eq_false_iff_ne]; exact h0.2.2.2.2.1
  have k6 : (kind == 6) = false := by rw [beq_eq_false_iff_ne]; exact h0.2.2.2.2.2
  rw [HAt.out, HAu.out]
  clear h0
  go_enter Try.func16, Try.ntmps16
  go_wp2_with (first | rw [HW1.out] | (go_at_call 10; refine (HKEY.out _).mono ?_; rintro e w1 ⟨rfl, rfl⟩))
  try go_wp2
  go_ret
  exact ⟨_, _, _, rfl, fun _ => rfl, H1.out, HU1.out⟩

/-- Any act. -/
theorem act_any {w : World} {b1 b2 Q1 Q2 seed m : Nat} {o1 o2 : Own} {t u : Tb Int} (hpk : PickOk) (hs : seed < 18446744073709551616) (h : TwoAt w b1 b2 o1 o2 Q1 Q2 seed t u) (hgt : Good (hashT seed) m t) (hgu : Good (hashT seed) m u) (hm : m ≤ 50000) (hkt : KeysT (fun k => k.length ≤ 1000) t) (hku : KeysT (fun k => k.length ≤ 1000) u)
    (kind v : Int) (S : ByteArray) (hS : S.size ≤ 9223372036854775807) (draw : Nat) (hd : draw < 18446744073709551616) :
    Calls Try.prog 16 #[.pointer (some ⟨Q1, 0, none⟩), .pointer (some ⟨Q2, 0, none⟩), .agg #[.int .i64 kind, .string S, .int .i64 v, .int .u64 draw]] w fun e w' => ∃ b o1' o2', e = .returned (.bool b) ∧ (t = u → b = true) ∧ TwoAt w' b1 b2 o1' o2' Q1 Q2 seed (actT seed t kind (cutK S).data.toList v) (actT seed u kind (cutK S).data.toList v) ∧ Turns (owU o1 o2) (owU o1' o2') w w' := by
  by_cases h1 : kind = 1
  · subst h1; exact act_put hs h hgt hgu hm hkt hku v S hS draw
  by_cases h2 : kind = 2
  · subst h2; exact act_get hs h hgt hgu hm hkt hku v S hS draw
  by_cases h3 : kind = 3
  · subst h3; exact act_del hs h hgt hgu hm hkt hku v S hS draw
  by_cases h4 : kind = 4
  · subst h4; exact act_look hs h hgt hgu hm hkt hku v S hS draw
  by_cases h5 : kind = 5
  · subst h5; exact act_step hs h hgt hgu hm hkt hku v S hS draw
  by_cases h6 : kind = 6
  · subst h6; exact act_pick hpk hs h hgt hgu hm hkt hku v S hS draw hd
  exact act_none hs h hgt hgu hm hkt hku kind ⟨h1, h2, h3, h4, h5, h6⟩ v S hS draw

end Go.Proofs.Ytkjcoengijedeaa
