/-
  Two tables in one memory, package table's and the document's, that share nothing; what an act makes of a plain table. No program's code. Each call of either table, over two tables in one memory. Conditions: both keep what tables keep; keys of at most 1000 bytes. The statements' act, over two tables in one memory: what it makes of each, and that it tells true where both hold the same. Conditions: both keep what tables keep; Pick as told. The statements' act: Pick, no kind, any kind. Conditions: as typed.
-/
import Derived.Test.YtcjoakbaldeaoaaTcA
import Derived.Test.YtcjoakbaldeaoaaTrF
import Derived.Deep.RegionHeld3
namespace Go.Proofs.Ytcjoakbaldeaoaa
open Go.RowKit

section
/-- What an act makes. -/
def actT (seed : Nat) (t : Tb Int) (kind : Int) (k : List UInt8) (v : Int) : Tb Int :=
  if kind = 1 then putS (hashT seed) (stepT (hashT seed) t) k v
  else if kind = 2 then stepT (hashT seed) t
  else if kind = 3 then delS (hashT seed) (stepT (hashT seed) t) k
  else if kind = 5 then stepT (hashT seed) t
  else t

theorem good_act {seed m : Nat} {t : Tb Int} (g : Good (hashT seed) m t) (kind : Int) (k : List UInt8) (v : Int) : Good (hashT seed) (m + 1) (actT seed t kind k v) := by
  unfold actT
  split
  · exact good_put (good_step g) k v
  · split
    · exact (good_step g).mono (by omega)
    · split
      · exact (good_del (good_step g) k).mono (by omega)
      · split
        · exact (good_step g).mono (by omega)
        · exact g.mono (by omega)

theorem keys_act {seed : Nat} {p : List UInt8 → Prop} {t : Tb Int} (hs : KeysT p t) (kind : Int) (k : List UInt8) (hp : p k) (v : Int) : KeysT p (actT seed t kind k v) := by
  unfold actT
  split
  · exact keys_putS (keys_step hs) k hp v
  · split
    · exact keys_step hs
    · split
      · exact keys_delS (keys_step hs) k
      · split
        · exact keys_step hs
        · exact hs

def owU (o1 o2 : Own) : Own := fun k => match o1 k with
  | some x => some x
  | none => o2 k

theorem owU_none {o1 o2 : Own} {k : Nat} : owU o1 o2 k = none ↔ o1 k = none ∧ o2 k = none := by
  unfold owU
  cases h : o1 k <;> simp

/-- Two tables, and nothing is of both. -/
structure TwoAt (w : World) (b1 b2 : Nat) (o1 o2 : Own) (Q1 Q2 seed : Nat) (t u : Tb Int) : Prop where
  one : ∃ gA sA gB sB, PT KI w b1 o1 Q1 67 seed t gA sA gB sB
  two : ∃ gA sA gB sB, RT w b2 o2 Q2 seed u gA sA gB sB
  apart : ∀ k, o1 k ≠ none → o2 k = none

section
variable {w w' : World} {b1 b2 Q1 Q2 seed : Nat} {o1 o2 o1' o2' : Own} {t u t' u' : Tb Int}

theorem TwoAt.dom1 (h : TwoAt w b1 b2 o1 o2 Q1 Q2 seed t u) {k : Nat} (hk : o1 k ≠ none) : b1 ≤ k ∧ k < w.heap.size := by
  obtain ⟨gA, sA, gB, sB, hp⟩ := h.one
  exact TbOn.dom hp k hk
theorem TwoAt.dom2 (h : TwoAt w b1 b2 o1 o2 Q1 Q2 seed t u) {k : Nat} (hk : o2 k ≠ none) : b2 ≤ k ∧ k < w.heap.size := by
  obtain ⟨gA, sA, gB, sB, hp⟩ := h.two
  exact TbOn.dom hp k hk

theorem TwoAt.fst (h : TwoAt w b1 b2 o1 o2 Q1 Q2 seed t u) (hp : ∃ gA sA gB sB, PT KI w' b1 o1' Q1 67 seed t' gA sA gB sB) (ht : Turns o1 o1' w w') : TwoAt w' b1 b2 o1' o2 Q1 Q2 seed t' u ∧ Turns (owU o1 o2) (owU o1' o2) w w' := by
  have hap : ∀ k, o2 k ≠ none → o1 k = none := fun k hk => by
    cases hq : o1 k with
    | none => rfl
    | some x => exact absurd (h.apart k (by rw [hq]; exact fun e => by cases e)) hk
  refine ⟨⟨hp, ?_, fun k hk => ?_⟩, ht.os, ht.tape, ht.output, ht.size, fun k hk ho => ht.block k hk (owU_none.1 ho).1, fun k hk => ?_⟩
  · obtain ⟨gA, sA, gB, sB, hr⟩ := h.two
    exact ⟨gA, sA, gB, sB, TbOn.beside hr ht hap⟩
  · by_cases hlt : k < w.heap.size
    · exact h.apart k (by rw [← ht.same k hlt]; exact hk)
    · cases hq : o2 k with
      | none => rfl
      | some x => exact absurd (h.dom2 (k := k) (by rw [hq]; exact fun e => by cases e)).2 hlt
  · unfold owU
    rw [ht.same k hk]

theorem TwoAt.snd (h : TwoAt w b1 b2 o1 o2 Q1 Q2 seed t u) (hp : ∃ gA sA gB sB, RT w' b2 o2' Q2 seed u' gA sA gB sB) (ht : Turns o2 o2' w w') : TwoAt w' b1 b2 o1 o2' Q1 Q2 seed t u' ∧ Turns (owU o1 o2) (owU o1 o2') w w' := by
  refine ⟨⟨?_, hp, fun k hk => ?_⟩, ht.os, ht.tape, ht.output, ht.size, fun k hk ho => ht.block k hk (owU_none.1 ho).2, fun k hk => ?_⟩
  · obtain ⟨gA, sA, gB, sB, hr⟩ := h.one
    exact ⟨gA, sA, gB, sB, TbOn.beside hr ht h.apart⟩
  · rw [ht.same k (h.dom1 hk).2]
    exact h.apart k hk
  · unfold owU
    rw [ht.same k hk]

theorem TwoAt.below (h : TwoAt w b1 b2 o1 o2 Q1 Q2 seed t u) (hb : Below w.heap.size w w') : TwoAt w' b1 b2 o1 o2 Q1 Q2 seed t u ∧ Turns (owU o1 o2) (owU o1 o2) w w' := by
  obtain ⟨gA, sA, gB, sB, hp⟩ := h.one
  obtain ⟨gA', sA', gB', sB', hr⟩ := h.two
  exact ⟨⟨⟨gA, sA, gB, sB, TbOn.below hp hb⟩, ⟨gA', sA', gB', sB', TbOn.below hr hb⟩, h.apart⟩, Turns.of_below _ hb⟩

end

theorem lookW_eq (o : Option Int) : (lookW KI (0 : Int) o).1 = .int .i64 (lookV o).1 ∧ (lookW KI (0 : Int) o).2 = (lookV o).2 := by cases o <;> exact ⟨rfl, rfl⟩
end

section
section
variable {w : World} {b1 b2 Q1 Q2 seed m : Nat} {o1 o2 : Own} {t u : Tb Int}

theorem two_put (hs : seed < 18446744073709551616) (h : TwoAt w b1 b2 o1 o2 Q1 Q2 seed t u) (hg : Good (hashT seed) m t) (hm : m ≤ 50000) (hks : KeysT (fun k => k.length ≤ 1000) t) (k : List UInt8) (K : ByteArray) (hK : K.data.toList = k) (hK63 : K.size ≤ 1000) (v : Int) :
    Calls Try.prog 38 #[.pointer (some ⟨Q1, 0, none⟩), .string K, .int .i64 v] w fun e w' => e = .returned (.bool (lookT (hashT seed) (stepT (hashT seed) t) k).isSome) ∧ ∃ o', TwoAt w' b1 b2 o' o2 Q1 Q2 seed (putS (hashT seed) (stepT (hashT seed) t) k v) u ∧ Turns (owU o1 o2) (owU o' o2) w w' := by
  obtain ⟨gA, sA, gB, sB, hp⟩ := h.one
  refine (putI_any hs k K hK hK63 v w hp hg hm hks).mono ?_
  rintro e w' ⟨rfl, o', gA', sA', gB', sB', h1, h2⟩
  exact ⟨rfl, o', h.fst ⟨gA', sA', gB', sB', h1⟩ h2⟩

theorem two_del (hs : seed < 18446744073709551616) (h : TwoAt w b1 b2 o1 o2 Q1 Q2 seed t u) (hg : Good (hashT seed) m t) (hm : m ≤ 50000) (hks : KeysT (fun k => k.length ≤ 1000) t) (k : List UInt8) (K : ByteArray) (hK : K.data.toList = k) (hK63 : K.size ≤ 1000) :
    Calls Try.prog 39 #[.pointer (some ⟨Q1, 0, none⟩), .string K] w fun e w' => e = .returned (.bool (lookT (hashT seed) (stepT (hashT seed) t) k).isSome) ∧ ∃ o', TwoAt w' b1 b2 o' o2 Q1 Q2 seed (delS (hashT seed) (stepT (hashT seed) t) k) u ∧ Turns (owU o1 o2) (owU o' o2) w w' := by
  obtain ⟨gA, sA, gB, sB, hp⟩ := h.one
  refine (delI_any hs k K hK hK63 w hp hg hm hks).mono ?_
  rintro e w' ⟨rfl, o', gA', sA', gB', sB', h1, h2⟩
  exact ⟨rfl, o', h.fst ⟨gA', sA', gB', sB', h1⟩ h2⟩

theorem two_step (hs : seed < 18446744073709551616) (h : TwoAt w b1 b2 o1 o2 Q1 Q2 seed t u) (hg : Good (hashT seed) m t) (hm : m ≤ 50000) (hks : KeysT (fun k => k.length ≤ 1000) t) :
    Calls Try.prog 40 #[.pointer (some ⟨Q1, 0, none⟩)] w fun e w' => e = .returned (.bool (decide (0 < (stepT (hashT seed) t).B.length))) ∧ ∃ o', TwoAt w' b1 b2 o' o2 Q1 Q2 seed ((stepT (hashT seed) t)) u ∧ Turns (owU o1 o2) (owU o' o2) w w' := by
  obtain ⟨gA, sA, gB, sB, hp⟩ := h.one
  refine (stepI_any hs w hp hg hm hks).mono ?_
  rintro e w' ⟨rfl, o', gA', sA', gB', sB', h1, h2⟩
  exact ⟨rfl, o', h.fst ⟨gA', sA', gB', sB', h1⟩ h2⟩

theorem two_get (hs : seed < 18446744073709551616) (h : TwoAt w b1 b2 o1 o2 Q1 Q2 seed t u) (hg : Good (hashT seed) m t) (hm : m ≤ 50000) (hks : KeysT (fun k => k.length ≤ 1000) t) (k : List UInt8) (K : ByteArray) (hK : K.data.toList = k) (hK63 : K.size ≤ 1000) :
    Calls Try.prog 36 #[.pointer (some ⟨Q1, 0, none⟩), .string K] w fun e w' => e = .returned (.tuple #[.int .i64 (lookV (lookT (hashT seed) (stepT (hashT seed) t) k)).1, .bool (lookV (lookT (hashT seed) (stepT (hashT seed) t) k)).2]) ∧ ∃ o', TwoAt w' b1 b2 o' o2 Q1 Q2 seed (stepT (hashT seed) t) u ∧ Turns (owU o1 o2) (owU o' o2) w w' := by
  obtain ⟨gA, sA, gB, sB, hp⟩ := h.one
  refine (getI_any hs k K hK hK63 w hp hg hm hks).mono ?_
  rintro e w' ⟨rfl, o', gA', sA', gB', sB', h1, h2⟩
  exact ⟨by rw [(lookW_eq _).1, (lookW_eq _).2], o', h.fst ⟨gA', sA', gB', sB', h1⟩ h2⟩

theorem two_look (hs : seed < 18446744073709551616) (h : TwoAt w b1 b2 o1 o2 Q1 Q2 seed t u) (hg : Good (hashT seed) m t) (hm : m ≤ 50000) (k : List UInt8) (K : ByteArray) (hK : K.data.toList = k) (hK63 : K.size ≤ 1000) :
    Calls Try.prog 28 #[.pointer (some ⟨Q1, 0, none⟩), .string K] w fun e w' => e = .returned (.tuple #[.int .i64 (lookV (lookT (hashT seed) t k)).1, .bool (lookV (lookT (hashT seed) t k)).2]) ∧ Below w.heap.size w w' := by
  obtain ⟨gA, sA, gB, sB, hp⟩ := h.one
  refine (lookI_any hs k K hK (by omega) w hp hg (by omega)).mono ?_
  rintro e w' ⟨rfl, hb⟩
  exact ⟨by rw [(lookW_eq _).1, (lookW_eq _).2], hb⟩

theorem rtwo_put (hs : seed < 18446744073709551616) (h : TwoAt w b1 b2 o1 o2 Q1 Q2 seed t u) (hg : Good (hashT seed) m u) (hm : m ≤ 50000) (hks : KeysT (fun k => k.length ≤ 1000) u) (k : List UInt8) (K : ByteArray) (hK : K.data.toList = k) (hK63 : K.size ≤ 1000) (v : Int) :
    Calls Try.prog 45 #[.pointer (some ⟨Q2, 0, none⟩), .string K, .int .i64 v] w fun e w' => e = .returned (.bool (lookT (hashT seed) (stepT (hashT seed) u) k).isSome) ∧ ∃ o', TwoAt w' b1 b2 o1 o' Q1 Q2 seed t (putS (hashT seed) (stepT (hashT seed) u) k v) ∧ Turns (owU o1 o2) (owU o1 o') w w' := by
  obtain ⟨gA, sA, gB, sB, hp⟩ := h.two
  refine (rput_any hs k K hK hK63 v w hp hg hm hks).mono ?_
  rintro e w' ⟨rfl, o', gA', sA', gB', sB', h1, h2⟩
  exact ⟨rfl, o', h.snd ⟨gA', sA', gB', sB', h1⟩ h2⟩

theorem rtwo_del (hs : seed < 18446744073709551616) (h : TwoAt w b1 b2 o1 o2 Q1 Q2 seed t u) (hg : Good (hashT seed) m u) (hm : m ≤ 50000) (hks : KeysT (fun k => k.length ≤ 1000) u) (k : List UInt8) (K : ByteArray) (hK : K.data.toList = k) (hK63 : K.size ≤ 1000) :
    Calls Try.prog 47 #[.pointer (some ⟨Q2, 0, none⟩), .string K] w fun e w' => e = .returned (.bool (lookT (hashT seed) (stepT (hashT seed) u) k).isSome) ∧ ∃ o', TwoAt w' b1 b2 o1 o' Q1 Q2 seed t (delS (hashT seed) (stepT (hashT seed) u) k) ∧ Turns (owU o1 o2) (owU o1 o') w w' := by
  obtain ⟨gA, sA, gB, sB, hp⟩ := h.two
  refine (rdel_any hs k K hK hK63 w hp hg hm hks).mono ?_
  rintro e w' ⟨rfl, o', gA', sA', gB', sB', h1, h2⟩
  exact ⟨rfl, o', h.snd ⟨gA', sA', gB', sB', h1⟩ h2⟩

theorem rtwo_step (hs : seed < 18446744073709551616) (h : TwoAt w b1 b2 o1 o2 Q1 Q2 seed t u) (hg : Good (hashT seed) m u) (hm : m ≤ 50000) (hks : KeysT (fun k => k.length ≤ 1000) u) :
    Calls Try.prog 49 #[.pointer (some ⟨Q2, 0, none⟩)] w fun e w' => e = .returned (.bool (decide (0 < (stepT (hashT seed) u).B.length))) ∧ ∃ o', TwoAt w' b1 b2 o1 o' Q1 Q2 seed t ((stepT (hashT seed) u)) ∧ Turns (owU o1 o2) (owU o1 o') w w' := by
  obtain ⟨gA, sA, gB, sB, hp⟩ := h.two
  refine (rstep_any hs w hp hg hm hks).mono ?_
  rintro e w' ⟨rfl, o', gA', sA', gB', sB', h1, h2⟩
  exact ⟨rfl, o', h.snd ⟨gA', sA', gB', sB', h1⟩ h2⟩

theorem rtwo_get (hs : seed < 18446744073709551616) (h : TwoAt w b1 b2 o1 o2 Q1 Q2 seed t u) (hg : Good (hashT seed) m u) (hm : m ≤ 50000) (hks : KeysT (fun k => k.length ≤ 1000) u) (k : List UInt8) (K : ByteArray) (hK : K.data.toList = k) (hK63 : K.size ≤ 1000) :
    Calls Try.prog 46 #[.pointer (some ⟨Q2, 0, none⟩), .string K] w fun e w' => e = .returned (.tuple #[.int .i64 (lookV (lookT (hashT seed) (stepT (hashT seed) u) k)).1, .bool (lookV (lookT (hashT seed) (stepT (hashT seed) u) k)).2]) ∧ ∃ o', TwoAt w' b1 b2 o1 o' Q1 Q2 seed t (stepT (hashT seed) u) ∧ Turns (owU o1 o2) (owU o1 o') w w' := by
  obtain ⟨gA, sA, gB, sB, hp⟩ := h.two
  refine (rget_any hs k K hK hK63 w hp hg hm hks).mono ?_
  rintro e w' ⟨rfl, o', gA', sA', gB', sB', h1, h2⟩
  exact ⟨by rw [(lookW_eq _).1, (lookW_eq _).2], o', h.snd ⟨gA', sA', gB', sB', h1⟩ h2⟩

theorem rtwo_look (hs : seed < 18446744073709551616) (h : TwoAt w b1 b2 o1 o2 Q1 Q2 seed t u) (hg : Good (hashT seed) m u) (hm : m ≤ 50000) (k : List UInt8) (K : ByteArray) (hK : K.data.toList = k) (hK63 : K.size ≤ 1000) :
    Calls Try.prog 48 #[.pointer (some ⟨Q2, 0, none⟩), .string K] w fun e w' => e = .returned (.tuple #[.int .i64 (lookV (lookT (hashT seed) u k)).1, .bool (lookV (lookT (hashT seed) u k)).2]) ∧ Below w.heap.size w w' := by
  obtain ⟨gA, sA, gB, sB, hp⟩ := h.two
  refine (rlookT_any hs k K hK hK63 w hp hg hm).mono ?_
  rintro e w' ⟨rfl, hb⟩
  exact ⟨by rw [(lookW_eq _).1, (lookW_eq _).2], hb⟩

end
end

section
/-- What is asked of package table's Pick. -/
def PickOk : Prop := ∀ {base Q seed m : Nat} {ow : Own} {t : Tb Int} {gA gB : Nat} {sA sB : Nat → Value} (draw : Nat) (_ : draw < 18446744073709551616) (w : World) (_ : PT KI w base ow Q 67 seed t gA sA gB sB) (_ : Good (hashT seed) m t) (_ : m ≤ 50000) (_ : KeysT (fun k => k.length ≤ 1000) t),
    Calls Try.prog 37 #[.pointer (some ⟨Q, 0, none⟩), .int .u64 draw] w fun e w' => e = .returned (match pickT t draw with | some y => .tuple #[.string ⟨y.1.toArray⟩, .int .i64 y.2, .bool true] | none => .tuple #[.string ⟨#[]⟩, .int .i64 0, .bool false]) ∧ Below w.heap.size w w'

def pickV (o : Option (List UInt8 × Int)) : ByteArray × Int × Bool := match o with
  | some y => (⟨y.1.toArray⟩, y.2, true)
  | none => (⟨#[]⟩, 0, false)

set_option maxRecDepth 100000 in
set_option maxHeartbeats 16000000 in
theorem act_put {w : World} {b1 b2 Q1 Q2 seed m : Nat} {o1 o2 : Own} {t u : Tb Int} (hs : seed < 18446744073709551616) (h : TwoAt w b1 b2 o1 o2 Q1 Q2 seed t u) (hgt : Good (hashT seed) m t) (hgu : Good (hashT seed) m u) (hm : m ≤ 50000) (hkt : KeysT (fun k => k.length ≤ 1000) t) (hku : KeysT (fun k => k.length ≤ 1000) u)
    (v : Int) (S : ByteArray) (hS : S.size ≤ 9223372036854775807) (draw : Nat) :
    Calls Try.prog 16 #[.pointer (some ⟨Q1, 0, none⟩), .pointer (some ⟨Q2, 0, none⟩), .agg #[.int .i64 1, .string S, .int .i64 v, .int .u64 draw]] w fun e w' => ∃ b o1' o2', e = .returned (.bool b) ∧ (t = u → b = true) ∧ TwoAt w' b1 b2 o1' o2' Q1 Q2 seed (actT seed t 1 (cutK S).data.toList v) (actT seed u 1 (cutK S).data.toList v) ∧ Turns (owU o1 o2) (owU o1' o2') w w' := by
  have HKEY := Lib.hid (fun W => key_any S W hS)
  have hC := cutK_size S
  obtain ⟨C, hCe⟩ : ∃ C, cutK S = C := ⟨_, rfl⟩
  rw [hCe] at HKEY hC ⊢
  obtain ⟨k, hke⟩ : ∃ k, C.data.toList = k := ⟨_, rfl⟩
  rw [hke]
  have HKE := Lib.hid hke
  obtain ⟨w1, hw1⟩ : ∃ w1, w.alloc (.cells #[.int .i64 1, .string S, .int .i64 v, .int .u64 draw] 34) = w1 := ⟨_, rfl⟩
  have HW1 := Lib.hid hw1
  have hb1 : Below w.heap.size w w1 := by rw [← hw1]; exact (Below.refl _ _).alloc (Nat.le_refl _) _
  have hblk : w1.heap[w.heap.size]? = some (.cells #[.int .i64 1, .string S, .int .i64 v, .int .u64 draw] 34 (0, 0)) := by rw [← hw1]; exact heap_alloc_new w _
  have hno : owU o1 o2 w.heap.size = none := by
    rw [owU_none]
    constructor
    · cases hq : o1 w.heap.size with
      | none => rfl
      | some x => exact absurd (h.dom1 (k := w.heap.size) (by rw [hq]; exact fun e => by cases e)).2 (Nat.lt_irrefl _)
    · cases hq : o2 w.heap.size with
      | none => rfl
      | some x => exact absurd (h.dom2 (k := w.heap.size) (by rw [hq]; exact fun e => by cases e)).2 (Nat.lt_irrefl _)
  have hsz : w1.heap.size = w.heap.size + 1 := by rw [← hw1]; simp
  obtain ⟨h1, u1⟩ := h.below hb1
  have HU1 := Lib.hid u1
  have H1 := Lib.hid h1
  have HBOX : Hid (∀ (W : World) (ow' : Own), Turns (owU o1 o2) ow' w1 W → W.cell? ⟨w.heap.size, 0, none⟩ = some (.int .i64 1) ∧ W.cell? ⟨w.heap.size, 1, none⟩ = some (.string S) ∧ W.cell? ⟨w.heap.size, 2, none⟩ = some (.int .i64 v) ∧ W.cell? ⟨w.heap.size, 3, none⟩ = some (.int .u64 draw)) := fun W ow' hT => by
    have hq := (hT.block w.heap.size (by omega) hno).trans hblk
    exact ⟨by simp [World.cell?, hq], by simp [World.cell?, hq], by simp [World.cell?, hq], by simp [World.cell?, hq]⟩
  obtain ⟨x0, x1, x2, x3⟩ := HBOX.out w1 _ (Turns.refl _ _)
  have HGT := Lib.hid hgt
  have HGU := Lib.hid hgu
  have HKT := Lib.hid hkt
  have HKU := Lib.hid hku
  have hC2 : C.size ≤ 1000 := by omega
  clear h hgt hgu hkt hku hCe hke hw1 hb1 hblk h1 u1 hsz hno hC
  have HAt : Hid (actT seed t 1 k v = putS (hashT seed) (stepT (hashT seed) t) k v) := by unfold Hid actT; simp
  have HAu : Hid (actT seed u 1 k v = putS (hashT seed) (stepT (hashT seed) u) k v) := by unfold Hid actT; simp
  have HP1 := Lib.hid (fun W oo (hT : TwoAt W b1 b2 oo o2 Q1 Q2 seed t u) => two_put hs hT HGT.out hm HKT.out k C HKE.out hC2 v)
  have HP2 := Lib.hid (fun W oo t' (hT : TwoAt W b1 b2 oo o2 Q1 Q2 seed t' u) => rtwo_put hs hT HGU.out hm HKU.out k C HKE.out hC2 v)
  obtain ⟨B1, hB1⟩ : ∃ B, (lookT (hashT seed) (stepT (hashT seed) t) k).isSome = B := ⟨_, rfl⟩
  obtain ⟨B2, hB2⟩ : ∃ B, (lookT (hashT seed) (stepT (hashT seed) u) k).isSome = B := ⟨_, rfl⟩
  have HBB : Hid (t = u → (B1 == B2) = true) := fun e => by rw [← hB1, ← hB2, e]; simp
  rw [hB1] at HP1
  rw [hB2] at HP2
  rw [HAt.out, HAu.out]
  have HX0 := Lib.hid x2
  clear hB1 hB2
  go_enter Try.func16, Try.ntmps16
  go_wp2_with (first | rw [HW1.out] | (go_at_call 10; refine (HKEY.out _).mono ?_; rintro e w1 ⟨rfl, rfl⟩))
  go_region_law (first
    | (have qq := HT2; go_simp; go_at_call 45; refine (HP2.out _ _ _ (by first | exact HT2.out | exact (HT2.out.below (Below.refl _ _).drew).1)).mono ?_; rintro en w5 ⟨rfl, o5, hT5, hu5⟩; have HT5 := Lib.hid hT5; have HU5 : Hid (Turns (owU o1 o2) (owU o4 o5) w1 w5) := (by first | exact HU2.out.trans hu5 | exact (HU2.out.trans (Turns.of_below _ (Below.refl _ _).drew)).trans hu5); clear hT5 hu5)
    | (go_simp; go_at_call 38; refine (HP1.out _ _ (by first | exact H1.out | exact (H1.out.below (Below.refl _ _).drew).1)).mono ?_; rintro en w4 ⟨rfl, o4, hT4, hu4⟩; have HT2 := Lib.hid hT4; have HU2 : Hid (Turns (owU o1 o2) (owU o4 o2) w1 w4) := (by first | exact hu4 | exact (Turns.of_below _ (Below.refl w1.heap.size w1).drew).trans hu4); have y2 := (HBOX.out w4 _ HU2.out).2.2.1; clear hT4 hu4))
  all_goals
    go_wp2
    go_ret
    exact ⟨_, _, _, rfl, HBB.out, HT5.out, HU1.out.trans HU5.out⟩

set_option maxRecDepth 100000 in
set_option maxHeartbeats 16000000 in
theorem act_del {w : World} {b1 b2 Q1 Q2 seed m : Nat} {o1 o2 : Own} {t u : Tb Int} (hs : seed < 18446744073709551616) (h : TwoAt w b1 b2 o1 o2 Q1 Q2 seed t u) (hgt : Good (hashT seed) m t) (hgu : Good (hashT seed) m u) (hm : m ≤ 50000) (hkt : KeysT (fun k => k.length ≤ 1000) t) (hku : KeysT (fun k => k.length ≤ 1000) u)
    (v : Int) (S : ByteArray) (hS : S.size ≤ 9223372036854775807) (draw : Nat) :
    Calls Try.prog 16 #[.pointer (some ⟨Q1, 0, none⟩), .pointer (some ⟨Q2, 0, none⟩), .agg #[.int .i64 3, .string S, .int .i64 v, .int .u64 draw]] w fun e w' => ∃ b o1' o2', e = .returned (.bool b) ∧ (t = u → b = true) ∧ TwoAt w' b1 b2 o1' o2' Q1 Q2 seed (actT seed t 3 (cutK S).data.toList v) (actT seed u 3 (cutK S).data.toList v) ∧ Turns (owU o1 o2) (owU o1' o2') w w' := by
  have HKEY := Lib.hid (fun W => key_any S W hS)
  have hC := cutK_size S
  obtain ⟨C, hCe⟩ : ∃ C, cutK S = C := ⟨_, rfl⟩
  rw [hCe] at HKEY hC ⊢
  obtain ⟨k, hke⟩ : ∃ k, C.data.toList = k := ⟨_, rfl⟩
  rw [hke]
  have HKE := Lib.hid hke
  obtain ⟨w1, hw1⟩ : ∃ w1, w.alloc (.cells #[.int .i64 3, .string S, .int .i64 v, .int .u64 draw] 34) = w1 := ⟨_, rfl⟩
  have HW1 := Lib.hid hw1
  have hb1 : Below w.heap.size w w1 := by rw [← hw1]; exact (Below.refl _ _).alloc (Nat.le_refl _) _
  have hblk : w1.heap[w.heap.size]? = some (.cells #[.int .i64 3, .string S, .int .i64 v, .int .u64 draw] 34 (0, 0)) := by rw [← hw1]; exact heap_alloc_new w _
  have hno : owU o1 o2 w.heap.size = none := by
    rw [owU_none]
    constructor
    · cases hq : o1 w.heap.size with
      | none => rfl
      | some x => exact absurd (h.dom1 (k := w.heap.size) (by rw [hq]; exact fun e => by cases e)).2 (Nat.lt_irrefl _)
    · cases hq : o2 w.heap.size with
      | none => rfl
      | some x => exact absurd (h.dom2 (k := w.heap.size) (by rw [hq]; exact fun e => by cases e)).2 (Nat.lt_irrefl _)
  have hsz : w1.heap.size = w.heap.size + 1 := by rw [← hw1]; simp
  obtain ⟨h1, u1⟩ := h.below hb1
  have HU1 := Lib.hid u1
  have H1 := Lib.hid h1
  have HBOX : Hid (∀ (W : World) (ow' : Own), Turns (owU o1 o2) ow' w1 W → W.cell? ⟨w.heap.size, 0, none⟩ = some (.int .i64 3) ∧ W.cell? ⟨w.heap.size, 1, none⟩ = some (.string S) ∧ W.cell? ⟨w.heap.size, 2, none⟩ = some (.int .i64 v) ∧ W.cell? ⟨w.heap.size, 3, none⟩ = some (.int .u64 draw)) := fun W ow' hT => by
    have hq := (hT.block w.heap.size (by omega) hno).trans hblk
    exact ⟨by simp [World.cell?, hq], by simp [World.cell?, hq], by simp [World.cell?, hq], by simp [World.cell?, hq]⟩
  obtain ⟨x0, x1, x2, x3⟩ := HBOX.out w1 _ (Turns.refl _ _)
  have HGT := Lib.hid hgt
  have HGU := Lib.hid hgu
  have HKT := Lib.hid hkt
  have HKU := Lib.hid hku
  have hC2 : C.size ≤ 1000 := by omega
  clear h hgt hgu hkt hku hCe hke hw1 hb1 hblk h1 u1 hsz hno hC
  have HAt : Hid (actT seed t 3 k v = delS (hashT seed) (stepT (hashT seed) t) k) := by unfold Hid actT; simp
  have HAu : Hid (actT seed u 3 k v = delS (hashT seed) (stepT (hashT seed) u) k) := by unfold Hid actT; simp
  have HP1 := Lib.hid (fun W oo (hT : TwoAt W b1 b2 oo o2 Q1 Q2 seed t u) => two_del hs hT HGT.out hm HKT.out k C HKE.out hC2)
  have HP2 := Lib.hid (fun W oo t' (hT : TwoAt W b1 b2 oo o2 Q1 Q2 seed t' u) => rtwo_del hs hT HGU.out hm HKU.out k C HKE.out hC2)
  obtain ⟨A0, hA0⟩ : ∃ B, (lookT (hashT seed) (stepT (hashT seed) t) k).isSome = B := ⟨_, rfl⟩
  obtain ⟨D0, hD0⟩ : ∃ B, (lookT (hashT seed) (stepT (hashT seed) u) k).isSome = B := ⟨_, rfl⟩
  have HBB : Hid (t = u → A0 = D0) := fun e => by rw [← hA0, ← hD0, e]
  rw [hA0] at HP1
  rw [hD0] at HP2
  rw [HAt.out, HAu.out]
  clear hA0 hD0
  go_enter Try.func16, Try.ntmps16
  go_wp2_with (first | rw [HW1.out] | (go_at_call 10; refine (HKEY.out _).mono ?_; rintro e w1 ⟨rfl, rfl⟩))
  refine (HP1.out _ _ H1.out).mono ?_
  rintro e w4 ⟨rfl, o4, hT4, hu4⟩
  have HT4 := Lib.hid hT4
  have HU4 := Lib.hid hu4
  clear hT4 hu4
  go_wp2_with fail
  refine (HP2.out _ _ _ HT4.out).mono ?_
  rintro e w5 ⟨rfl, o5, hT5, hu5⟩
  have HT5 := Lib.hid hT5
  have HU5 := Lib.hid (HU4.out.trans hu5)
  clear hT5 hu5
  go_wp2
  go_ret
  exact ⟨_, _, _, rfl, fun e => by rw [HBB.out e]; simp, HT5.out, HU1.out.trans HU5.out⟩

set_option maxRecDepth 100000 in
set_option maxHeartbeats 16000000 in
theorem act_step {w : World} {b1 b2 Q1 Q2 seed m : Nat} {o1 o2 : Own} {t u : Tb Int} (hs : seed < 18446744073709551616) (h : TwoAt w b1 b2 o1 o2 Q1 Q2 seed t u) (hgt : Good (hashT seed) m t) (hgu : Good (hashT seed) m u) (hm : m ≤ 50000) (hkt : KeysT (fun k => k.length ≤ 1000) t) (hku : KeysT (fun k => k.length ≤ 1000) u)
    (v : Int) (S : ByteArray) (hS : S.size ≤ 9223372036854775807) (draw : Nat) :
    Calls Try.prog 16 #[.pointer (some ⟨Q1, 0, none⟩), .pointer (some ⟨Q2, 0, none⟩), .agg #[.int .i64 5, .string S, .int .i64 v, .int .u64 draw]] w fun e w' => ∃ b o1' o2', e = .returned (.bool b) ∧ (t = u → b = true) ∧ TwoAt w' b1 b2 o1' o2' Q1 Q2 seed (actT seed t 5 (cutK S).data.toList v) (actT seed u 5 (cutK S).data.toList v) ∧ Turns (owU o1 o2) (owU o1' o2') w w' := by
  have HKEY := Lib.hid (fun W => key_any S W hS)
  have hC := cutK_size S
  obtain ⟨C, hCe⟩ : ∃ C, cutK S = C := ⟨_, rfl⟩
  rw [hCe] at HKEY hC ⊢
  obtain ⟨k, hke⟩ : ∃ k, C.data.toList = k := ⟨_, rfl⟩
  rw [hke]
  have HKE := Lib.hid hke
  obtain ⟨w1, hw1⟩ : ∃ w1, w.alloc (.cells #[.int .i64 5, .string S, .int .i64 v, .int .u64 draw] 34) = w1 := ⟨_, rfl⟩
  have HW1 := Lib.hid hw1
  have hb1 : Below w.heap.size w w1 := by rw [← hw1]; exact (Below.refl _ _).alloc (Nat.le_refl _) _
  have hblk : w1.heap[w.heap.size]? = some (.cells #[.int .i64 5, .string S, .int .i64 v, .int .u64 draw] 34 (0, 0)) := by rw [← hw1]; exact heap_alloc_new w _
  have hno : owU o1 o2 w.heap.size = none := by
    rw [owU_none]
    constructor
    · cases hq : o1 w.heap.size with
      | none => rfl
      | some x => exact absurd (h.dom1 (k := w.heap.size) (by rw [hq]; exact fun e => by cases e)).2 (Nat.lt_irrefl _)
    · cases hq : o2 w.heap.size with
      | none => rfl
      | some x => exact absurd (h.dom2 (k := w.heap.size) (by rw [hq]; exact fun e => by cases e)).2 (Nat.lt_irrefl _)
  have hsz : w1.heap.size = w.heap.size + 1 := by rw [← hw1]; simp
  obtain ⟨h1, u1⟩ := h.below hb1
  have HU1 := Lib.hid u1
  have H1 := Lib.hid h1
  have HBOX : Hid (∀ (W : World) (ow' : Own), Turns (owU o1 o2) ow' w1 W → W.cell? ⟨w.heap.size, 0, none⟩ = some (.int .i64 5) ∧ W.cell? ⟨w.heap.size, 1, none⟩ = some (.string S) ∧ W.cell? ⟨w.heap.size, 2, none⟩ = some (.int .i64 v) ∧ W.cell? ⟨w.heap.size, 3, none⟩ = some (.int .u64 draw)) := fun W ow' hT => by
    have hq := (hT.block w.heap.size (by omega) hno).trans hblk
    exact ⟨by simp [World.cell?, hq], by simp [World.cell?, hq], by simp [World.cell?, hq], by simp [World.cell?, hq]⟩
  obtain ⟨x0, x1, x2, x3⟩ := HBOX.out w1 _ (Turns.refl _ _)
  have HGT := Lib.hid hgt
  have HGU := Lib.hid hgu
  have HKT := Lib.hid hkt
  have HKU := Lib.hid hku
  have hC2 : C.size ≤ 1000 := by omega
  clear h hgt hgu hkt hku hCe hke hw1 hb1 hblk h1 u1 hsz hno hC
  have HAt : Hid (actT seed t 5 k v = stepT (hashT seed) t) := by unfold Hid actT; simp
  have HAu : Hid (actT seed u 5 k v = stepT (hashT seed) u) := by unfold Hid actT; simp
  have HP1 := Lib.hid (fun W oo (hT : TwoAt W b1 b2 oo o2 Q1 Q2 seed t u) => two_step hs hT HGT.out hm HKT.out)
  have HP2 := Lib.hid (fun W oo t' (hT : TwoAt W b1 b2 oo o2 Q1 Q2 seed t' u) => rtwo_step hs hT HGU.out hm HKU.out)
  obtain ⟨A0, hA0⟩ : ∃ B, decide (0 < (stepT (hashT seed) t).B.length) = B := ⟨_, rfl⟩
  obtain ⟨D0, hD0⟩ : ∃ B, decide (0 < (stepT (hashT seed) u).B.length) = B := ⟨_, rfl⟩
  have HBB : Hid (t = u → A0 = D0) := fun e => by rw [← hA0, ← hD0, e]
  rw [hA0] at HP1
  rw [hD0] at HP2
  rw [HAt.out, HAu.out]
  clear hA0 hD0
  go_enter Try.func16, Try.ntmps16
  go_wp2_with (first | rw [HW1.out] | (go_at_call 10; refine (HKEY.out _).mono ?_; rintro e w1 ⟨rfl, rfl⟩))
  refine (HP1.out _ _ H1.out).mono ?_
  rintro e w4 ⟨rfl, o4, hT4, hu4⟩
  have HT4 := Lib.hid hT4
  have HU4 := Lib.hid hu4
  clear hT4 hu4
  go_wp2_with fail
  refine (HP2.out _ _ _ HT4.out).mono ?_
  rintro e w5 ⟨rfl, o5, hT5, hu5⟩
  have HT5 := Lib.hid hT5
  have HU5 := Lib.hid (HU4.out.trans hu5)
  clear hT5 hu5
  go_wp2
  go_ret
  exact ⟨_, _, _, rfl, fun e => by rw [HBB.out e]; simp, HT5.out, HU1.out.trans HU5.out⟩

set_option maxRecDepth 100000 in
set_option maxHeartbeats 16000000 in
theorem act_get {w : World} {b1 b2 Q1 Q2 seed m : Nat} {o1 o2 : Own} {t u : Tb Int} (hs : seed < 18446744073709551616) (h : TwoAt w b1 b2 o1 o2 Q1 Q2 seed t u) (hgt : Good (hashT seed) m t) (hgu : Good (hashT seed) m u) (hm : m ≤ 50000) (hkt : KeysT (fun k => k.length ≤ 1000) t) (hku : KeysT (fun k => k.length ≤ 1000) u)
    (v : Int) (S : ByteArray) (hS : S.size ≤ 9223372036854775807) (draw : Nat) :
    Calls Try.prog 16 #[.pointer (some ⟨Q1, 0, none⟩), .pointer (some ⟨Q2, 0, none⟩), .agg #[.int .i64 2, .string S, .int .i64 v, .int .u64 draw]] w fun e w' => ∃ b o1' o2', e = .returned (.bool b) ∧ (t = u → b = true) ∧ TwoAt w' b1 b2 o1' o2' Q1 Q2 seed (actT seed t 2 (cutK S).data.toList v) (actT seed u 2 (cutK S).data.toList v) ∧ Turns (owU o1 o2) (owU o1' o2') w w' := by
  have HKEY := Lib.hid (fun W => key_any S W hS)
  have hC := cutK_size S
  obtain ⟨C, hCe⟩ : ∃ C, cutK S = C := ⟨_, rfl⟩
  rw [hCe] at HKEY hC ⊢
  obtain ⟨k, hke⟩ : ∃ k, C.data.toList = k := ⟨_, rfl⟩
  rw [hke]
  have HKE := Lib.hid hke
  obtain ⟨w1, hw1⟩ : ∃ w1, w.alloc (.cells #[.int .i64 2, .string S, .int .i64 v, .int .u64 draw] 34) = w1 := ⟨_, rfl⟩
  have HW1 := Lib.hid hw1
  have hb1 : Below w.heap.size w w1 := by rw [← hw1]; exact (Below.refl _ _).alloc (Nat.le_refl _) _
  have hblk : w1.heap[w.heap.size]? = some (.cells #[.int .i64 2, .string S, .int .i64 v, .int .u64 draw] 34 (0, 0)) := by rw [← hw1]; exact heap_alloc_new w _
  have hno : owU o1 o2 w.heap.size = none := by
    rw [owU_none]
    constructor
    · cases hq : o1 w.heap.size with
      | none => rfl
      | some x => exact absurd (h.dom1 (k := w.heap.size) (by rw [hq]; exact fun e => by cases e)).2 (Nat.lt_irrefl _)
    · cases hq : o2 w.heap.size with
      | none => rfl
      | some x => exact absurd (h.dom2 (k := w.heap.size) (by rw [hq]; exact fun e => by cases e)).2 (Nat.lt_irrefl _)
  have hsz : w1.heap.size = w.heap.size + 1 := by rw [← hw1]; simp
  obtain ⟨h1, u1⟩ := h.below hb1
  have HU1 := Lib.hid u1
  have H1 := Lib.hid h1
  have HBOX : Hid (∀ (W : World) (ow' : Own), Turns (owU o1 o2) ow' w1 W → W.cell? ⟨w.heap.size, 0, none⟩ = some (.int .i64 2) ∧ W.cell? ⟨w.heap.size, 1, none⟩ = some (.string S) ∧ W.cell? ⟨w.heap.size, 2, none⟩ = some (.int .i64 v) ∧ W.cell? ⟨w.heap.size, 3, none⟩ = some (.int .u64 draw)) := fun W ow' hT => by
    have hq := (hT.block w.heap.size (by omega) hno).trans hblk
    exact ⟨by simp [World.cell?, hq], by simp [World.cell?, hq], by simp [World.cell?, hq], by simp [World.cell?, hq]⟩
  obtain ⟨x0, x1, x2, x3⟩ := HBOX.out w1 _ (Turns.refl _ _)
  have HGT := Lib.hid hgt
  have HGU := Lib.hid hgu
  have HKT := Lib.hid hkt
  have HKU := Lib.hid hku
  have hC2 : C.size ≤ 1000 := by omega
  clear h hgt hgu hkt hku hCe hke hw1 hb1 hblk h1 u1 hsz hno hC
  have HAt : Hid (actT seed t 2 k v = stepT (hashT seed) t) := by unfold Hid actT; simp
  have HAu : Hid (actT seed u 2 k v = stepT (hashT seed) u) := by unfold Hid actT; simp
  have HP1 := Lib.hid (fun W oo (hT : TwoAt W b1 b2 oo o2 Q1 Q2 seed t u) => two_get hs hT HGT.out hm HKT.out k C HKE.out hC2)
  have HP2 := Lib.hid (fun W oo t' (hT : TwoAt W b1 b2 oo o2 Q1 Q2 seed t' u) => rtwo_get hs hT HGU.out hm HKU.out k C HKE.out hC2)
  obtain ⟨A0, hA0⟩ : ∃ B, (lookV (lookT (hashT seed) (stepT (hashT seed) t) k)).1 = B := ⟨_, rfl⟩
  obtain ⟨D0, hD0⟩ : ∃ B, (lookV (lookT (hashT seed) (stepT (hashT seed) u) k)).1 = B := ⟨_, rfl⟩
  obtain ⟨A1, hA1⟩ : ∃ B, (lookV (lookT (hashT seed) (stepT (hashT seed) t) k)).2 = B := ⟨_, rfl⟩
  obtain ⟨D1, hD1⟩ : ∃ B, (lookV (lookT (hashT seed) (stepT (hashT seed) u) k)).2 = B := ⟨_, rfl⟩
  have HBB : Hid (t = u → A0 = D0 ∧ A1 = D1) := fun e => ⟨by rw [← hA0, ← hD0, e], by rw [← hA1, ← hD1, e]⟩
  rw [hA0, hA1] at HP1
  rw [hD0, hD1] at HP2
  rw [HAt.out, HAu.out]
  clear hA0 hD0 hA1 hD1
  go_enter Try.func16, Try.ntmps16
  go_wp2_with (first | rw [HW1.out] | (go_at_call 10; refine (HKEY.out _).mono ?_; rintro e w1 ⟨rfl, rfl⟩))
  refine (HP1.out _ _ H1.out).mono ?_
  rintro e w4 ⟨rfl, o4, hT4, hu4⟩
  have HT4 := Lib.hid hT4
  have HU4 := Lib.hid hu4
  clear hT4 hu4
  go_wp2_with fail
  refine (HP2.out _ _ _ HT4.out).mono ?_
  rintro e w5 ⟨rfl, o5, hT5, hu5⟩
  have HT5 := Lib.hid hT5
  have HU5 := Lib.hid (HU4.out.trans hu5)
  clear hT5 hu5
  by_cases hq : A0 = D0
  · have hqb : (A0 == D0) = true := by rw [hq]; simp
    clear hq
    go_wp2
    go_ret
    exact ⟨_, _, _, rfl, fun e => by rw [(HBB.out e).2]; simp, HT5.out, HU1.out.trans HU5.out⟩
  · have HQ := Lib.hid hq
    have hqb : (A0 == D0) = false := by rw [beq_eq_false_iff_ne]; exact hq
    clear hq
    go_wp2
    go_ret
    exact ⟨_, _, _, rfl, fun e => absurd (HBB.out e).1 HQ.out, HT5.out, HU1.out.trans HU5.out⟩

set_option maxRecDepth 100000 in
set_option maxHeartbeats 16000000 in
theorem act_look {w : World} {b1 b2 Q1 Q2 seed m : Nat} {o1 o2 : Own} {t u : Tb Int} (hs : seed < 18446744073709551616) (h : TwoAt w b1 b2 o1 o2 Q1 Q2 seed t u) (hgt : Good (hashT seed) m t) (hgu : Good (hashT seed) m u) (hm : m ≤ 50000) (hkt : KeysT (fun k => k.length ≤ 1000) t) (hku : KeysT (fun k => k.length ≤ 1000) u)
    (v : Int) (S : ByteArray) (hS : S.size ≤ 9223372036854775807) (draw : Nat) :
    Calls Try.prog 16 #[.pointer (some ⟨Q1, 0, none⟩), .pointer (some ⟨Q2, 0, none⟩), .agg #[.int .i64 4, .string S, .int .i64 v, .int .u64 draw]] w fun e w' => ∃ b o1' o2', e = .returned (.bool b) ∧ (t = u → b = true) ∧ TwoAt w' b1 b2 o1' o2' Q1 Q2 seed (actT seed t 4 (cutK S).data.toList v) (actT seed u 4 (cutK S).data.toList v) ∧ Turns (owU o1 o2) (owU o1' o2') w w' := by
  have HKEY := Lib.hid (fun W => key_any S W hS)
  have hC := cutK_size S
  obtain ⟨C, hCe⟩ : ∃ C, cutK S = C := ⟨_, rfl⟩
  rw [hCe] at HKEY hC ⊢
  obtain ⟨k, hke⟩ : ∃ k, C.data.toList = k := ⟨_, rfl⟩
  rw [hke]
  have HKE := Lib.hid hke
  obtain ⟨w1, hw1⟩ : ∃ w1, w.alloc (.cells #[.int .i64 4, .string S, .int .i64 v, .int .u64 draw] 34) = w1 := ⟨_, rfl⟩
  have HW1 := Lib.hid hw1
  have hb1 : Below w.heap.size w w1 := by rw [← hw1]; exact (Below.refl _ _).alloc (Nat.le_refl _) _
  have hblk : w1.heap[w.heap.size]? = some (.cells #[.int .i64 4, .string S, .int .i64 v, .int .u64 draw] 34 (0, 0)) := by rw [← hw1]; exact heap_alloc_new w _
  have hno : owU o1 o2 w.heap.size = none := by
    rw [owU_none]
    constructor
    · cases hq : o1 w.heap.size with
      | none => rfl
      | some x => exact absurd (h.dom1 (k := w.heap.size) (by rw [hq]; exact fun e => by cases e)).2 (Nat.lt_irrefl _)
    · cases hq : o2 w.heap.size with
      | none => rfl
      | some x => exact absurd (h.dom2 (k := w.heap.size) (by rw [hq]; exact fun e => by cases e)).2 (Nat.lt_irrefl _)
  have hsz : w1.heap.size = w.heap.size + 1 := by rw [← hw1]; simp
  obtain ⟨h1, u1⟩ := h.below hb1
  have HU1 := Lib.hid u1
  have H1 := Lib.hid h1
  have HBOX : Hid (∀ (W : World) (ow' : Own), Turns (owU o1 o2) ow' w1 W → W.cell? ⟨w.heap.size, 0, none⟩ = some (.int .i64 4) ∧ W.cell? ⟨w.heap.size, 1, none⟩ = some (.string S) ∧ W.cell? ⟨w.heap.size, 2, none⟩ = some (.int .i64 v) ∧ W.cell? ⟨w.heap.size, 3, none⟩ = some (.int .u64 draw)) := fun W ow' hT => by
    have hq := (hT.block w.heap.size (by omega) hno).trans hblk
    exact ⟨by simp [World.cell?, hq], by simp [World.cell?, hq], by simp [World.cell?, hq], by simp [World.cell?, hq]⟩
  obtain ⟨x0, x1, x2, x3⟩ := HBOX.out w1 _ (Turns.refl _ _)
  have HGT := Lib.hid hgt
  have HGU := Lib.hid hgu
  have HKT := Lib.hid hkt
  have HKU := Lib.hid hku
  have hC2 : C.size ≤ 1000 := by omega
  clear h hgt hgu hkt hku hCe hke hw1 hb1 hblk h1 u1 hsz hno hC
  have HAt : Hid (actT seed t 4 k v = t) := by unfold Hid actT; simp
  have HAu : Hid (actT seed u 4 k v = u) := by unfold Hid actT; simp
  have HP1 := Lib.hid (fun W oo (hT : TwoAt W b1 b2 oo o2 Q1 Q2 seed t u) => two_look hs hT HGT.out hm k C HKE.out hC2)
  have HP2 := Lib.hid (fun W oo t' (hT : TwoAt W b1 b2 oo o2 Q1 Q2 seed t' u) => rtwo_look hs hT HGU.out hm k C HKE.out hC2)
  obtain ⟨A0, hA0⟩ : ∃ B, (lookV (lookT (hashT seed) t k)).1 = B := ⟨_, rfl⟩
  obtain ⟨D0, hD0⟩ : ∃ B, (lookV (lookT (hashT seed) u k)).1 = B := ⟨_, rfl⟩
  obtain ⟨A1, hA1⟩ : ∃ B, (lookV (lookT (hashT seed) t k)).2 = B := ⟨_, rfl⟩
  obtain ⟨D1, hD1⟩ : ∃ B, (lookV (lookT (hashT seed) u k)).2 = B := ⟨_, rfl⟩
  have HBB : Hid (t = u → A0 = D0 ∧ A1 = D1) := fun e => ⟨by rw [← hA0, ← hD0, e], by rw [← hA1, ← hD1, e]⟩
  rw [hA0, hA1] at HP1
  rw [hD0, hD1] at HP2
  rw [HAt.out, HAu.out]
  clear hA0 hD0 hA1 hD1
  go_enter Try.func16, Try.ntmps16
  go_wp2_with (first | rw [HW1.out] | (go_at_call 10; refine (HKEY.out _).mono ?_; rintro e w1 ⟨rfl, rfl⟩))
  refine (HP1.out _ _ H1.out).mono ?_
  rintro e w4 ⟨rfl, hb4⟩
  have HT4 := Lib.hid (H1.out.below hb4).1
  have HU4 := Lib.hid (H1.out.below hb4).2
  clear hb4
  go_wp2_with fail
  refine (HP2.out _ _ _ HT4.out).mono ?_
  rintro e w5 ⟨rfl, hb5⟩
  have HT5 := Lib.hid (HT4.out.below hb5).1
  have HU5 := Lib.hid (HU4.out.trans (HT4.out.below hb5).2)
  clear hb5
  by_cases hq : A0 = D0
  · have hqb : (A0 == D0) = true := by rw [hq]; simp
    clear hq
    go_wp2
    go_ret
    exact ⟨_, _, _, rfl, fun e => by rw [(HBB.out e).2]; simp, HT5.out, HU1.out.trans HU5.out⟩
  · have HQ := Lib.hid hq
    have hqb : (A0 == D0) = false := by rw [beq_eq_false_iff_ne]; exact hq
    clear hq
    go_wp2
    go_ret
    exact ⟨_, _, _, rfl, fun e => absurd (HBB.out e).1 HQ.out, HT5.out, HU1.out.trans HU5.out⟩
end

section
theorem pick_tuple (o : Option (List UInt8 × Int)) : (match o with | some y => Value.tuple #[.string ⟨y.1.toArray⟩, .int .i64 y.2, .bool true] | none => .tuple #[.string ⟨#[]⟩, .int .i64 0, .bool false]) = .tuple #[.string (pickV o).1, .int .i64 (pickV o).2.1, .bool (pickV o).2.2] := by cases o <;> rfl
theorem rpick_tuple (o : Option (List UInt8 × Int)) : (match o with | some y => Value.tuple #[.agg #[.string ⟨y.1.toArray⟩, .int .i64 y.2], .bool true] | none => .tuple #[.agg #[.string ⟨#[]⟩, .int .i64 0], .bool false]) = .tuple #[.agg #[.string (pickV o).1, .int .i64 (pickV o).2.1], .bool (pickV o).2.2] := by cases o <;> rfl

set_option maxRecDepth 100000 in
set_option maxHeartbeats 16000000 in
theorem act_pick {w : World} {b1 b2 Q1 Q2 seed m : Nat} {o1 o2 : Own} {t u : Tb Int} (hpk : PickOk) (_hs : seed < 18446744073709551616) (h : TwoAt w b1 b2 o1 o2 Q1 Q2 seed t u) (hgt : Good (hashT seed) m t) (hgu : Good (hashT seed) m u) (hm : m ≤ 50000) (hkt : KeysT (fun k => k.length ≤ 1000) t) (hku : KeysT (fun k => k.length ≤ 1000) u)
    (v : Int) (S : ByteArray) (hS : S.size ≤ 9223372036854775807) (draw : Nat) (hd : draw < 18446744073709551616) :
    Calls Try.prog 16 #[.pointer (some ⟨Q1, 0, none⟩), .pointer (some ⟨Q2, 0, none⟩), .agg #[.int .i64 6, .string S, .int .i64 v, .int .u64 draw]] w fun e w' => ∃ b o1' o2', e = .returned (.bool b) ∧ (t = u → b = true) ∧ TwoAt w' b1 b2 o1' o2' Q1 Q2 seed (actT seed t 6 (cutK S).data.toList v) (actT seed u 6 (cutK S).data.toList v) ∧ Turns (owU o1 o2) (owU o1' o2') w w' := by
  have HKEY := Lib.hid (fun W => key_any S W hS)
  have hC := cutK_size S
  obtain ⟨C, hCe⟩ : ∃ C, cutK S = C := ⟨_, rfl⟩
  rw [hCe] at HKEY hC ⊢
  obtain ⟨k, hke⟩ : ∃ k, C.data.toList = k := ⟨_, rfl⟩
  rw [hke]
  have HKE := Lib.hid hke
  obtain ⟨w1, hw1⟩ : ∃ w1, w.alloc (.cells #[.int .i64 6, .string S, .int .i64 v, .int .u64 draw] 34) = w1 := ⟨_, rfl⟩
  have HW1 := Lib.hid hw1
  have hb1 : Below w.heap.size w w1 := by rw [← hw1]; exact (Below.refl _ _).alloc (Nat.le_refl _) _
  have hblk : w1.heap[w.heap.size]? = some (.cells #[.int .i64 6, .string S, .int .i64 v, .int .u64 draw] 34 (0, 0)) := by rw [← hw1]; exact heap_alloc_new w _
  have hno : owU o1 o2 w.heap.size = none := by
    rw [owU_none]
    constructor
    · cases hq : o1 w.heap.size with
      | none => rfl
      | some x => exact absurd (h.dom1 (k := w.heap.size) (by rw [hq]; exact fun e => by cases e)).2 (Nat.lt_irrefl _)
    · cases hq : o2 w.heap.size with
      | none => rfl
      | some x => exact absurd (h.dom2 (k := w.heap.size) (by rw [hq]; exact fun e => by cases e)).2 (Nat.lt_irrefl _)
  have hsz : w1.heap.size = w.heap.size + 1 := by rw [← hw1]; simp
  obtain ⟨h1, u1⟩ := h.below hb1
  have HU1 := Lib.hid u1
  have H1 := Lib.hid h1
  have HBOX : Hid (∀ (W : World) (ow' : Own), Turns (owU o1 o2) ow' w1 W → W.cell? ⟨w.heap.size, 0, none⟩ = some (.int .i64 6) ∧ W.cell? ⟨w.heap.size, 1, none⟩ = some (.string S) ∧ W.cell? ⟨w.heap.size, 2, none⟩ = some (.int .i64 v) ∧ W.cell? ⟨w.heap.size, 3, none⟩ = some (.int .u64 draw)) := fun W ow' hT => by
    have hq := (hT.block w.heap.size (by omega) hno).trans hblk
    exact ⟨by simp [World.cell?, hq], by simp [World.cell?, hq], by simp [World.cell?, hq], by simp [World.cell?, hq]⟩
  obtain ⟨x0, x1, x2, x3⟩ := HBOX.out w1 _ (Turns.refl _ _)
  have HGT := Lib.hid hgt
  have HGU := Lib.hid hgu
  have HKT := Lib.hid hkt
  have HKU := Lib.hid hku
  have hC2 : C.size ≤ 1000 := by omega
  clear h hgt hgu hkt hku hCe hke hw1 hb1 hblk h1 u1 hsz hno hC
  have HAt : Hid (actT seed t 6 k v = t) := by unfold Hid actT; simp
  have HAu : Hid (actT seed u 6 k v = u) := by unfold Hid actT; simp
  have HP1 : Hid (∀ W oo, TwoAt W b1 b2 oo o2 Q1 Q2 seed t u → Calls Try.prog 37 #[.pointer (some ⟨Q1, 0, none⟩), .int .u64 draw] W fun e w' => e = .returned (.tuple #[.string (pickV (pickT t draw)).1, .int .i64 (pickV (pickT t draw)).2.1, .bool (pickV (pickT t draw)).2.2]) ∧ Below W.heap.size W w') := fun W oo hT => by
    obtain ⟨gA, sA, gB, sB, hp⟩ := hT.one
    refine (hpk draw hd W hp HGT.out hm HKT.out).mono ?_
    rintro e w' ⟨rfl, hb⟩
    exact ⟨congrArg Ending.returned (pick_tuple _), hb⟩
  have HP2 : Hid (∀ W oo, TwoAt W b1 b2 oo o2 Q1 Q2 seed t u → Calls Try.prog 50 #[.pointer (some ⟨Q2, 0, none⟩), .int .u64 draw] W fun e w' => e = .returned (.tuple #[.agg #[.string (pickV (pickT u draw)).1, .int .i64 (pickV (pickT u draw)).2.1], .bool (pickV (pickT u draw)).2.2]) ∧ Below W.heap.size W w') := fun W oo hT => by
    obtain ⟨gA, sA, gB, sB, hp⟩ := hT.two
    refine (rpick_any draw hd W hp HGU.out hm).mono ?_
    rintro e w' ⟨rfl, hb⟩
    exact ⟨congrArg Ending.returned (rpick_tuple _), hb⟩
  have HBB : Hid (t = u → pickV (pickT t draw) = pickV (pickT u draw)) := fun e => by rw [e]
  obtain ⟨⟨A0, A1, A2⟩, hA⟩ : ∃ B, pickV (pickT t draw) = B := ⟨_, rfl⟩
  obtain ⟨⟨D0, D1, D2⟩, hD⟩ : ∃ B, pickV (pickT u draw) = B := ⟨_, rfl⟩
  rw [hA] at HP1 HBB
  rw [hD] at HP2 HBB
  rw [HAt.out, HAu.out]
  clear hA hD
  go_enter Try.func16, Try.ntmps16
  go_wp2_with (first | rw [HW1.out] | (go_at_call 10; refine (HKEY.out _).mono ?_; rintro e w1 ⟨rfl, rfl⟩))
  refine (HP1.out _ _ H1.out).mono ?_
  rintro e w4 ⟨rfl, hb4⟩
  have HT4 := Lib.hid (H1.out.below hb4).1
  have HU4 := Lib.hid (H1.out.below hb4).2
  obtain ⟨y0, y1, y2, y3⟩ := HBOX.out w4 _ HU4.out
  clear hb4
  go_wp2_with fail
  refine (HP2.out _ _ HT4.out).mono ?_
  rintro e w5 ⟨rfl, hb5⟩
  have HT5 := Lib.hid (HT4.out.below hb5).1
  have HU5 := Lib.hid (HU4.out.trans (HT4.out.below hb5).2)
  clear hb5
  have hbx := (Below.refl w5.heap.size w5).alloc (Nat.le_refl _) (.cells #[.string D0, .int .i64 D1] 53)
  have HT6 := Lib.hid (HT5.out.below hbx).1
  have HU6 := Lib.hid (HU5.out.trans (HT5.out.below hbx).2)
  clear hbx
  by_cases h0 : A0.toList = D0.toList
  · have q0 : (A0.toList == D0.toList) = true := by rw [h0]; simp
    by_cases h1 : A1 = D1
    · have q1 : (A1 == D1) = true := by rw [h1]; simp
      clear h0 h1
      go_wp2
      go_ret
      exact ⟨_, _, _, rfl, fun e => by have q := HBB.out e; simp only [Prod.mk.injEq] at q; rw [q.2.2]; simp, HT6.out, HU1.out.trans HU6.out⟩
    · have H := Lib.hid h1
      have q1 : (A1 == D1) = false := by rw [beq_eq_false_iff_ne]; exact h1
      clear h0 h1
      go_wp2
      go_ret
      exact ⟨_, _, _, rfl, fun e => by have q := HBB.out e; simp only [Prod.mk.injEq] at q; exact absurd q.2.1 H.out, HT6.out, HU1.out.trans HU6.out⟩
  · have H := Lib.hid h0
    have q0 : (A0.toList == D0.toList) = false := by rw [beq_eq_false_iff_ne]; exact h0
    clear h0
    go_wp2
    go_ret
    exact ⟨_, _, _, rfl, fun e => by have q := HBB.out e; simp only [Prod.mk.injEq] at q; exact absurd (by rw [q.1]) H.out, HT6.out, HU1.out.trans HU6.out⟩

set_option maxRecDepth 100000 in
set_option maxHeartbeats 16000000 in
theorem act_none {w : World} {b1 b2 Q1 Q2 seed m : Nat} {o1 o2 : Own} {t u : Tb Int} (_hs : seed < 18446744073709551616) (h : TwoAt w b1 b2 o1 o2 Q1 Q2 seed t u) (hgt : Good (hashT seed) m t) (hgu : Good (hashT seed) m u) (_hm : m ≤ 50000) (hkt : KeysT (fun k => k.length ≤ 1000) t) (hku : KeysT (fun k => k.length ≤ 1000) u)
    (kind : Int) (h0 : kind ≠ 1 ∧ kind ≠ 2 ∧ kind ≠ 3 ∧ kind ≠ 4 ∧ kind ≠ 5 ∧ kind ≠ 6) (v : Int) (S : ByteArray) (hS : S.size ≤ 9223372036854775807) (draw : Nat) :
    Calls Try.prog 16 #[.pointer (some ⟨Q1, 0, none⟩), .pointer (some ⟨Q2, 0, none⟩), .agg #[.int .i64 kind, .string S, .int .i64 v, .int .u64 draw]] w fun e w' => ∃ b o1' o2', e = .returned (.bool b) ∧ (t = u → b = true) ∧ TwoAt w' b1 b2 o1' o2' Q1 Q2 seed (actT seed t kind (cutK S).data.toList v) (actT seed u kind (cutK S).data.toList v) ∧ Turns (owU o1 o2) (owU o1' o2') w w' := by
  have HKEY := Lib.hid (fun W => key_any S W hS)
  have hC := cutK_size S
  obtain ⟨C, hCe⟩ : ∃ C, cutK S = C := ⟨_, rfl⟩
  rw [hCe] at HKEY hC ⊢
  obtain ⟨k, hke⟩ : ∃ k, C.data.toList = k := ⟨_, rfl⟩
  rw [hke]
  have HKE := Lib.hid hke
  obtain ⟨w1, hw1⟩ : ∃ w1, w.alloc (.cells #[.int .i64 kind, .string S, .int .i64 v, .int .u64 draw] 34) = w1 := ⟨_, rfl⟩
  have HW1 := Lib.hid hw1
  have hb1 : Below w.heap.size w w1 := by rw [← hw1]; exact (Below.refl _ _).alloc (Nat.le_refl _) _
  have hblk : w1.heap[w.heap.size]? = some (.cells #[.int .i64 kind, .string S, .int .i64 v, .int .u64 draw] 34 (0, 0)) := by rw [← hw1]; exact heap_alloc_new w _
  have hno : owU o1 o2 w.heap.size = none := by
    rw [owU_none]
    constructor
    · cases hq : o1 w.heap.size with
      | none => rfl
      | some x => exact absurd (h.dom1 (k := w.heap.size) (by rw [hq]; exact fun e => by cases e)).2 (Nat.lt_irrefl _)
    · cases hq : o2 w.heap.size with
      | none => rfl
      | some x => exact absurd (h.dom2 (k := w.heap.size) (by rw [hq]; exact fun e => by cases e)).2 (Nat.lt_irrefl _)
  have hsz : w1.heap.size = w.heap.size + 1 := by rw [← hw1]; simp
  obtain ⟨h1, u1⟩ := h.below hb1
  have HU1 := Lib.hid u1
  have H1 := Lib.hid h1
  have HBOX : Hid (∀ (W : World) (ow' : Own), Turns (owU o1 o2) ow' w1 W → W.cell? ⟨w.heap.size, 0, none⟩ = some (.int .i64 kind) ∧ W.cell? ⟨w.heap.size, 1, none⟩ = some (.string S) ∧ W.cell? ⟨w.heap.size, 2, none⟩ = some (.int .i64 v) ∧ W.cell? ⟨w.heap.size, 3, none⟩ = some (.int .u64 draw)) := fun W ow' hT => by
    have hq := (hT.block w.heap.size (by omega) hno).trans hblk
    exact ⟨by simp [World.cell?, hq], by simp [World.cell?, hq], by simp [World.cell?, hq], by simp [World.cell?, hq]⟩
  obtain ⟨x0, x1, x2, x3⟩ := HBOX.out w1 _ (Turns.refl _ _)
  have HGT := Lib.hid hgt
  have HGU := Lib.hid hgu
  have HKT := Lib.hid hkt
  have HKU := Lib.hid hku
  have hC2 : C.size ≤ 1000 := by omega
  clear h hgt hgu hkt hku hCe hke hw1 hb1 hblk h1 u1 hsz hno hC
  have HAt : Hid (actT seed t kind k v = t) := by unfold Hid actT; rw [if_neg h0.1, if_neg h0.2.1, if_neg h0.2.2.1, if_neg h0.2.2.2.2.1]
  have HAu : Hid (actT seed u kind k v = u) := by unfold Hid actT; rw [if_neg h0.1, if_neg h0.2.1, if_neg h0.2.2.1, if_neg h0.2.2.2.2.1]
  have k1 : (kind == 1) = false := by rw [beq_eq_false_iff_ne]; exact h0.1
  have k2 : (kind == 2) = false := by rw [beq_eq_false_iff_ne]; exact h0.2.1
  have k3 : (kind == 3) = false := by rw [beq_eq_false_iff_ne]; exact h0.2.2.1
  have k4 : (kind == 4) = false := by rw [beq_eq_false_iff_ne]; exact h0.2.2.2.1
  have k5 : (kind == 5) = false := by rw [beq_eq_false_iff_ne]; exact h0.2.2.2.2.1
  have k6 : (kind == 6) = false := by rw [beq_eq_false_iff_ne]; exact h0.2.2.2.2.2
  rw [HAt.out, HAu.out]
  clear h0
  go_enter Try.func16, Try.ntmps16
  go_wp2_with (first | rw [HW1.out] | (go_at_call 10; refine (HKEY.out _).mono ?_; rintro e w1 ⟨rfl, rfl⟩))
  try go_wp2
  go_ret
  exact ⟨_, _, _, rfl, fun _ => rfl, H1.out, HU1.out⟩

/-- Any act. -/
theorem act_any {w : World} {b1 b2 Q1 Q2 seed m : Nat} {o1 o2 : Own} {t u : Tb Int} (hpk : PickOk) (hs : seed < 18446744073709551616) (h : TwoAt w b1 b2 o1 o2 Q1 Q2 seed t u) (hgt : Good (hashT seed) m t) (hgu : Good (hashT seed) m u) (hm : m ≤ 50000) (hkt : KeysT (fun k => k.length ≤ 1000) t) (hku : KeysT (fun k => k.length ≤ 1000) u)
    (kind v : Int) (S : ByteArray) (hS : S.size ≤ 9223372036854775807) (draw : Nat) (hd : draw < 18446744073709551616) :
    Calls Try.prog 16 #[.pointer (some ⟨Q1, 0, none⟩), .pointer (some ⟨Q2, 0, none⟩), .agg #[.int .i64 kind, .string S, .int .i64 v, .int .u64 draw]] w fun e w' => ∃ b o1' o2', e = .returned (.bool b) ∧ (t = u → b = true) ∧ TwoAt w' b1 b2 o1' o2' Q1 Q2 seed (actT seed t kind (cutK S).data.toList v) (actT seed u kind (cutK S).data.toList v) ∧ Turns (owU o1 o2) (owU o1' o2') w w' := by
  by_cases h1 : kind = 1
  · subst h1; exact act_put hs h hgt hgu hm hkt hku v S hS draw
  by_cases h2 : kind = 2
  · subst h2; exact act_get hs h hgt hgu hm hkt hku v S hS draw
  by_cases h3 : kind = 3
  · subst h3; exact act_del hs h hgt hgu hm hkt hku v S hS draw
  by_cases h4 : kind = 4
  · subst h4; exact act_look hs h hgt hgu hm hkt hku v S hS draw
  by_cases h5 : kind = 5
  · subst h5; exact act_step hs h hgt hgu hm hkt hku v S hS draw
  by_cases h6 : kind = 6
  · subst h6; exact act_pick hpk hs h hgt hgu hm hkt hku v S hS draw hd
  exact act_none hs h hgt hgu hm hkt hku kind ⟨h1, h2, h3, h4, h5, h6⟩ v S hS draw
end

end Go.Proofs.Ytcjoakbaldeaoaa
