/-
  Each call of either table, over two tables in one memory. Conditions: both keep what tables keep; keys of at most 1000 bytes.
-/
import Derived.Test.YtkjcoengijedeaaTcB
namespace Go.Proofs.Ytkjcoengijedeaa
open Go.RowKit

section
variable {w : World} {b1 b2 Q1 Q2 seed m : Nat} {o1 o2 : Own} {t u : Tb Int}

theorem two_put (hs : seed < 18446744073709551616) (h : TwoAt w b1 b2 o1 o2 Q1 Q2 seed t u) (hg : Good (hashT seed) m t) (hm : m ≤ 50000) (hks : KeysT (fun k => k.length ≤ 1000) t) (k : List UInt8) (K : ByteArray) (hK : K.data.toList = k) (hK63 : K.size ≤ 1000) (v : Int) :
    Calls Try.prog 38 #[.pointer (some ⟨Q1, 0, none⟩), .string K, .int .i64 v] w fun e w' => e = .returned (.bool (lookT (hashT seed) (stepT (hashT seed) t) k).isSome) ∧ ∃ o', TwoAt w' b1 b2 o' o2 Q1 Q2 seed (putS (hashT seed) (stepT (hashT seed) t) k v) u ∧ Turns (owU o1 o2) (owU o' o2) w w' := by
  obtain ⟨gA, sA, gB, sB, hp⟩ := h.one
  refine (putI_any hs k K hK hK63 v w hp hg hm hks).mono ?_
  rintro e w' ⟨rfl, o', gA', sA', gB', sB', h1, h2⟩
  exact ⟨rfl, o', h.fst ⟨gA', sA', gB', sB', h1⟩ h2⟩

theorem two_del (hs : seed < 18446744073709551616) (h : TwoAt w b1 b2 o1 o2 Q1 Q2 seed t u) (hg : Good (hashT seed) m t) (hm : m ≤ 50000) (hks : KeysT (fun k => k.length ≤ 1000) t) (k : List UInt8) (K : ByteArray) (hK : K.data.toList = k) (hK63 : K.size ≤ 1000) :
    Calls Try.prog 39 #[.pointer (some ⟨Q1, 0, none⟩), .string K] w fun e w' => e = .returned (.bool (lookT (hashT seed) (stepT (hashT seed) t) k).isSome) ∧ ∃ o', TwoAt w' b1 b2 o' o2 Q1 Q2 seed (delS (hashT seed) (stepT (hashT seed) t) k) u ∧ Turns (owU o1 o2) (owU o' o2) w w' := by
  obtain ⟨gA, sA, gB, sB, hp⟩ := h.one
  refine (delI_any hs k K hK hK63 w hp hg hm hks).mono ?_
  rintro e w' ⟨rfl, o', gA', sA', gB', sB', h1, h2⟩
  exact ⟨rfl, o', h.fst ⟨gA', sA', gB', sB', h1⟩ h2⟩

theorem two_step (hs : seed < 18446744073709551616) (h : TwoAt w b1 b2 o1 o2 Q1 Q2 seed t u) (hg : Good (hashT seed) m t) (hm : m ≤ 50000) (hks : KeysT (fun k => k.length ≤ 1000) t) :
    Calls Try.prog 40 #[.pointer (some ⟨Q1, 0, none⟩)] w fun e w' => e = .returned (.bool (decide (0 < (stepT (hashT seed) t).B.length))) ∧ ∃ o', TwoAt w' b1 b2 o' o2 Q1 Q2 seed ((stepT (hashT seed) t)) u ∧ Turns (owU o1 o2) (owU o' o2) w w' := by
  obtain ⟨gA, sA, gB, sB, hp⟩ := h.one
  refine (stepI_any hs w hp hg hm hks).mono ?_
  rintro e w' ⟨rfl, o', gA', sA', gB', sB', h1, h2⟩
  exact ⟨rfl, o', h.fst ⟨gA', sA', gB', sB', h1⟩ h2⟩

theorem two_get (hs : seed < 18446744073709551616) (h : TwoAt w b1 b2 o1 o2 Q1 Q2 seed t u) (hg : Good (hashT seed) m t) (hm : m ≤ 50000) (hks : KeysT (fun k => k.length ≤ 1000) t) (k : List UInt8) (K : ByteArray) (hK : K.data.toList = k) (hK63 : K.size ≤ 1000) :
    Calls Try.prog 36 #[.pointer (some ⟨Q1, 0, none⟩), .string K] w fun e w' => e = .returned (.tuple #[.int .i64 (lookV (lookT (hashT seed) (stepT (hashT seed) t) k)).1, .bool (lookV (lookT (hashT seed) (stepT (hashT seed) t) k)).2]) ∧ ∃ o', TwoAt w' b1 b2 o' o2 Q1 Q2 seed (stepT (hashT seed) t) u ∧ Turns (owU o1 o2) (owU o' o2) w w' := by
  obtain ⟨gA, sA, gB, sB, hp⟩ := h.one
  refine (getI_any hs k K hK hK63 w hp hg hm hks).mono ?_
  rintro e w' ⟨rfl, o', gA', sA', gB', sB', h1, h2⟩
  exact ⟨by rw [(lookW_eq _).1, (lookW_eq _).2], o', h.fst ⟨gA', sA', gB', sB', h1⟩ h2⟩

theorem two_look (hs : seed < 18446744073709551616) (h : TwoAt w b1 b2 o1 o2 Q1 Q2 seed t u) (hg : Good (hashT seed) m t) (hm : m ≤ 50000) (k : List UInt8) (K : ByteArray) (hK : K.data.toList = k) (hK63 : K.size ≤ 1000) :
    Calls Try.prog 28 #[.pointer (some ⟨Q1, 0, none⟩), .string K] w fun e w' => e = .returned (.tuple #[.int .i64 (lookV (lookT (hashT seed) t k)).1, .bool (lookV (lookT (hashT seed) t k)).2]) ∧ Below w.heap.size w w' := by
  obtain ⟨gA, sA, gB, sB, hp⟩ := h.one
  refine (lookI_any hs k K hK (by omega) w hp hg (by omega)).mono ?_
  rintro e w' ⟨rfl, hb⟩
  exact ⟨by rw [(lookW_eq _).1, (lookW_eq _).2], hb⟩

theorem rtwo_put (hs : seed < 18446744073709551616) (h : TwoAt w b1 b2 o1 o2 Q1 Q2 seed t u) (hg : Good (hashT seed) m u) (hm : m ≤ 50000) (hks : KeysT (fun k => k.length ≤ 1000) u) (k : List UInt8) (K : ByteArray) (hK : K.data.toList = k) (hK63 : K.size ≤ 1000) (v : Int) :
    Calls Try.prog 45 #[.pointer (some ⟨Q2, 0, none⟩), .string K, .int .i64 v] w fun e w' => e = .returned (.bool (lookT (hashT seed) (stepT (hashT seed) u) k).isSome) ∧ ∃ o', TwoAt w' b1 b2 o1 o' Q1 Q2 seed t (putS (hashT seed) (stepT (hashT seed) u) k v) ∧ Turns (owU o1 o2) (owU o1 o') w w' := by
  obtain ⟨gA, sA, gB, sB, hp⟩ := h.two
  refine (rput_any hs k K hK hK63 v w hp hg hm hks).mono ?_
  rintro e w' ⟨rfl, o', gA', sA', gB', sB', h1, h2⟩
  exact ⟨rfl, o', h.snd ⟨gA', sA', gB', sB', h1⟩ h2⟩

theorem rtwo_del (hs : seed < 18446744073709551616) (h : TwoAt w b1 b2 o1 o2 Q1 Q2 seed t u) (hg : Good (hashT seed) m u) (hm : m ≤ 50000) (hks : KeysT (fun k => k.length ≤ 1000) u) (k : List UInt8) (K : ByteArray) (hK : K.data.toList = k) (hK63 : K.size ≤ 1000) :
    Calls Try.prog 47 #[.pointer (some ⟨Q2, 0, none⟩), .string K] w fun e w' => e = .returned (.bool (lookT (hashT seed) (stepT (hashT seed) u) k).isSome) ∧ ∃ o', TwoAt w' b1 b2 o1 o' Q1 Q2 seed t (delS (hashT seed) (stepT (hashT seed) u) k) ∧ Turns (owU o1 o2) (owU o1 o') w w' := by
  obtain ⟨gA, sA, gB, sB, hp⟩ := h.two
  refine (rdel_any hs k K hK hK63 w hp hg hm hks).mono ?_
  rintro e w' ⟨rfl, o', gA', sA', gB', sB', h1, h2⟩
  exact ⟨rfl, o', h.snd ⟨gA', sA', gB', sB', h1⟩ h2⟩

theorem rtwo_step (hs : seed < 18446744073709551616) (h : TwoAt w b1 b2 o1 o2 Q1 Q2 seed t u) (hg : Good (hashT seed) m u) (hm : m ≤ 50000) (hks : KeysT (fun k => k.length ≤ 1000) u) :
    Calls Try.prog 49 #[.pointer (some ⟨Q2, 0, none⟩)] w fun e w' => e = .returned (.bool (decide (0 < (stepT (hashT seed) u).B.length))) ∧ ∃ o', TwoAt w' b1 b2 o1 o' Q1 Q2 seed t ((stepT (hashT seed) u)) ∧ Turns (owU o1 o2) (owU o1 o') w w' := by
  obtain ⟨gA, sA, gB, sB, hp⟩ := h.two
  refine (rstep_any hs w hp hg hm hks).mono ?_
  rintro e w' ⟨rfl, o', gA', sA', gB', sB', h1, h2⟩
  exact ⟨rfl, o', h.snd ⟨gA', sA', gB', sB', h1⟩ h2⟩

theorem rtwo_get (hs : seed < 18446744073709551616) (h : TwoAt w b1 b2 o1 o2 Q1 Q2 seed t u) (hg : Good (hashT seed) m u) (hm : m ≤ 50000) (hks : KeysT (fun k => k.length ≤ 1000) u) (k : List UInt8) (K : ByteArray) (hK : K.data.toList = k) (hK63 : K.size ≤ 1000) :
    Calls Try.prog 46 #[.pointer (some ⟨Q2, 0, none⟩), .string K] w fun e w' => e = .returned (.tuple #[.int .i64 (lookV (lookT (hashT seed) (stepT (hashT seed) u) k)).1, .bool (lookV (lookT (hashT seed) (stepT (hashT seed) u) k)).2]) ∧ ∃ o', TwoAt w' b1 b2 o1 o' Q1 Q2 seed t (stepT (hashT seed) u) ∧ Turns (owU o1 o2) (owU o1 o') w w' := by
  obtain ⟨gA, sA, gB, sB, hp⟩ := h.two
  refine (rget_any hs k K hK hK63 w hp hg hm hks).mono ?_
  rintro e w' ⟨rfl, o', gA', sA', gB', sB', h1, h2⟩
  exact ⟨by rw [(lookW_eq _).1, (lookW_eq _).2], o', h.snd ⟨gA', sA', gB', sB', h1⟩ h2⟩

theorem rtwo_look (hs : seed < 18446744073709551616) (h : TwoAt w b1 b2 o1 o2 Q1 Q2 seed t u) (hg : Good (hashT seed) m u) (hm : m ≤ 50000) (k : List UInt8) (K : ByteArray) (hK : K.data.toList = k) (hK63 : K.size ≤ 1000) :
    Calls Try.prog 48 #[.pointer (some ⟨Q2, 0, none⟩), .string K] w fun e w' => e = .returned (.tuple #[.int .i64 (lookV (lookT (hashT seed) u k)).1, .bool (lookV (lookT (hashT seed) u k)).2]) ∧ Below w.heap.size w w' := by
  obtain ⟨gA, sA, gB, sB, hp⟩ := h.two
  refine (rlookT_any hs k K hK hK63 w hp hg hm).mono ?_
  rintro e w' ⟨rfl, hb⟩
  exact ⟨by rw [(lookW_eq _).1, (lookW_eq _).2], hb⟩

end

end Go.Proofs.Ytkjcoengijedeaa
