/-
  The walk of the document's own reader: Feed. Conditions: the reader's bytes lie where its slice says; what is fed is a slice that reads as its bytes, nil among others.
-/
import Derived.Test.YtkaododohnncnaaRpV
import Derived.Test.YtkaododohnncnaaRpP
namespace Go.Proofs.Ytkaododohnncnaa
open Go.RowKit

-- Package resp's Feed behind a fault.
set_option maxRecDepth 100000 in
set_option maxHeartbeats 1000000 in
theorem pfeed_over (G : Nat) (kv : Value) (kept : List UInt8) (v : Value) (w : World) (h : RdS w G kv kept true) :
    Calls Try.prog 6 #[.pointer (some ⟨G, 0, none⟩), v] w fun e w' => e = .returned (.tuple #[.slice none 0 0, .string ⟨#[]⟩, .int .i64 20]) ∧ w = w' := by
  have HM := Lib.hid (pisMade_yes G w h.c0)
  have hc2 := h.c2
  clear h
  go_enter Try.func6, Try.ntmps6
  go_wp2_with fail
  refine HM.out.mono ?_
  rintro e w' ⟨rfl, rfl⟩
  go_wp2
  go_ret3
  exact ⟨rfl, rfl⟩

/-- The document's reader: what it keeps, and whether it is done. -/
structure RdR (w : World) (S : Nat) (bv : Value) (kept : List UInt8) (done : Bool) : Prop where
  lt : S < w.heap.size
  c0 : w.cell? ⟨S, 0, none⟩ = some bv
  c1 : w.cell? ⟨S, 1, none⟩ = some (.bool done)
  f0 : w.frozen? ⟨S, 0, none⟩ = false
  f1 : w.frozen? ⟨S, 1, none⟩ = false
  src : SrcAt w bv kept
  ne : bv.ownBlock ≠ some S

/-- The document's Split, whatever the slice of the call's own. -/
theorem rsplit_own (cap : Nat) (A : Option Addr) (y : List UInt8) (base : Nat) (w : World) (h : w.ownsRow base 5 1 (.slice A y.length cap) y.length (Lib.byteCells y)) (hbig : y.length ≤ 1099511627776) :
    Calls Try.prog 13 #[.slice A y.length cap] w (SplitPost w (splitS y)) := by
  rcases h.2 with ⟨h1, h2⟩ | ⟨g, cap', cur, h1, h2, h3, h4, h5, _⟩
  · obtain rfl : y = [] := List.length_eq_zero_iff.1 h2
    rw [split_nil]
    exact rsplit_empty A cap w
  · simp only [Value.slice.injEq, true_and] at h1
    obtain ⟨rfl, rfl⟩ := h1
    exact rsplit_any g 0 cap y w h4 (by unfold maxLen at h5; omega) hbig (Array.getElem?_eq_some_iff.1 h3).1 (own_bytes h)

/-- What the document's Feed tells, and what its reader holds behind it. -/
def RFeedPost (w : World) (S : Nat) (y : List UInt8) (e : Ending) (w' : World) : Prop :=
  Mod w S none w' ∧ (∃ vl, e = .returned (.tuple #[vl, .string ⟨(splitS y).2.2.toArray⟩, .int .i64 0]) ∧ OwnsReqs w' w.heap.size vl (splitS y).1) ∧
    ∃ bv', RdR w' S bv' (restS y) (decide ((splitS y).2.2 ≠ [])) ∧ ∀ k, bv'.ownBlock = some k → w.heap.size ≤ k

set_option maxRecDepth 100000 in
set_option maxHeartbeats 1000000 in
theorem rfeed_done (S : Nat) (v : Value) (w : World) (h : w.cell? ⟨S, 1, none⟩ = some (.bool true)) :
    Calls Try.prog 7 #[.pointer (some ⟨S, 0, none⟩), v] w fun e w' => e = .returned (.tuple #[.slice none 0 0, .string ⟨#[]⟩, .int .i64 20]) ∧ w = w' := by
  go_enter Try.func7, Try.ntmps7
  go_wp2
  go_ret3
  exact ⟨rfl, rfl⟩

set_option maxRecDepth 100000 in
set_option maxHeartbeats 4000000 in
theorem rfeed_src (S : Nat) (bv X : Value) (kept x : List UInt8) (w : World) (h : RdR w S bv kept false) (hx : SrcAt w X x) (hbig : kept.length + x.length ≤ 1099511627776) :
    Calls Try.prog 7 #[.pointer (some ⟨S, 0, none⟩), X] w (RFeedPost w S (kept ++ x)) := by
  have HX := Lib.hid hx
  have HS0 := Lib.hid h.src
  have hc0 := h.c0
  have hc1 := h.c1
  have hf0 := h.f0
  have hf1 := h.f1
  have hS := h.lt
  obtain ⟨AX, cX, rfl⟩ := hx.form
  obtain ⟨AB, cB, rfl⟩ := h.src.form
  have hown : (w.alloc (.cells #[] 5)).ownsRow w.heap.size 5 1 (.slice (some ⟨w.heap.size, 0, none⟩) 0 0) ([] : List UInt8).length (Lib.byteCells []) :=
    ⟨rfl, .inr ⟨w.heap.size, 0, #[], rfl, Nat.le_refl _, World.alloc_heap_new w _, Nat.le_refl _, Nat.zero_le _, rfl, rfl⟩⟩
  have hal : Below w.heap.size w (w.alloc (.cells #[] 5)) := (Below.refl _ _).alloc (Nat.le_refl _) _
  have HAL := Lib.hid hal
  have HNE := Lib.hid h.ne
  have hS1 := HS0.out.below hal
  clear h hx hal
  go_enter Try.func7, Try.ntmps7
  go_wp2_with (at_builtin; refine wpList_append_src rfl _ _ rfl w.heap.size _ _ rfl hown _ _ rfl hS1 ?c1 ?c2 ?c3 ?_)
  case c1 => show 0 + kept.length ≤ maxLen; unfold maxLen; omega
  case c2 => show (0 + kept.length) * 1 ≤ _; omega
  case c3 => simp
  intro v1 w1 hown1 hgr1 _ _
  try simp only [List.nil_append] at hown1
  have hb1 : Below w.heap.size w w1 := HAL.out.grown hgr1 (by simp) (fun k hk => by
    simp only [Value.ownBlock, Option.some.injEq] at hk
    exact Nat.le_of_eq hk)
  have hX1 := HX.out.below hb1
  have hz1 := hb1.size
  obtain ⟨A1, k1, rfl⟩ := ownsRow_form hown1
  clear hown hgr1 hS1
  go_wp2_with (at_builtin; refine wpList_append_src rfl _ _ rfl w.heap.size _ _ rfl hown1 _ _ rfl hX1 ?c4 ?c5 ?c6 ?_)
  case c4 => unfold maxLen; omega
  case c5 => omega
  case c6 => omega
  intro v2 w2 hown2 hgr2 _ _
  try rw [← List.length_append] at hown2
  have hb2 : Below w.heap.size w w2 := hb1.grown hgr2 hz1 (fun k hk => (own_lt hown1 hk).1)
  obtain ⟨y, hy⟩ : ∃ y, kept ++ x = y := ⟨_, rfl⟩
  have hylen : y.length ≤ 1099511627776 := by rw [← hy, List.length_append]; omega
  rw [hy] at hown2 ⊢
  obtain ⟨A2, k2, rfl⟩ := ownsRow_form hown2
  have hz2 := hb2.size
  have d0 := (hb2.cell (p := ⟨S, 0, none⟩) hS).trans hc0
  have d1 := (hb2.cell (p := ⟨S, 1, none⟩) hS).trans hc1
  have e0 := (hb2.frozen (p := ⟨S, 0, none⟩) hS).trans hf0
  have e1 := (hb2.frozen (p := ⟨S, 1, none⟩) hS).trans hf1
  have hS2 : S < w2.heap.size := by omega
  obtain ⟨w3, hw3⟩ : ∃ w3, w2.setCell ⟨S, 0, none⟩ (.slice A2 y.length k2) = w3 := ⟨_, rfl⟩
  have hk3 : Put w2 ⟨S, 0, none⟩ (.slice A2 y.length k2) w3 := by rw [← hw3]; exact Put.set w2 _ hS2
  have hown3 : w3.ownsRow w.heap.size 5 1 (.slice A2 y.length k2) y.length (Lib.byteCells y) := by rw [← hw3]; exact ownsRow_set hown2 S hS 0 _
  have hm3 : Mod w S none w3 := by rw [← hw3]; exact (((Mod.refl hS (by simp)).below hb2)).set
  have hz3 := hk3.size
  have g0 := hk3.cell d0
  have g1 := (hk3.old (q := ⟨S, 1, none⟩) (by intro e; injection e with _ e _; cases e) hS2).trans d1
  have q0 := (hk3.frozen (q := ⟨S, 0, none⟩) hS2).trans e0
  have q1 := (hk3.frozen (q := ⟨S, 1, none⟩) hS2).trans e1
  have HSP := Lib.hid (rsplit_own k2 A2 y w.heap.size w3 hown3 hylen)
  have HM3 := Lib.hid hm3
  have HO3 := Lib.hid hown3
  have hS3 : S < w3.heap.size := by omega
  have hws : w.heap.size ≤ w3.heap.size := by omega
  clear hown1 hown2 hown3 hgr2 hb1 hb2 hX1 hk3 hm3 hc0 hc1 hf0 hf1
  go_wp2_with fail
  refine HSP.out.mono ?_
  clear hw3 HSP
  rintro e w4 ⟨hb4, vl, rfl, hreq⟩
  have hz4 := hb4.size
  have t0 := (hb4.cell (p := ⟨S, 0, none⟩) hS3).trans g0
  have t1 := (hb4.cell (p := ⟨S, 1, none⟩) hS3).trans g1
  have r0 := (hb4.frozen (p := ⟨S, 0, none⟩) hS3).trans q0
  have r1 := (hb4.frozen (p := ⟨S, 1, none⟩) hS3).trans q1
  have HM4 := Lib.hid (HM3.out.below hb4)
  have HO4 := Lib.hid (ownsRow_below HO3.out hb4)
  have HRQ := Lib.hid (hreq.base (base' := w.heap.size) hws)
  have hS4 : S < w4.heap.size := by omega
  have hSl := split_le y
  obtain ⟨R, hR⟩ : ∃ S, splitS y = S := ⟨_, rfl⟩
  obtain ⟨acc, n, F⟩ := R
  have HS := Lib.hid hR
  rw [hR] at hSl HRQ ⊢
  dsimp only at hSl HRQ ⊢
  clear hreq hb4 g0 g1 q0 q1 hR d0 d1 e0 e1
  have HRE : Hid (restS y = if F = [] then y.drop n else []) := by unfold Hid restS; rw [HS.out]
  have hkg : ∀ g, A2 = some g → w.heap.size ≤ g.block ∧ g.block < w4.heap.size := fun g hg => by
    subst hg
    exact own_lt HO4.out rfl
  have HSY := Lib.hid (SrcAt.own HO4.out)
  obtain ⟨hyk, hkm⟩ : y.length ≤ k2 ∧ k2 ≤ 9223372036854775807 := by
    obtain ⟨A, c, h1, h2, h3, _⟩ := HSY.out
    simp only [Value.slice.injEq] at h1
    obtain ⟨_, _, rfl⟩ := h1
    exact ⟨h2, h3⟩
  have hvl := HRQ.out.len
  obtain ⟨Al, cl, rfl⟩ := hvl
  have fin : ∀ (u : Value) (dn : Bool) (rs : List UInt8) (w5 : World), Mod w4 S none w5 → w4.heap.size = w5.heap.size → w5.cell? ⟨S, 0, none⟩ = some u → w5.cell? ⟨S, 1, none⟩ = some (.bool dn) → SrcAt w4 u rs → (∀ k, u.ownBlock = some k → w.heap.size ≤ k ∧ k < w4.heap.size) →
      Mod w S none w5 ∧ OwnsReqs w5 w.heap.size (.slice Al acc.length cl) acc ∧ ∃ bv', RdR w5 S bv' rs dn ∧ ∀ k, bv'.ownBlock = some k → w.heap.size ≤ k := by
    intro u dn rs w5 hm hsz h0 h1 hs hu
    refine ⟨HM4.out.trans hm (fun i hi => by cases hi), ?_, u, ⟨by omega, h0, h1, (hm.mark 0).trans r0, (hm.mark 1).trans r1, ?_, ?_⟩, fun k hk => (hu k hk).1⟩
    · obtain ⟨vs, h1, h2, h3⟩ := HRQ.out
      exact ⟨vs, h1, own_mod h2 hm hS (Classical.em _), fun i u r hu hr => own_mod (h3 i u r hu hr) hm hS (Classical.em _)⟩
    · exact hs.keep (fun k hk hlt => hm.other k hlt (by have := (hu k hk).1; omega) (by simp))
    · intro e
      have := (hu S e).1
      omega
  have HF := Lib.hid fin
  clear fin
  rcases F with _ | ⟨f0, F⟩
  · rw [if_pos rfl] at HRE
    have fin2 : ∀ (u : Value), SrcAt w4 u (y.drop n) → (∀ k, u.ownBlock = some k → w.heap.size ≤ k ∧ k < w4.heap.size) →
        Mod w S none (w4.setCell ⟨S, 0, none⟩ u) ∧ OwnsReqs (w4.setCell ⟨S, 0, none⟩ u) w.heap.size (.slice Al acc.length cl) acc ∧ ∃ bv', RdR (w4.setCell ⟨S, 0, none⟩ u) S bv' (restS y) (decide (([] : List UInt8) ≠ [])) ∧ ∀ k, bv'.ownBlock = some k → w.heap.size ≤ k := by
      intro u hu hk
      have hp := Put.set w4 (p := ⟨S, 0, none⟩) u hS4
      rw [HRE.out]
      exact HF.out u _ _ _ ((Mod.refl hS4 (by simp)).set) (by simp [World.setCell]) (hp.cell t0) ((hp.old (q := ⟨S, 1, none⟩) (by intro e; injection e with _ e _; cases e) hS4).trans t1) hu hk
    have HF2 := Lib.hid fin2
    clear fin2 HF
    have hcl : (A2 = none ∧ k2 = 0 ∧ y.length = 0 ∧ n = 0) ∨ ∃ g, A2 = some ⟨g, 0, none⟩ := by
      rcases HO4.out.2 with ⟨h1, h2⟩ | ⟨g, cap', cur, h1, h2, h3, h4, h5, _⟩
      · simp only [Value.slice.injEq] at h1
        obtain ⟨rfl, h3, rfl⟩ := h1
        exact Or.inl ⟨rfl, rfl, h2, by omega⟩
      · simp only [Value.slice.injEq, true_and] at h1
        exact Or.inr ⟨g, h1.1⟩
    rcases hcl with ⟨rfl, rfl, h0, rfl⟩ | ⟨g, rfl⟩
    · have HU := Lib.hid (HF2.out (.slice none 0 0) (by rw [List.drop_zero, List.length_eq_zero_iff.1 h0]; exact SrcAt.nil _) (fun k hk => by cases hk))
      rw [h0] at t0
      have H0 := Lib.hid h0
      clear h0
      go_wp2
      go_ret3
      unfold RFeedPost
      try rw [hy]
      rw [HS.out]
      obtain ⟨z1, z2, z3⟩ := HU.out
      exact ⟨z1, ⟨_, rfl, z2⟩, z3⟩
    · obtain ⟨hg1, hg2⟩ := hkg _ rfl
      have hby := own_bytes HO4.out
      have hdl : (y.drop n).length = y.length - n := List.length_drop
      rcases Nat.lt_or_ge n k2 with hnc | hnc
      · have HU := Lib.hid (HF2.out (.slice (some ⟨g, n, none⟩) (y.length - n) (k2 - n)) (by
          have := SrcAt.at (c := k2 - n) (by simpa using hby.cut n) (by rw [hdl]; omega) (by omega)
          rwa [hdl] at this) (fun k hk => by injection hk with hk; subst hk; exact ⟨hg1, hg2⟩))
        have HBY := Lib.hid hby
        have HKG := Lib.hid hkg
        clear hby hdl hkg
        go_wp2
        go_ret3
        unfold RFeedPost
        try rw [hy]
        rw [HS.out]
        obtain ⟨z1, z2, z3⟩ := HU.out
        exact ⟨z1, ⟨_, rfl, z2⟩, z3⟩
      · obtain rfl : k2 = n := by omega
        have hyn : y.length = k2 := by omega
        have HU := Lib.hid (HF2.out (.slice (some ⟨g, 0, none⟩) 0 0) (by
          rw [List.drop_eq_nil_of_le (by omega)]
          exact SrcAt.at (c := 0) (bytes_nil _ _ _) (by simp) (by omega)) (fun k hk => by injection hk with hk; subst hk; exact ⟨hg1, hg2⟩))
        rw [hyn] at t0
        have HYN := Lib.hid hyn
        have HBY := Lib.hid hby
        have HKG := Lib.hid hkg
        clear hby hdl hkg hyn
        go_wp2
        go_ret3
        unfold RFeedPost
        try rw [hy]
        rw [HS.out]
        obtain ⟨z1, z2, z3⟩ := HU.out
        exact ⟨z1, ⟨_, rfl, z2⟩, z3⟩
  · rw [if_neg (by simp)] at HRE
    obtain ⟨T, hT⟩ : ∃ T : ByteArray, ⟨(f0 :: F).toArray⟩ = T := ⟨_, rfl⟩
    have hTs : 0 < T.size := by rw [← hT]; show 0 < (f0 :: F).toArray.size; simp
    obtain ⟨j1, j2, j3, _⟩ := toList_cons T hTs
    have HU : ∀ v0 : Value, Hid (Mod w S none (((w4.setCell ⟨S, 0, none⟩ v0).setCell ⟨S, 1, none⟩ (.bool true)).setCell ⟨S, 0, none⟩ (.slice none 0 0)) ∧ OwnsReqs (((w4.setCell ⟨S, 0, none⟩ v0).setCell ⟨S, 1, none⟩ (.bool true)).setCell ⟨S, 0, none⟩ (.slice none 0 0)) w.heap.size (.slice Al acc.length cl) acc ∧ ∃ bv', RdR (((w4.setCell ⟨S, 0, none⟩ v0).setCell ⟨S, 1, none⟩ (.bool true)).setCell ⟨S, 0, none⟩ (.slice none 0 0)) S bv' [] true ∧ ∀ k, bv'.ownBlock = some k → w.heap.size ≤ k) := by
      intro v0
      have hk0 := Put.set w4 (p := ⟨S, 0, none⟩) v0 hS4
      have hS6 : S < (w4.setCell ⟨S, 0, none⟩ v0).heap.size := by have := hk0.size; omega
      have hk1 := Put.set (w4.setCell ⟨S, 0, none⟩ v0) (p := ⟨S, 1, none⟩) (.bool true) hS6
      have hS5 : S < ((w4.setCell ⟨S, 0, none⟩ v0).setCell ⟨S, 1, none⟩ (.bool true)).heap.size := by have := hk1.size; omega
      have hk2 := Put.set ((w4.setCell ⟨S, 0, none⟩ v0).setCell ⟨S, 1, none⟩ (.bool true)) (p := ⟨S, 0, none⟩) (.slice none 0 0) hS5
      exact HF.out (.slice none 0 0) true [] _ ((Mod.refl hS4 (by simp)).set.set.set) (by simp [World.setCell])
        (hk2.cell ((hk1.old (q := ⟨S, 0, none⟩) (by intro e; injection e with _ e _; cases e) hS6).trans (hk0.cell t0)))
        ((hk2.old (q := ⟨S, 1, none⟩) (by intro e; injection e with _ e _; cases e) hS5).trans (hk1.cell ((hk0.old (q := ⟨S, 1, none⟩) (by intro e; injection e with _ e _; cases e) hS4).trans t1))) (SrcAt.nil _) (fun k hk => by cases hk)
    have HUU := Lib.hid HU
    have HT := Lib.hid hT
    rw [hT]
    have hcl : (A2 = none ∧ k2 = 0 ∧ y.length = 0 ∧ n = 0) ∨ ∃ g, A2 = some ⟨g, 0, none⟩ := by
      rcases HO4.out.2 with ⟨h1, h2⟩ | ⟨g, cap', cur, h1, h2, h3, h4, h5, _⟩
      · simp only [Value.slice.injEq] at h1
        obtain ⟨rfl, h3, rfl⟩ := h1
        exact Or.inl ⟨rfl, rfl, h2, by omega⟩
      · simp only [Value.slice.injEq, true_and] at h1
        exact Or.inr ⟨g, h1.1⟩
    clear hT HF HU
    rcases hcl with ⟨rfl, rfl, h0, rfl⟩ | ⟨g, rfl⟩
    · rw [h0] at t0
      clear h0 hkg
      go_wp2
      go_ret3
      unfold RFeedPost
      try rw [hy]
      rw [HS.out]
      dsimp only
      rw [HRE.out]
      obtain ⟨z1, z2, z3⟩ := (HUU.out _).out
      exact ⟨z1, ⟨_, by rw [HT.out]; rfl, z2⟩, by simpa using z3⟩
    · have HKG := Lib.hid hkg
      clear hkg
      rcases Nat.lt_or_ge n k2 with hnc | hnc
      · go_wp2
        go_ret3
        unfold RFeedPost
        try rw [hy]
        rw [HS.out]
        dsimp only
        rw [HRE.out]
        obtain ⟨z1, z2, z3⟩ := (HUU.out _).out
        exact ⟨z1, ⟨_, by rw [HT.out]; rfl, z2⟩, by simpa using z3⟩
      · obtain rfl : k2 = n := by omega
        have hyn : y.length = k2 := by omega
        rw [hyn] at t0
        have HYN := Lib.hid hyn
        clear hyn
        go_wp2
        go_ret3
        unfold RFeedPost
        try rw [hy]
        rw [HS.out]
        dsimp only
        rw [HRE.out]
        obtain ⟨z1, z2, z3⟩ := (HUU.out _).out
        exact ⟨z1, ⟨_, by rw [HT.out]; rfl, z2⟩, by simpa using z3⟩

end Go.Proofs.Ytkaododohnncnaa
