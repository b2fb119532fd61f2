/-
  The walk of package reply's bulk, at any bytes. Conditions: what is left lies in memory as a slice that reads as its bytes. Package reply's reader in memory, and what stays of it. No condition but those typed.
-/
import Derived.Test.YtbldahkgilkclaaDoorRzB
import Derived.Test.YtbldahkgilkclaaDoorRzI
namespace Go.Proofs.YtbldahkgilkclaaDoor
open Go.RowKit

def BPost (w : World) (B b : Nat) (bs : List UInt8) (x : (Nat × List UInt8) × (Nat × Nat)) (e : Ending) (w' : World) : Prop :=
  ((x.2.2 = 0 ∧ ∃ T : ByteArray, e = .returned (leafV x.1.1 T 0) ∧ T.data.toList = x.1.2) ∨ (x.2.2 ≠ 0 ∧ ThrownR x.2.2 e)) ∧ ∃ v', LeftV w b v' (bs.drop x.2.1) ∧ Put w ⟨B, 0, none⟩ v' w'

theorem dblk_num (bs : List UInt8) (i : Nat) (N : Int) (X : Nat × Nat) (h : numS bs 1 65536 i = (N, X)) :
    dblkS bs i = if X.2 ≠ 0 ∨ N < 0 then ((5, []), X) else if (bs.length : Int) - (X.1 : Int) < N then ((0, []), (bs.length, 31)) else ((4, (bs.drop X.1).take N.toNat), endS bs (X.1 + N.toNat, 0)) := by
  have h1 := (count_num bs 65536 i).1
  have h2 := (count_num bs 65536 i).2
  have hn : numS bs 1 ((65536 : Nat) : Int) i = (N, X) := h
  rw [hn] at h1 h2
  unfold dblkS
  rw [← h1]
  by_cases hx : X.2 = 0
  · rw [← h2 hx]
  · rw [if_pos (Or.inl hx), if_pos (Or.inl hx)]

theorem mustS_ok {bs : List UInt8} {c : Nat} {s : Nat × Nat} (h : (mustS bs c s).2 = 0) : (mustS bs c s).1 ≤ bs.length := by
  unfold mustS at h ⊢
  by_cases h0 : s.2 = 0
  · rw [if_pos h0] at h ⊢
    by_cases h1 : bs.length ≤ s.1
    · rw [if_pos h1] at h; cases h
    · rw [if_neg h1] at h ⊢
      by_cases h2 : (bs.getD s.1 0).toNat = c
      · rw [if_pos h2]; show s.1 + 1 ≤ _; omega
      · rw [if_neg h2] at h; cases h
  · rw [if_neg h0] at h; exact absurd h h0

theorem endS_ok {bs : List UInt8} {s : Nat × Nat} (h : (endS bs s).2 = 0) : (endS bs s).1 ≤ bs.length := mustS_ok h

/-- A thrown fault goes on through a call. -/
theorem hth_val {f : Int} {e : Ending} (h : ThrownR f e) : e = .panicked [{ v := faultR f, recovered := false }] := h

theorem box_put {w wa w3 : World} {B : Nat} {v : Value} (hnew : wa.heap[w.heap.size]? = some (.cells #[.int .i64 0, .string ⟨#[]⟩, .int .i64 0, .slice none 0 0] 25)) (hl : w.heap.size < wa.heap.size) (hp : Put wa ⟨B, 0, none⟩ v w3) (hB : B < w.heap.size) :
    (w3.cell? ⟨w.heap.size, 0, none⟩ = some (.int .i64 0) ∧ w3.cell? ⟨w.heap.size, 1, none⟩ = some (.string ⟨#[]⟩) ∧ w3.cell? ⟨w.heap.size, 2, none⟩ = some (.int .i64 0) ∧ w3.cell? ⟨w.heap.size, 3, none⟩ = some (.slice none 0 0)) ∧
    (w3.frozen? ⟨w.heap.size, 0, none⟩ = false ∧ w3.frozen? ⟨w.heap.size, 1, none⟩ = false ∧ w3.frozen? ⟨w.heap.size, 2, none⟩ = false ∧ w3.frozen? ⟨w.heap.size, 3, none⟩ = false) :=
  box_kept hnew hl hp.grown hB

set_option maxRecDepth 100000 in
set_option maxHeartbeats 8000000 in
theorem ybulk_any (B b : Nat) (v : Value) (bs : List UInt8) (i : Nat) (w : World) (hB : B < w.heap.size) (hb : b < w.heap.size) (hn : b ≠ B) (hc : w.cell? ⟨B, 0, none⟩ = some v) (hf : w.frozen? ⟨B, 0, none⟩ = false) (hl : LeftV w b v (bs.drop i)) :
    Calls Tryd.prog 42 #[.pointer (some ⟨B, 0, none⟩)] w (BPost w B b bs (dblkS bs i)) := by
  obtain ⟨⟨N, X⟩, hNX⟩ : ∃ s, numS bs 1 65536 i = s := ⟨_, rfl⟩
  have HD := Lib.hid (dblk_num bs i N X hNX)
  have HXL : Hid (X.2 = 0 → X.1 ≤ bs.length) := by
    have := (count_num bs 65536 i).1
    have hn : numS bs 1 ((65536 : Nat) : Int) i = (N, X) := hNX
    rw [hn] at this
    intro q
    have this : X = _ := this
    rw [this] at q ⊢
    exact endS_ok q
  have HNB : Hid (X.2 = 0 → N ≤ 65536) := by
    have := (count_num bs 65536 i).2
    have hn : numS bs 1 ((65536 : Nat) : Int) i = (N, X) := hNX
    rw [hn] at this
    intro q
    have this : N = _ := this q
    have h2 := (countS_range bs 65536 (i, 0)).2
    omega
  have hal : Below w.heap.size w (w.alloc (.cells #[.int .i64 0, .string ⟨#[]⟩, .int .i64 0, .slice none 0 0] 25)) := (Below.refl _ _).alloc (Nat.le_refl _) _
  have hs : (w.alloc (.cells #[.int .i64 0, .string ⟨#[]⟩, .int .i64 0, .slice none 0 0] 25)).heap.size = w.heap.size + 1 := by simp
  obtain ⟨wa, hwa⟩ : ∃ wa, w.alloc (.cells #[.int .i64 0, .string ⟨#[]⟩, .int .i64 0, .slice none 0 0] 25) = wa := ⟨_, rfl⟩
  have hnew := World.alloc_heap_new w (.cells #[.int .i64 0, .string ⟨#[]⟩, .int .i64 0, .slice none 0 0] 25)
  rw [hwa] at hal hs hnew
  have HLA := Lib.hid (hl.below hal hb)
  have HCA := Lib.hid ((hal.cell (p := ⟨B, 0, none⟩) hB).trans hc)
  have HFA := Lib.hid ((hal.frozen (p := ⟨B, 0, none⟩) hB).trans hf)
  have HNU := Lib.hid (ynumber_any B b v bs i 1 (-1) 65536 wa (by omega) (by omega) hn HCA.out HFA.out HLA.out rfl (by decide) (by decide) (by decide) (by decide) N X hNX)
  have HAL := Lib.hid hal
  have HNEW := Lib.hid hnew
  have HLB := Lib.hid hl
  have hza : wa.heap.size = w.heap.size + 1 := hs
  have HZA := Lib.hid hza
  have HC := Lib.hid hc
  have HBACK : Hid (∀ (i : Nat) (v' : Value), LeftV wa b v' (bs.drop i) → LeftV w b v' (bs.drop i)) := fun i v' h => LeftV.back h (Put.after HAL.out (Put.refl HCA.out (by show B < wa.heap.size; omega)) hB) hb hn
  clear hal hs hnew hc hf hl hNX hza
  go_enter Tryd.func42, Tryd.ntmps42
  go_wp2_with fail
  try rw [hwa]
  clear hwa
  refine HNU.out.mono ?_
  rintro e w2 ⟨hres, v2, hv2, hp2⟩
  have HP2 := Lib.hid hp2
  have HV2 := Lib.hid hv2
  have hz2 := hp2.size
  have hza := HZA.out
  have HPW2 := Lib.hid (Put.after HAL.out hp2 hB)
  obtain ⟨⟨r0, r1, r2, r3⟩, s0, s1, s2, s3⟩ := box_put HNEW.out (by omega) hp2 hB
  clear hv2 hp2 HNU
  rcases hres with ⟨hs0, x, rfl, rfl⟩ | ⟨hs1, hth⟩
  · by_cases hN : N < 0
    · have HDD : Hid (dblkS bs i = ((5, []), X)) := HD.out.trans (if_pos (Or.inr hN))
      go_wp2
      refine bodyPost_ret (v := leafV 5 ⟨#[]⟩ 0) ?_ rfl ?_
      · simp [results, Tryd.results42, go_sem, leafV, r0, r1, r2, r3]
      · rw [HDD.out]
        exact ⟨Or.inl ⟨hs0, ⟨#[]⟩, rfl, rfl⟩, v2, HBACK.out _ _ HV2.out, ((((HPW2.out.far (Nat.le_refl _) _).far (Nat.le_refl _) _).far (Nat.le_refl _) _).far (Nat.le_refl _) _)⟩
    · obtain ⟨m, hm⟩ : ∃ m : Nat, N = (m : Int) := ⟨N.toNat, by omega⟩
      subst hm
      have hN0 : ¬ ((m : Int) < 0) := by omega
      have hxl := HXL.out hs0
      have hnb := HNB.out hs0
      have hdl : (bs.drop X.1).length = bs.length - X.1 := List.length_drop
      have hBa : B < w2.heap.size := by omega
      have HC2 := Lib.hid (HP2.out.cell HCA.out)
      have HF2 := Lib.hid ((HP2.out.frozen (q := ⟨B, 0, none⟩) (by show B < wa.heap.size; omega)).trans HFA.out)
      have HVR2 := Lib.hid (HV2.out.put HP2.out (by omega) hn)
      by_cases hm : m ≤ (bs.drop X.1).length
      · have HDD : Hid (dblkS bs i = ((4, (bs.drop X.1).take m), endS bs (X.1 + m, 0))) := HD.out.trans (by rw [if_neg (by rintro (q | q); exact q hs0; omega), if_neg (by omega), Int.toNat_natCast])
        have HT := Lib.hid (ytake_ok B b m v2 (bs.drop X.1) w2 hBa HC2.out HF2.out HVR2.out hm)
        obtain ⟨Z, hZ⟩ : ∃ Z, endS bs (X.1 + m, 0) = Z := ⟨_, rfl⟩
        clear r0 r1 r2 r3 s0 s1 s2 s3
        go_wp2_with fail
        refine HT.out.mono ?_
        rintro e w3 ⟨t, v3, rfl, ht, hv3, hp3⟩
        rw [List.drop_drop] at hv3
        have HP3 := Lib.hid (HP2.out.trans hp3)
        have HV3 := Lib.hid (LeftV.back hv3 HP2.out (by omega) hn)
        have hz3 := hp3.size
        have HVR3 := Lib.hid (HV3.out.put HP3.out (by omega) hn)
        have HE := Lib.hid (yend_any B b v3 bs (X.1 + m) w3 (by omega) (by omega) hn (HP3.out.cell HCA.out) ((HP3.out.frozen (q := ⟨B, 0, none⟩) (by show B < wa.heap.size; omega)).trans HFA.out) HVR3.out)
        rw [hZ] at HE HDD
        obtain ⟨ot, ct, rfl, g1, g2, g3⟩ := ht
        have hlt : ((bs.drop X.1).take m).length = m := by rw [List.length_take]; omega
        have HG3 := Lib.hid (g3.put hp3 (by omega) hn)
        clear hv3 hp3 g3 HT hZ
        go_wp2_with fail
        refine HE.out.mono ?_
        rintro e w4 ⟨hres, v4, hv4, hp4⟩
        have HP4 := Lib.hid (HP3.out.trans hp4)
        have HV4 := Lib.hid (LeftV.back hv4 HP3.out (by omega) hn)
        have HPW4 := Lib.hid (Put.after HAL.out HP4.out hB)
        have hcvt := conv_bytes w4 b ot ct ((bs.drop X.1).take m) (HG3.out.put hp4 (by omega) hn)
        rw [hlt] at hcvt
        obtain ⟨⟨r0, r1, r2, r3⟩, s0, s1, s2, s3⟩ := box_put HNEW.out (by omega) HP4.out hB
        obtain ⟨TB, hTB⟩ : ∃ T : ByteArray, (⟨((bs.drop X.1).take m).toArray⟩ : ByteArray) = T := ⟨_, rfl⟩
        have HTL : Hid (TB.data.toList = (bs.drop X.1).take m) := by rw [← hTB]; rfl
        rw [hTB] at hcvt
        clear hv4 hp4 HE hTB
        rcases hres with ⟨hz0, x, rfl, rfl⟩ | ⟨hz1, hth⟩
        · go_wp2
          refine bodyPost_ret (v := leafV 4 TB 0) ?_ rfl ?_
          · simp [results, Tryd.results42, go_sem, leafV, r0, r1, r2, r3]
          · rw [HDD.out]
            exact ⟨Or.inl ⟨hz0, TB, rfl, HTL.out⟩, v4, HBACK.out _ _ HV4.out, ((((HPW4.out.far (Nat.le_refl _) _).far (Nat.le_refl _) _).far (Nat.le_refl _) _).far (Nat.le_refl _) _)⟩
        · unfold ThrownR at hth
          have HFI := Lib.hid (show BPost w B b bs (dblkS bs i) (.panicked [{ v := faultR Z.2, recovered := false }]) w4 from by rw [HDD.out]; exact ⟨Or.inr ⟨hz1, rfl⟩, v4, HBACK.out _ _ HV4.out, HPW4.out⟩)
          obtain ⟨F, hF⟩ : ∃ F : Value, faultR Z.2 = F := ⟨_, rfl⟩
          rw [hF] at HFI hth
          clear hF
          subst hth
          go_wp2
          exact ⟨rfl, HFI.out⟩
      · have HDD : Hid (dblkS bs i = ((0, []), (bs.length, 31))) := HD.out.trans (by rw [if_neg (by rintro (q | q); exact q hs0; omega), if_pos (by omega)])
        have HT := Lib.hid (ytake_short B b m v2 (bs.drop X.1) w2 hBa HC2.out HF2.out HVR2.out (by omega) (by omega))
        clear r0 r1 r2 r3 s0 s1 s2 s3
        go_wp2_with fail
        refine HT.out.mono ?_
        rintro e w3 ⟨rfl, v3, hv3, hp3⟩
        have HP3 := Lib.hid (HP2.out.trans hp3)
        have HV3 := Lib.hid (LeftV.back hv3 HP2.out (by omega) hn)
        have HFI := Lib.hid (show BPost w B b bs (dblkS bs i) (.panicked [{ v := faultR 31, recovered := false }]) w3 from by rw [HDD.out]; exact ⟨Or.inr ⟨by simp, rfl⟩, v3, HBACK.out _ _ (by rw [List.drop_eq_nil_of_le (Nat.le_refl _)]; exact HV3.out), Put.after HAL.out HP3.out hB⟩)
        go_wp2
        exact ⟨rfl, HFI.out⟩
  · have HDD : Hid (dblkS bs i = ((5, []), X)) := HD.out.trans (if_pos (Or.inl hs1))
    unfold ThrownR at hth
    have HFI := Lib.hid (show BPost w B b bs (dblkS bs i) (.panicked [{ v := faultR X.2, recovered := false }]) w2 from by rw [HDD.out]; exact ⟨Or.inr ⟨hs1, rfl⟩, v2, HBACK.out _ _ HV2.out, HPW2.out⟩)
    obtain ⟨F, hF⟩ : ∃ F : Value, faultR X.2 = F := ⟨_, rfl⟩
    rw [hF] at HFI hth
    clear hF
    subst hth
    go_wp2
    exact ⟨rfl, HFI.out⟩

/-- Package reply's reader in block B: what is left begins at place i; so many arrays stand around. -/
structure InAt (w : World) (B b : Nat) (bs : List UInt8) (i nest : Nat) : Prop where
  c0 : ∃ v, w.cell? ⟨B, 0, none⟩ = some v ∧ LeftV w b v (bs.drop i)
  c1 : w.cell? ⟨B, 1, none⟩ = some (.int .i64 nest)
  f0 : w.frozen? ⟨B, 0, none⟩ = false
  f1 : w.frozen? ⟨B, 1, none⟩ = false
  hB : B < w.heap.size
  hb : b < w.heap.size
  ne : b ≠ B
  six : 6 ≤ B
  tabs : Tabs8 w

theorem LeftV.same {w w' : World} {b : Nat} {v : Value} {l : List UInt8} (h : LeftV w b v l) (hb : w'.heap[b]? = w.heap[b]?) : LeftV w' b v l := by
  obtain ⟨o, cap, h1, h2, h3, h4⟩ := h
  exact ⟨o, cap, h1, h2, h3, fun j hj => (World.cell?_of_block (a := ⟨b, o + j, none⟩) hb).trans (h4 j hj)⟩

theorem Tabs8.same {w w' : World} (h : Tabs8 w) (hk : ∀ k, k < 6 → w'.heap[k]? = w.heap[k]?) (hs : w.heap.size ≤ w'.heap.size) : Tabs8 w' := by
  obtain ⟨⟨h1, h2⟩, ⟨m, h3⟩, h4, h5⟩ := h
  refine ⟨⟨fun c hc => ?_, fun i hi => ⟨?_, ?_⟩⟩, ⟨m, ?_⟩, Nat.lt_of_lt_of_le h4 hs, Nat.lt_of_lt_of_le h5 hs⟩
  · exact (World.cell?_of_block (a := ⟨2, c, none⟩) (hk 2 (by decide))).trans (h1 c hc)
  · exact (World.cell?_of_block (a := ⟨3, 2 * i, none⟩) (hk 3 (by decide))).trans (h2 i hi).1
  · exact (World.cell?_of_block (a := ⟨3, 2 * i + 1, none⟩) (hk 3 (by decide))).trans (h2 i hi).2
  · exact (World.cell?_of_block (a := ⟨0, 0, none⟩) (hk _ (by decide))).trans h3

section
variable {w w1 w2 : World} {B b : Nat} {bs : List UInt8} {i j n m : Nat}

theorem InAt.grown (h : InAt w B b bs i n) {row : Option Nat} (hg : w.grownBy w1 row) (hr : ∀ k, row = some k → k ≠ B ∧ k ≠ b ∧ 6 ≤ k) : InAt w1 B b bs i n := by
  have hBk : w1.heap[B]? = w.heap[B]? := hg.block B h.hB (fun e => (hr B e.symm).1 rfl)
  have hbk : w1.heap[b]? = w.heap[b]? := hg.block b h.hb (fun e => (hr b e.symm).2.1 rfl)
  obtain ⟨v, hv, hl⟩ := h.c0
  refine ⟨⟨v, (World.cell?_of_block (a := ⟨B, 0, none⟩) hBk).trans hv, hl.same hbk⟩, (World.cell?_of_block (a := ⟨B, 1, none⟩) hBk).trans h.c1, (World.frozen?_of_block (a := ⟨B, 0, none⟩) hBk).trans h.f0, (World.frozen?_of_block (a := ⟨B, 1, none⟩) hBk).trans h.f1,
    Nat.lt_of_lt_of_le h.hB hg.size, Nat.lt_of_lt_of_le h.hb hg.size, h.ne, h.six, h.tabs.same (fun k hk => hg.block k (by have := h.hB; have := h.six; omega) (fun e => by have := (hr k e.symm).2.2; omega)) hg.size⟩

theorem below_grown (hb : Below w.heap.size w w1) (row : Option Nat) : w.grownBy w1 row := ⟨hb.os, hb.tape, hb.output, hb.size, fun k hk _ => hb.block k hk⟩

theorem InAt.below (h : InAt w B b bs i n) (hb : Below w.heap.size w w1) : InAt w1 B b bs i n := h.grown (below_grown hb none) (fun k hk => by cases hk)

theorem InAt.put (h : InAt w B b bs i n) {v : Value} (hp : Put w ⟨B, 0, none⟩ v w1) (hl : LeftV w b v (bs.drop j)) : InAt w1 B b bs j n := by
  obtain ⟨u, hu, _⟩ := h.c0
  refine ⟨⟨v, hp.cell hu, hl.put hp h.hb h.ne⟩, (hp.old (q := ⟨B, 1, none⟩) (addr_off (by decide)) h.hB).trans h.c1, (hp.frozen (q := ⟨B, 0, none⟩) h.hB).trans h.f0, (hp.frozen (q := ⟨B, 1, none⟩) h.hB).trans h.f1,
    Nat.lt_of_lt_of_le h.hB hp.size, Nat.lt_of_lt_of_le h.hb hp.size, h.ne, h.six, h.tabs.same (fun k hk => hp.other k (by have := h.hB; have := h.six; omega) (by have := h.six; show k ≠ B; omega)) hp.size⟩

theorem InAt.depth (h : InAt w B b bs i n) (m : Nat) : InAt (w.setCell ⟨B, 1, none⟩ (.int .i64 m)) B b bs i m := by
  obtain ⟨v, hv, hl⟩ := h.c0
  have hne : ∀ k, k ≠ B → (w.setCell ⟨B, 1, none⟩ (.int .i64 m)).heap[k]? = w.heap[k]? := fun k hk => Below.heap_setCell _ _ _ _ hk
  have hs : (w.setCell ⟨B, 1, none⟩ (.int .i64 (m : Int))).heap.size = w.heap.size := by simp [World.setCell]
  refine ⟨⟨v, (World.cell?_setCell_other _ _ _ _ (addr_off (by decide))).trans hv, hl.same (hne b h.ne)⟩, World.cell?_setCell_same _ _ _ h.c1, (World.frozen?_setCell _ _ _ _).trans h.f0, (World.frozen?_setCell _ _ _ _).trans h.f1,
    by rw [hs]; exact h.hB, by rw [hs]; exact h.hb, h.ne, h.six, h.tabs.same (fun k hk => hne k (by have := h.six; omega)) (by rw [hs]; exact Nat.le_refl _)⟩

/-- Of what was there only the reader has turned. -/
structure Gn (w : World) (B b : Nat) (bs : List UInt8) (i n : Nat) (w1 : World) : Prop where
  st : InAt w1 B b bs i n
  grown : w.grownBy w1 (some B)

theorem InAt.gn (h : InAt w B b bs i n) : Gn w B b bs i n w := ⟨h, World.grownBy.refl _ _⟩
theorem Gn.trans (h : Gn w B b bs i n w1) (k : Gn w1 B b bs j m w2) : Gn w B b bs j m w2 := ⟨k.st, h.grown.trans k.grown⟩
theorem Gn.after (hb : Below w.heap.size w w1) (h : Gn w1 B b bs i n w2) : Gn w B b bs i n w2 := ⟨h.st, grown_below hb h.grown⟩
theorem Gn.put (h : Gn w B b bs i n w1) {v : Value} (hp : Put w1 ⟨B, 0, none⟩ v w2) (hl : LeftV w1 b v (bs.drop j)) : Gn w B b bs j n w2 := ⟨h.st.put hp hl, h.grown.trans hp.grown⟩
theorem Gn.depth (h : Gn w B b bs i n w1) (m : Nat) : Gn w B b bs i m (w1.setCell ⟨B, 1, none⟩ (.int .i64 m)) := ⟨h.st.depth m, h.grown.trans (grown_set _ _ _ _)⟩
theorem Gn.below (h : Gn w B b bs i n w1) (hb : Below w1.heap.size w1 w2) : Gn w B b bs i n w2 := ⟨h.st.below hb, h.grown.trans (below_grown hb _)⟩
theorem Gn.grow (h : Gn w B b bs i n w1) (hB : B < w.heap.size) (hb : b < w.heap.size) (h6 : 6 ≤ w.heap.size) {row : Option Nat} (hg : w1.grownBy w2 row) (hr : ∀ k, row = some k → w.heap.size ≤ k) : Gn w B b bs i n w2 := by
  exact ⟨h.st.grown hg (fun k hk => by have := hr k hk; omega), hg.os.trans h.grown.os, hg.tape.trans h.grown.tape, hg.output.trans h.grown.output, Nat.le_trans h.grown.size hg.size,
    fun k hk hn => (hg.block k (Nat.lt_of_lt_of_le hk h.grown.size) (fun e => by have := hr k e.symm; omega)).trans (h.grown.block k hk hn)⟩
theorem Gn.far (h : Gn w B b bs i n w1) (q : Addr) (v : Value) (hB : B < w.heap.size) (hb : b < w.heap.size) (h6 : 6 ≤ w.heap.size) (hq : w.heap.size ≤ q.block) : Gn w B b bs i n (w1.setCell q v) :=
  h.grow hB hb h6 (row := some q.block) ⟨rfl, rfl, rfl, by simp [World.setCell], fun k _ hn => Below.heap_setCell _ _ _ _ (fun e => hn (by rw [e]))⟩ (fun k hk => by injection hk with hk; omega)
theorem Gn.box (h : Gn w B b bs i n w1) (hB : B < w.heap.size) (hb : b < w.heap.size) (h6 : 6 ≤ w.heap.size) (v0 v1 v2 v3 : Value) :
    Gn w B b bs i n ((((w1.setCell ⟨w.heap.size, 0, none⟩ v0).setCell ⟨w.heap.size, 1, none⟩ v1).setCell ⟨w.heap.size, 2, none⟩ v2).setCell ⟨w.heap.size, 3, none⟩ v3) :=
  (((h.far _ v0 hB hb h6 (Nat.le_refl _)).far _ v1 hB hb h6 (Nat.le_refl _)).far _ v2 hB hb h6 (Nat.le_refl _)).far _ v3 hB hb h6 (Nat.le_refl _)
end

/-- What package reply's reply or array has told. -/
def RPost (w : World) (B b : Nat) (bs : List UInt8) (n : Nat) (x : RT × (Nat × Nat)) (e : Ending) (w' : World) : Prop :=
  ((x.2.2 = 0 ∧ (∃ (k : Nat) (T : ByteArray) (z : Int) (A : Option Addr) (l c : Nat), e = .returned (.agg #[.int .i64 k, .string T, .int .i64 z, .slice A l c]) ∧ RepAt w' (fun g => w.heap.size ≤ g) x.1 [.int .i64 k, .string T, .int .i64 z, .slice A l c]) ∧ Gn w B b bs x.2.1 n w') ∨
   (x.2.2 ≠ 0 ∧ ThrownR x.2.2 e ∧ ∃ m, Gn w B b bs x.2.1 m w'))

end Go.Proofs.YtbldahkgilkclaaDoor
