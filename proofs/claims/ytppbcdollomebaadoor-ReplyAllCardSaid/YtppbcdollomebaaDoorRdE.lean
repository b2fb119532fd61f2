/-
  The walks of the document's reader of replies: flat, bulk. Conditions: no fault as yet. The walk of the document's reader of replies: bulk. Conditions: no fault as yet, a byte behind.
-/
import Derived.Test.YtppbcdollomebaaDoorRdB
import Derived.Deep.AppendLies
namespace Go.Proofs.YtppbcdollomebaaDoor
open Go.RowKit

/-- A reply without a list, as a value. -/
def leafV (k : Int) (T : ByteArray) (n : Int) : Value := .agg #[.int .i64 k, .string T, .int .i64 n, .slice none 0 0]

/-- A block of a reply's zero. -/
def zeroRep : Obj := .cells #[.int .i64 0, .string ⟨#[]⟩, .int .i64 0, .slice none 0 0] 25

def flatS (bs : List UInt8) (i : Nat) : Nat × Nat := endS bs (mustS bs 49 (mustS bs 45 (i + 1, 0)))

theorem grown_below {w w1 w2 : World} {row : Option Nat} (hb : Below w.heap.size w w1) (hg : w1.grownBy w2 row) : w.grownBy w2 row :=
  ⟨hg.os.trans hb.os, hg.tape.trans hb.tape, hg.output.trans hb.output, Nat.le_trans hb.size hg.size, fun k hk hn => (hg.block k (Nat.lt_of_lt_of_le hk hb.size) hn).trans (hb.block k hk)⟩

theorem Went.after {w w1 w2 : World} {R : Nat} {A : Option Addr} {b o cap : Nat} {bs : List UInt8} {s : Nat × Nat} (hb : Below w.heap.size w w1) (h : Went w1 R A b o cap bs s w2) : Went w R A b o cap bs s w2 := ⟨h.rd, grown_below hb h.grown⟩

theorem RdAt.set_far {w : World} {R : Nat} {A : Option Addr} {b o cap : Nat} {bs : List UInt8} {i e : Nat} (h : RdAt w R A b o cap bs i e) (q : Addr) (v : Value) (hR : q.block ≠ R) (hb : 0 < bs.length → q.block ≠ b) : RdAt (w.setCell q v) R A b o cap bs i e := by
  have hne : ∀ k : Nat, q ≠ (⟨R, k, none⟩ : Addr) := fun k e => hR (by rw [e])
  refine ⟨(World.cell?_setCell_other _ _ _ _ (hne 0)).trans h.c0, (World.cell?_setCell_other _ _ _ _ (hne 1)).trans h.c1, (World.cell?_setCell_other _ _ _ _ (hne 2)).trans h.c2, (World.frozen?_setCell _ _ _ _).trans h.f1, (World.frozen?_setCell _ _ _ _).trans h.f2, h.hA, fun j hj => ?_, h.ne, h.le, h.big, h.cl, h.cm⟩
  exact (World.cell?_setCell_other _ _ _ _ (fun e => hb (by omega) (by rw [e]))).trans (h.at_ j hj)

theorem Went.far {w w1 : World} {R : Nat} {A : Option Addr} {b o cap : Nat} {bs : List UInt8} {s : Nat × Nat} (h : Went w R A b o cap bs s w1) (q : Addr) (v : Value) (hR : R < w.heap.size) (hb : b < w.heap.size) (hq : w.heap.size ≤ q.block) : Went w R A b o cap bs s (w1.setCell q v) :=
  ⟨h.rd.set_far q v (by omega) (fun _ => by omega), ⟨h.grown.os, h.grown.tape, h.grown.output, by rw [show (w1.setCell q v).heap.size = w1.heap.size from by simp [World.setCell]]; exact h.grown.size, fun k hk hn => (Below.heap_setCell _ _ _ _ (by omega)).trans (h.grown.block k hk hn)⟩⟩

set_option maxRecDepth 100000 in
set_option maxHeartbeats 4000000 in
theorem dflat_ok (R : Nat) (A : Option Addr) (b o cap : Nat) (bs : List UInt8) (i : Nat) (hi : i < bs.length) (w : World) (hb : b < w.heap.size) (h : RdAt w R A b o cap bs i 0) :
    Calls Tryd.prog 40 #[.pointer (some ⟨R, 0, none⟩)] w fun en w' => en = .returned (leafV 7 ⟨#[]⟩ 0) ∧ Went w R A b o cap bs (flatS bs i) w' := by
  have hR := h.lt
  have hbig := h.big
  have hal : Below w.heap.size w (w.alloc (.cells #[.int .i64 0, .string ⟨#[]⟩, .int .i64 0, .slice none 0 0] 25)) := (Below.refl _ _).alloc (Nat.le_refl _) _
  have hnew := World.alloc_heap_new w (.cells #[.int .i64 0, .string ⟨#[]⟩, .int .i64 0, .slice none 0 0] 25)
  have hs : (w.alloc (.cells #[.int .i64 0, .string ⟨#[]⟩, .int .i64 0, .slice none 0 0] 25)).heap.size = w.heap.size + 1 := by simp
  obtain ⟨wa, hwa⟩ : ∃ wa, w.alloc (.cells #[.int .i64 0, .string ⟨#[]⟩, .int .i64 0, .slice none 0 0] 25) = wa := ⟨_, rfl⟩
  rw [hwa] at hal hnew hs
  have hra := h.below hal
  have c1 := hra.c1
  have f1 := hra.f1
  have hp := hra.went.place (i + 1) (by omega)
  rw [show ((i + 1 : Nat) : Int) = (i : Int) + 1 from by omega] at hp
  have HP := Lib.hid hp
  have HAL := Lib.hid hal
  have HNEW := Lib.hid hnew
  obtain ⟨⟨i1, e1⟩, hs1⟩ : ∃ s, mustS bs 45 (i + 1, 0) = s := ⟨_, rfl⟩
  obtain ⟨⟨i2, e2⟩, hs2⟩ : ∃ s, mustS bs 49 (i1, e1) = s := ⟨_, rfl⟩
  have HS : Hid (flatS bs i = endS bs (i2, e2)) := by unfold Hid flatS; rw [hs1, hs2]
  have HM1 := Lib.hid (fun w1 hr => dmust_ok R A b o cap bs (i + 1) 0 45 (by omega) (by omega) w1 hr)
  have HM2 := Lib.hid (fun w1 hr => dmust_ok R A b o cap bs i1 e1 49 (by omega) (by omega) w1 hr)
  rw [hs1, show (((45 : Nat) : Nat) : Int) = 45 from rfl] at HM1
  rw [hs2, show (((49 : Nat) : Nat) : Int) = 49 from rfl] at HM2
  clear h hra hp hal hnew hs1 hs2
  go_enter Tryd.func40, Tryd.ntmps40
  go_wp2_with fail
  try rw [hwa]
  clear hwa
  refine (HM1.out _ HP.out.rd).mono ?_
  rintro en w1 ⟨rfl, hw1⟩
  have HW1 := Lib.hid (HP.out.trans hw1)
  clear hw1
  go_wp2_with fail
  refine (HM2.out _ HW1.out.rd).mono ?_
  rintro en w2 ⟨rfl, hw2⟩
  have HW2 := Lib.hid (HW1.out.trans hw2)
  clear hw2
  go_wp2_with fail
  refine (dend_ok R A b o cap bs i2 e2 _ HW2.out.rd).mono ?_
  rintro en w3 ⟨rfl, hw3⟩
  rw [← HS.out] at hw3
  have HW3 := Lib.hid (HW2.out.trans hw3)
  clear hw3
  have hg := HW3.out.grown
  have hl : w.heap.size < wa.heap.size := by omega
  have hne : ¬ (some w.heap.size = some R) := fun e => by injection e with e; omega
  have r0 : w3.cell? ⟨w.heap.size, 0, none⟩ = some (.int .i64 0) := (hg.cell_far ⟨w.heap.size, 0, none⟩ hl hne).trans (cell_in HNEW.out)
  have r1 : w3.cell? ⟨w.heap.size, 1, none⟩ = some (.string ⟨#[]⟩) := (hg.cell_far ⟨w.heap.size, 1, none⟩ hl hne).trans (cell_in HNEW.out)
  have r2 : w3.cell? ⟨w.heap.size, 2, none⟩ = some (.int .i64 0) := (hg.cell_far ⟨w.heap.size, 2, none⟩ hl hne).trans (cell_in HNEW.out)
  have r3 : w3.cell? ⟨w.heap.size, 3, none⟩ = some (.slice none 0 0) := (hg.cell_far ⟨w.heap.size, 3, none⟩ hl hne).trans (cell_in HNEW.out)
  have s0 : w3.frozen? ⟨w.heap.size, 0, none⟩ = false := (hg.frozen_far ⟨w.heap.size, 0, none⟩ hl hne).trans (mark_in HNEW.out)
  have s1 : w3.frozen? ⟨w.heap.size, 1, none⟩ = false := (hg.frozen_far ⟨w.heap.size, 1, none⟩ hl hne).trans (mark_in HNEW.out)
  have s2 : w3.frozen? ⟨w.heap.size, 2, none⟩ = false := (hg.frozen_far ⟨w.heap.size, 2, none⟩ hl hne).trans (mark_in HNEW.out)
  have s3 : w3.frozen? ⟨w.heap.size, 3, none⟩ = false := (hg.frozen_far ⟨w.heap.size, 3, none⟩ hl hne).trans (mark_in HNEW.out)
  have HWF := Lib.hid (Went.after HAL.out HW3.out)
  clear hg hl hne
  go_wp2
  refine bodyPost_ret (v := leafV 7 ⟨#[]⟩ 0) ?_ rfl ⟨rfl, ((((HWF.out.far _ _ hR hb (by exact Nat.le_refl _)).far _ _ hR hb (by exact Nat.le_refl _)).far _ _ hR hb (by exact Nat.le_refl _)).far _ _ hR hb (by exact Nat.le_refl _))⟩
  simp [results, Tryd.results40, go_sem, leafV, r0, r1, r2, r3]

theorem countS_range (bs : List UInt8) (most : Nat) (s : Nat × Nat) : -1 ≤ (countS bs most s).1 ∧ (countS bs most s).1 ≤ most := by
  unfold countS
  split
  · constructor
    · show (-1 : Int) ≤ -1; omega
    · show (-1 : Int) ≤ (most : Int); omega
  · have := digS_le bs most (byteS bs s).2
    constructor
    · show (-1 : Int) ≤ ((digS bs most (byteS bs s).2).1 : Int); omega
    · show ((digS bs most (byteS bs s).2).1 : Int) ≤ (most : Int); omega

/-- The document's bulk behind its mark: kind and text, and where it stops. -/
def dblkS (bs : List UInt8) (i : Nat) : (Nat × List UInt8) × (Nat × Nat) :=
  if (endS bs (countS bs 65536 (i, 0)).2).2 ≠ 0 ∨ (countS bs 65536 (i, 0)).1 < 0 then ((5, []), endS bs (countS bs 65536 (i, 0)).2)
  else if (bs.length : Int) - ((endS bs (countS bs 65536 (i, 0)).2).1 : Int) < (countS bs 65536 (i, 0)).1 then ((0, []), (bs.length, 31))
  else ((4, (bs.drop (endS bs (countS bs 65536 (i, 0)).2).1).take (countS bs 65536 (i, 0)).1.toNat), endS bs ((endS bs (countS bs 65536 (i, 0)).2).1 + (countS bs 65536 (i, 0)).1.toNat, 0))

theorem box_kept {w wa w3 : World} {R : Nat} (hnew : wa.heap[w.heap.size]? = some (.cells #[.int .i64 0, .string ⟨#[]⟩, .int .i64 0, .slice none 0 0] 25)) (hl : w.heap.size < wa.heap.size) (hg : wa.grownBy w3 (some R)) (hR : R < w.heap.size) :
    (w3.cell? ⟨w.heap.size, 0, none⟩ = some (.int .i64 0) ∧ w3.cell? ⟨w.heap.size, 1, none⟩ = some (.string ⟨#[]⟩) ∧ w3.cell? ⟨w.heap.size, 2, none⟩ = some (.int .i64 0) ∧ w3.cell? ⟨w.heap.size, 3, none⟩ = some (.slice none 0 0)) ∧
    (w3.frozen? ⟨w.heap.size, 0, none⟩ = false ∧ w3.frozen? ⟨w.heap.size, 1, none⟩ = false ∧ w3.frozen? ⟨w.heap.size, 2, none⟩ = false ∧ w3.frozen? ⟨w.heap.size, 3, none⟩ = false) := by
  have hne : ¬ (some w.heap.size = some R) := fun e => by injection e with e; omega
  exact ⟨⟨(hg.cell_far ⟨w.heap.size, 0, none⟩ hl hne).trans (cell_in hnew), (hg.cell_far ⟨w.heap.size, 1, none⟩ hl hne).trans (cell_in hnew), (hg.cell_far ⟨w.heap.size, 2, none⟩ hl hne).trans (cell_in hnew), (hg.cell_far ⟨w.heap.size, 3, none⟩ hl hne).trans (cell_in hnew)⟩,
    ⟨(hg.frozen_far ⟨w.heap.size, 0, none⟩ hl hne).trans (mark_in hnew), (hg.frozen_far ⟨w.heap.size, 1, none⟩ hl hne).trans (mark_in hnew), (hg.frozen_far ⟨w.heap.size, 2, none⟩ hl hne).trans (mark_in hnew), (hg.frozen_far ⟨w.heap.size, 3, none⟩ hl hne).trans (mark_in hnew)⟩⟩

theorem Went.box {w w1 : World} {R : Nat} {A : Option Addr} {b o cap : Nat} {bs : List UInt8} {s : Nat × Nat} (h : Went w R A b o cap bs s w1) (hR : R < w.heap.size) (hb : b < w.heap.size) (v0 v1 v2 v3 : Value) :
    Went w R A b o cap bs s ((((w1.setCell ⟨w.heap.size, 0, none⟩ v0).setCell ⟨w.heap.size, 1, none⟩ v1).setCell ⟨w.heap.size, 2, none⟩ v2).setCell ⟨w.heap.size, 3, none⟩ v3) :=
  (((h.far _ _ hR hb (by exact Nat.le_refl _)).far _ _ hR hb (by exact Nat.le_refl _)).far _ _ hR hb (by exact Nat.le_refl _)).far _ _ hR hb (by exact Nat.le_refl _)

theorem conv_seg (w : World) (b o cap : Nat) (bs : List UInt8) (i m : Nat) (h : BytesAt w b o bs) (hm : i + m ≤ bs.length) (hc : bs.length ≤ cap) :
    (convert 26 9 (.slice (if cap = i then some ⟨b, o, none⟩ else some ⟨b, o + i, none⟩) m (cap - i))).run Tryd.prog w = .ok (.string ⟨((bs.drop i).take m).toArray⟩) w := by
  have := conv_mid w b o cap bs i (i + m) h (by omega) hm hc
  rwa [show i + m - i = m from by omega] at this

set_option maxRecDepth 100000 in
set_option maxHeartbeats 8000000 in
theorem dbulk_ok (R : Nat) (A : Option Addr) (b o cap : Nat) (bs : List UInt8) (i : Nat) (hi : 0 < i) (w : World) (hb : b < w.heap.size) (h : RdAt w R A b o cap bs i 0) :
    Calls Tryd.prog 44 #[.pointer (some ⟨R, 0, none⟩)] w fun en w' => (∃ T : ByteArray, en = .returned (leafV (dblkS bs i).1.1 T 0) ∧ T.data.toList = (dblkS bs i).1.2) ∧ Went w R A b o cap bs (dblkS bs i).2 w' := by
  have hR := h.lt
  have hbig := h.big
  have hle := h.le
  have hcl := h.cl
  have hcm := h.cm
  obtain rfl := h.hA (by omega)
  have hal : Below w.heap.size w (w.alloc (.cells #[.int .i64 0, .string ⟨#[]⟩, .int .i64 0, .slice none 0 0] 25)) := (Below.refl _ _).alloc (Nat.le_refl _) _
  have hnew := World.alloc_heap_new w (.cells #[.int .i64 0, .string ⟨#[]⟩, .int .i64 0, .slice none 0 0] 25)
  have hs : (w.alloc (.cells #[.int .i64 0, .string ⟨#[]⟩, .int .i64 0, .slice none 0 0] 25)).heap.size = w.heap.size + 1 := by simp
  obtain ⟨wa, hwa⟩ : ∃ wa, w.alloc (.cells #[.int .i64 0, .string ⟨#[]⟩, .int .i64 0, .slice none 0 0] 25) = wa := ⟨_, rfl⟩
  rw [hwa] at hal hnew hs
  have HRA := Lib.hid (h.below hal).went
  have HAL := Lib.hid hal
  have HNEW := Lib.hid hnew
  have HC := Lib.hid (fun w1 hr => dcount_ok R (some ⟨b, o, none⟩) b o cap bs i 0 65536 (by omega) (by omega) w1 hr)
  have hrg := countS_range bs 65536 (i, 0)
  obtain ⟨⟨n, ⟨i1, e1⟩⟩, hc⟩ : ∃ s, countS bs 65536 (i, 0) = s := ⟨_, rfl⟩
  obtain ⟨⟨i2, e2⟩, he⟩ : ∃ s, endS bs (i1, e1) = s := ⟨_, rfl⟩
  have HE := Lib.hid (fun w1 hr => dend_ok R (some ⟨b, o, none⟩) b o cap bs i1 e1 w1 hr)
  have HS : Hid (dblkS bs i = if e2 ≠ 0 ∨ n < 0 then ((5, []), (i2, e2)) else if (bs.length : Int) - (i2 : Int) < n then ((0, []), (bs.length, 31)) else ((4, (bs.drop i2).take n.toNat), endS bs (i2 + n.toNat, 0))) := by
    unfold Hid dblkS; rw [hc, he]
  rw [hc, show (((65536 : Nat) : Nat) : Int) = 65536 from rfl] at HC
  rw [hc] at hrg
  rw [he] at HE
  have hn0 : -1 ≤ n := hrg.1
  have hn1 : n ≤ 65536 := hrg.2
  clear hc he hrg h hal hnew
  by_cases hcase : e2 ≠ 0 ∨ n < 0
  · rw [if_pos hcase] at HS
    have hdec : ((e2 : Int) != 0) = true ∨ (((e2 : Int) != 0) = false ∧ decide (n < 0) = true) := by
      by_cases h0 : e2 = 0
      · exact Or.inr ⟨by rw [h0]; rfl, by rcases hcase with h1 | h1; exact absurd h0 h1; exact decide_eq_true h1⟩
      · exact Or.inl (by rw [bne_iff_ne]; omega)
    clear hcase
    rcases hdec with hd | ⟨hd, hd2⟩
    · go_enter Tryd.func44, Tryd.ntmps44
      go_wp2_with fail
      try rw [hwa]
      clear hwa
      refine (HC.out _ HRA.out.rd).mono ?_
      rintro en w1 ⟨rfl, hw1⟩
      have HW1 := Lib.hid (HRA.out.trans hw1)
      clear hw1
      go_wp2_with fail
      refine (HE.out _ HW1.out.rd).mono ?_
      rintro en w2 ⟨rfl, hw2⟩
      have HW2 := Lib.hid (HW1.out.trans hw2)
      have e2c := hw2.rd.c2
      obtain ⟨⟨r0, r1, r2, r3⟩, s0, s1, s2, s3⟩ := box_kept HNEW.out (by omega) HW2.out.grown hR
      clear hw2
      go_wp2
      refine bodyPost_ret (v := leafV 5 ⟨#[]⟩ 0) ?_ rfl ⟨⟨⟨#[]⟩, by rw [HS.out]; rfl, by rw [HS.out]⟩, by rw [HS.out]; exact (Went.after HAL.out HW2.out).box hR hb _ _ _ _⟩
      simp [results, Tryd.results44, go_sem, leafV, r0, r1, r2, r3]
    · go_enter Tryd.func44, Tryd.ntmps44
      go_wp2_with fail
      try rw [hwa]
      clear hwa
      refine (HC.out _ HRA.out.rd).mono ?_
      rintro en w1 ⟨rfl, hw1⟩
      have HW1 := Lib.hid (HRA.out.trans hw1)
      clear hw1
      go_wp2_with fail
      refine (HE.out _ HW1.out.rd).mono ?_
      rintro en w2 ⟨rfl, hw2⟩
      have HW2 := Lib.hid (HW1.out.trans hw2)
      have e2c := hw2.rd.c2
      obtain ⟨⟨r0, r1, r2, r3⟩, s0, s1, s2, s3⟩ := box_kept HNEW.out (by omega) HW2.out.grown hR
      clear hw2
      go_wp2
      refine bodyPost_ret (v := leafV 5 ⟨#[]⟩ 0) ?_ rfl ⟨⟨⟨#[]⟩, by rw [HS.out]; rfl, by rw [HS.out]⟩, by rw [HS.out]; exact (Went.after HAL.out HW2.out).box hR hb _ _ _ _⟩
      simp [results, Tryd.results44, go_sem, leafV, r0, r1, r2, r3]
  · rw [if_neg hcase] at HS
    obtain rfl : e2 = 0 := by omega
    obtain ⟨m, rfl⟩ : ∃ m : Nat, n = m := ⟨n.toNat, by omega⟩
    have hm : m ≤ 65536 := by omega
    clear hcase hn0 hn1
    by_cases hsh : (bs.length : Int) - (i2 : Int) < (m : Int)
    · rw [if_pos hsh] at HS
      have HF := Lib.hid (fun w1 hr => dfail_ok R (some ⟨b, o, none⟩) b o cap bs bs.length 0 w1 hr)
      rw [show failS bs (bs.length, 0) = (bs.length, 31) from by unfold failS; simp] at HF
      go_enter Tryd.func44, Tryd.ntmps44
      go_wp2_with fail
      try rw [hwa]
      clear hwa
      refine (HC.out _ HRA.out.rd).mono ?_
      rintro en w1 ⟨rfl, hw1⟩
      have HW1 := Lib.hid (HRA.out.trans hw1)
      clear hw1
      go_wp2_with fail
      refine (HE.out _ HW1.out.rd).mono ?_
      rintro en w2 ⟨rfl, hw2⟩
      have HW2 := Lib.hid (HW1.out.trans hw2)
      have c0 := hw2.rd.c0
      have c1 := hw2.rd.c1
      have c2 := hw2.rd.c2
      have f1 := hw2.rd.f1
      have hi2 := hw2.rd.le
      obtain ⟨⟨r0, r1, r2, r3⟩, s0, s1, s2, s3⟩ := box_kept HNEW.out (by omega) HW2.out.grown hR
      clear hw2
      go_wp2
      go_region
      all_goals
        go_wp2_with fail
        first
          | (refine (HF.out _ (HW2.out.drew.place bs.length (Nat.le_refl _)).rd).mono ?_; rintro en w3 ⟨rfl, hw3⟩; have HW3 := Lib.hid ((HW2.out.drew.place bs.length (Nat.le_refl _)).trans hw3))
          | (refine (HF.out _ (HW2.out.place bs.length (Nat.le_refl _)).rd).mono ?_; rintro en w3 ⟨rfl, hw3⟩; have HW3 := Lib.hid ((HW2.out.place bs.length (Nat.le_refl _)).trans hw3))
        clear hw3 r0 r1 r2 r3 s0 s1 s2 s3
        obtain ⟨⟨r0, r1, r2, r3⟩, s0, s1, s2, s3⟩ := box_kept HNEW.out (by omega) HW3.out.grown hR
        go_wp2
        refine bodyPost_ret (v := leafV 0 ⟨#[]⟩ 0) ?_ rfl ⟨⟨⟨#[]⟩, by rw [HS.out]; rfl, by rw [HS.out]⟩, by rw [HS.out]; exact (Went.after HAL.out HW3.out).box hR hb _ _ _ _⟩
        simp [results, Tryd.results44, go_sem, leafV, r0, r1, r2, r3]
    · rw [if_neg hsh, Int.toNat_natCast] at HS
      have HE2 := Lib.hid (fun w1 hr => dend_ok R (some ⟨b, o, none⟩) b o cap bs (i2 + m) 0 w1 hr)
      obtain ⟨T, hT⟩ : ∃ T : ByteArray, ⟨((bs.drop i2).take m).toArray⟩ = T := ⟨_, rfl⟩
      have HT : Hid (T.data.toList = (bs.drop i2).take m) := by unfold Hid; rw [← hT]
      by_cases hci : cap = i2
      · go_enter Tryd.func44, Tryd.ntmps44
        go_wp2_with fail
        try rw [hwa]
        clear hwa
        refine (HC.out _ HRA.out.rd).mono ?_
        rintro en w1 ⟨rfl, hw1⟩
        have HW1 := Lib.hid (HRA.out.trans hw1)
        clear hw1
        go_wp2_with fail
        refine (HE.out _ HW1.out.rd).mono ?_
        rintro en w2 ⟨rfl, hw2⟩
        have HW2 := Lib.hid (HW1.out.trans hw2)
        have c0 := hw2.rd.c0
        have c1 := hw2.rd.c1
        have c2 := hw2.rd.c2
        have f1 := hw2.rd.f1
        have hi2 := hw2.rd.le
        have hcv := conv_seg w2.drew.drew b o cap bs i2 m hw2.drew.drew.rd.at_ (by omega) hcl
        have hcv2 := conv_seg w2.drew b o cap bs i2 m hw2.drew.rd.at_ (by omega) hcl
        rw [if_pos hci, show cap - i2 = 0 from by omega, hT] at hcv hcv2
        have hp := HW2.out.place (i2 + m) (by omega)
        rw [show ((i2 + m : Nat) : Int) = (i2 : Int) + (m : Int) from by omega] at hp
        have HP := Lib.hid hp.drew.drew
        obtain ⟨⟨r0, r1, r2, r3⟩, s0, s1, s2, s3⟩ := box_kept HNEW.out (by omega) HW2.out.grown hR
        clear hw2 hp
        go_wp2
        go_region
        all_goals
          go_wp2
          go_region
          all_goals
            go_wp2_with fail
            refine (HE2.out _ HP.out.rd).mono ?_
            rintro en w3 ⟨rfl, hw3⟩
            have HW3 := Lib.hid (HP.out.trans hw3)
            clear hw3 r0 r1 r2 r3 s0 s1 s2 s3
            obtain ⟨⟨r0, r1, r2, r3⟩, s0, s1, s2, s3⟩ := box_kept HNEW.out (by omega) HW3.out.grown hR
            go_wp2
            refine bodyPost_ret (v := leafV 4 T 0) ?_ rfl ⟨⟨T, by rw [HS.out]; rfl, by rw [HS.out]; exact HT.out⟩, by rw [HS.out]; exact (Went.after HAL.out HW3.out).box hR hb _ _ _ _⟩
            simp [results, Tryd.results44, go_sem, leafV, r0, r1, r2, r3]
      · go_enter Tryd.func44, Tryd.ntmps44
        go_wp2_with fail
        try rw [hwa]
        clear hwa
        refine (HC.out _ HRA.out.rd).mono ?_
        rintro en w1 ⟨rfl, hw1⟩
        have HW1 := Lib.hid (HRA.out.trans hw1)
        clear hw1
        go_wp2_with fail
        refine (HE.out _ HW1.out.rd).mono ?_
        rintro en w2 ⟨rfl, hw2⟩
        have HW2 := Lib.hid (HW1.out.trans hw2)
        have c0 := hw2.rd.c0
        have c1 := hw2.rd.c1
        have c2 := hw2.rd.c2
        have f1 := hw2.rd.f1
        have hi2 := hw2.rd.le
        have hcv := conv_seg w2.drew.drew b o cap bs i2 m hw2.drew.drew.rd.at_ (by omega) hcl
        have hcv2 := conv_seg w2.drew b o cap bs i2 m hw2.drew.rd.at_ (by omega) hcl
        rw [if_neg hci, hT] at hcv hcv2
        have hp := HW2.out.place (i2 + m) (by omega)
        rw [show ((i2 + m : Nat) : Int) = (i2 : Int) + (m : Int) from by omega] at hp
        have HP := Lib.hid hp.drew.drew
        obtain ⟨⟨r0, r1, r2, r3⟩, s0, s1, s2, s3⟩ := box_kept HNEW.out (by omega) HW2.out.grown hR
        clear hw2 hp
        go_wp2
        go_region
        all_goals
          go_wp2
          go_region
          all_goals
            go_wp2_with fail
            refine (HE2.out _ HP.out.rd).mono ?_
            rintro en w3 ⟨rfl, hw3⟩
            have HW3 := Lib.hid (HP.out.trans hw3)
            clear hw3 r0 r1 r2 r3 s0 s1 s2 s3
            obtain ⟨⟨r0, r1, r2, r3⟩, s0, s1, s2, s3⟩ := box_kept HNEW.out (by omega) HW3.out.grown hR
            go_wp2
            refine bodyPost_ret (v := leafV 4 T 0) ?_ rfl ⟨⟨T, by rw [HS.out]; rfl, by rw [HS.out]; exact HT.out⟩, by rw [HS.out]; exact (Went.after HAL.out HW3.out).box hR hb _ _ _ _⟩
            simp [results, Tryd.results44, go_sem, leafV, r0, r1, r2, r3]

end Go.Proofs.YtppbcdollomebaaDoor
