/-
  The walk of SkipBounds. Conditions: the table of math/bits lies where the program laid it; arguments as typed.
-/
import Derived.Test.YtcbiiioglklpoaaDoorSkD
import Derived.Deep.RegionHeld3
namespace Go.Proofs.YtcbiiioglklpoaaDoor
open Go.RowKit

theorem bup {a b c : World} (h : Below a.heap.size a b) (k : Below b.heap.size b c) : Below a.heap.size a c := h.trans (k.mono h.size)

def cutK (s : ByteArray) : ByteArray := if 100 < s.size then s.extract 0 100 else s

theorem cutK_size (s : ByteArray) : (cutK s).size ≤ 100 := by
  unfold cutK
  split
  · simp [ByteArray.size_extract]; omega
  · omega

set_option maxRecDepth 100000 in
theorem cut_any (s : ByteArray) (w : World) (hs : s.size ≤ 9223372036854775807) :
    Calls Tryd.prog 8 #[.string s] w fun e w' => e = .returned (.string (cutK s)) ∧ w' = w := by
  unfold cutK
  by_cases h : 100 < s.size
  · rw [if_pos h]
    have h' : (100 : Int) < (s.size : Int) := by omega
    have hle : 100 ≤ s.size := by omega
    clear h
    go_enter Tryd.func8, Tryd.ntmps8
    go_wp2
    go_ret
    exact ⟨rfl, rfl⟩
  · rw [if_neg h]
    have h' : ¬ (100 : Int) < (s.size : Int) := by omega
    clear h
    go_enter Tryd.func8, Tryd.ntmps8
    go_wp2
    go_ret
    exact ⟨rfl, rfl⟩

/-- A bound in a box, cell by cell. -/
def BdAt (X : World) (B : Nat) (b : Bd) : Prop := X.cell? ⟨B, 0, none⟩ = some (.int .i64 b.n) ∧ X.cell? ⟨B, 1, none⟩ = some (.bool b.open_) ∧ X.cell? ⟨B, 2, none⟩ = some (.int .i64 b.inf)

theorem bd_alloc (w : World) (b : Bd) : BdAt (w.alloc (.cells #[.int .i64 b.n, .bool b.open_, .int .i64 b.inf] 23)) w.heap.size b := by
  have r := World.rowIs_alloc w #[.int .i64 b.n, .bool b.open_, .int .i64 b.inf] 23 (bdF b) (fun i hi => by
    have hi : i < 3 := hi
    rcases (by omega : i = 0 ∨ i = 1 ∨ i = 2) with rfl | rfl | rfl <;> rfl)
  exact ⟨r.cell (i := 0) (by simp), r.cell (i := 1) (by simp), r.cell (i := 2) (by simp)⟩
theorem BdAt.below {X Y : World} {B : Nat} {b : Bd} {M : Nat} (h : BdAt X B b) (hB : B < M) (hY : Below M X Y) : BdAt Y B b :=
  ⟨(hY.cell (p := ⟨B, 0, none⟩) hB).trans h.1, (hY.cell (p := ⟨B, 1, none⟩) hB).trans h.2.1, (hY.cell (p := ⟨B, 2, none⟩) hB).trans h.2.2⟩

set_option maxRecDepth 100000 in
set_option maxHeartbeats 16000000 in
theorem skipBounds_any (T : ByteArray) (n : Int) (lo hi : Bd) (seed : Nat) (w : World) (hT : T.size ≤ 9223372036854775807) (hsd : seed < 18446744073709551616) (hz : Tz w) (hg : 0 < w.heap.size) :
    Calls Tryd.prog 3 #[.string T, .int .i64 n, bdV lo, bdV hi, .int .u64 (seed : Nat)] w fun e w' => e = .returned (.bool true) ∧ Below w.heap.size w w' := by
  have hC := cutK_size T
  obtain ⟨C, hCe⟩ : ∃ C, cutK T = C := ⟨_, rfl⟩
  have HCU := Lib.hid (fun W => cut_any T W hT)
  rw [hCe] at hC HCU
  clear hCe hT
  obtain ⟨M, hM⟩ : ∃ M, w.heap.size = M := ⟨_, rfl⟩
  obtain ⟨wa, hwa⟩ : ∃ wa, (w.alloc (.cells #[.int .i64 lo.n, .bool lo.open_, .int .i64 lo.inf] 23)).alloc (.cells #[.int .i64 hi.n, .bool hi.open_, .int .i64 hi.inf] 23) = wa := ⟨_, rfl⟩
  have sa : wa.heap.size = M + 2 := by rw [← hwa, ← hM]; simp
  have ba : Below M w wa := by rw [← hwa, ← hM]; exact ((Below.refl _ _).alloc (Nat.le_refl _) _).alloc (by simp) _
  have l1 : BdAt wa M lo := by
    rw [← hwa, ← hM]
    exact (bd_alloc w lo).below (M := w.heap.size + 1) (by omega) ((Below.refl _ _).alloc (by simp) _)
  have l2 : BdAt wa (M + 1) hi := by
    rw [← hwa, ← hM]
    have q := bd_alloc (w.alloc (.cells #[.int .i64 lo.n, .bool lo.open_, .int .i64 lo.inf] 23)) hi
    have e : (w.alloc (.cells #[.int .i64 lo.n, .bool lo.open_, .int .i64 lo.inf] 23)).heap.size = w.heap.size + 1 := by simp
    rw [e] at q
    exact q
  have HWA := Lib.hid hwa
  have HRD := Lib.hid (read_any C wa (by omega))
  have HRR := Lib.hid (fun W => rread_any C W (by omega))
  obtain ⟨RB, hRB⟩ : ∃ RB, rdB C.data.toList = RB := ⟨_, rfl⟩
  obtain ⟨RE, hRE⟩ : ∃ RE, rdE C.data.toList = RE := ⟨_, rfl⟩
  rw [hRB, hRE] at HRD HRR
  unfold bdV at HRD HRR ⊢
  have HL1 := Lib.hid l1
  have HL2 := Lib.hid l2
  have HSA := Lib.hid sa
  have HBA := Lib.hid ba
  have HZ := Lib.hid hz
  have HG := Lib.hid hg
  have HMh := Lib.hid hM
  have HCC := Lib.hid hC
  have HSD := Lib.hid hsd
  rw [hM]
  clear hwa sa ba l1 l2 hRB hRE hz hg hC hsd
  go_enter Tryd.func3, Tryd.ntmps3
  go_wp2_with fail
  rw [HWA.out]
  refine (HCU.out _).mono ?_
  rintro e w1 ⟨rfl, rfl⟩
  go_wp2_with fail
  refine HRD.out.mono ?_
  rintro e w2 ⟨rfl, hb2⟩
  have HB2 := Lib.hid hb2
  clear hb2
  go_wp2_with fail
  obtain ⟨w3, hw3⟩ : ∃ w3, w2.alloc (.cells #[.int .i64 RB.n, .bool RB.open_, .int .i64 RB.inf] 23) = w3 := ⟨_, rfl⟩
  rw [hw3]
  have HL3 : Hid (BdAt w3 w2.heap.size RB) := by unfold Hid; rw [← hw3]; exact bd_alloc w2 RB
  have HB3 : Hid (Below w1.heap.size w1 w3) := by unfold Hid; rw [← hw3]; exact HB2.out.alloc HB2.out.size _
  have HS3 : Hid (w3.heap.size = w2.heap.size + 1) := by unfold Hid; rw [← hw3]; simp
  clear hw3
  refine (HRR.out w3).mono ?_
  rintro e w4 ⟨rfl, hb4⟩
  have HB4 := Lib.hid hb4
  clear hb4
  go_wp2_with fail
  obtain ⟨w5, hw5⟩ : ∃ w5, w4.alloc (.cells #[.int .i64 RB.n, .bool RB.open_, .int .i64 RB.inf] 23) = w5 := ⟨_, rfl⟩
  rw [hw5]
  have hb45 : Below w3.heap.size w3 w5 := by rw [← hw5]; exact HB4.out.alloc HB4.out.size _
  have HB5 : Hid (Below M w w5) := HBA.out.trans ((bup HB3.out hb45).mono (by have := HSA.out; omega))
  have hl4 : BdAt w5 w4.heap.size RB := by rw [← hw5]; exact bd_alloc w4 RB
  have hl3 : BdAt w5 w2.heap.size RB := HL3.out.below (M := w3.heap.size) (by have := HS3.out; omega) hb45
  have hl1 : BdAt w5 M lo := HL1.out.below (M := w1.heap.size) (by have := HSA.out; omega) (bup HB3.out hb45)
  have hl2 : BdAt w5 (M + 1) hi := HL2.out.below (M := w1.heap.size) (by have := HSA.out; omega) (bup HB3.out hb45)
  obtain ⟨B1, hB1⟩ : ∃ B, w2.heap.size = B := ⟨_, rfl⟩
  obtain ⟨B2, hB2⟩ : ∃ B, w4.heap.size = B := ⟨_, rfl⟩
  have s5 : w5.heap.size = B2 + 1 := by rw [← hw5, ← hB2]; simp
  have hlt1 : B1 < B2 := by have := HB4.out.size; have := HS3.out; omega
  have hltM : M + 1 < B2 := by have := HB2.out.size; have := HSA.out; omega
  rw [hB1] at hl3 ⊢
  rw [hB2] at hl4 ⊢
  have HK : Hid (∀ X, Below w5.heap.size w5 X → Below w5.heap.size w5 X ∧ X.cell? ⟨M, 0, none⟩ = some (.int .i64 lo.n) ∧ X.cell? ⟨M, 1, none⟩ = some (.bool lo.open_) ∧ X.cell? ⟨M, 2, none⟩ = some (.int .i64 lo.inf) ∧ X.cell? ⟨M + 1, 0, none⟩ = some (.int .i64 hi.n) ∧ X.cell? ⟨M + 1, 1, none⟩ = some (.bool hi.open_) ∧ X.cell? ⟨M + 1, 2, none⟩ = some (.int .i64 hi.inf) ∧ X.cell? ⟨B1, 0, none⟩ = some (.int .i64 RB.n) ∧ X.cell? ⟨B1, 1, none⟩ = some (.bool RB.open_) ∧ X.cell? ⟨B1, 2, none⟩ = some (.int .i64 RB.inf) ∧ X.cell? ⟨B2, 0, none⟩ = some (.int .i64 RB.n) ∧ X.cell? ⟨B2, 1, none⟩ = some (.bool RB.open_) ∧ X.cell? ⟨B2, 2, none⟩ = some (.int .i64 RB.inf)) := fun X hX => by
    obtain ⟨a1, a2, a3⟩ := hl1.below (by omega) hX
    obtain ⟨a4, a5, a6⟩ := hl2.below (by omega) hX
    obtain ⟨a7, a8, a9⟩ := hl3.below (by omega) hX
    obtain ⟨b1, b2, b3⟩ := hl4.below (by omega) hX
    exact ⟨hX, a1, a2, a3, a4, a5, a6, a7, a8, a9, b1, b2, b3⟩
  have HIN := Lib.hid (fun W => in_any n lo hi W)
  have HRI := Lib.hid (fun W => rin_any n lo hi W)
  obtain ⟨IB, hIB⟩ : ∃ IB, inB n lo hi = IB := ⟨_, rfl⟩
  rw [hIB] at HIN HRI
  unfold bdV at HIN HRI
  have HTZ : Hid (∀ X, Below w5.heap.size w5 X → Tz X ∧ 0 < X.heap.size) := fun X hX => by
    have g1 := HG.out
    have m1 := HMh.out
    have z5 : Tz w5 := HZ.out.block (HB5.out.block _ (by omega))
    have x1 := hX.size
    exact ⟨z5.block (hX.block _ (by omega)), by omega⟩
  have HLV := Lib.hid (fun X (hX : Below w5.heap.size w5 X) => level_any seed HSD.out C X (by have := HCC.out; omega) (HTZ.out X hX).1)
  have HRL := Lib.hid (fun X => rlevel_any seed HSD.out C X (by have := HCC.out; omega))
  obtain ⟨LV, hLV⟩ : ∃ LV, lvT seed C.data.toList = LV := ⟨_, rfl⟩
  rw [hLV] at HLV HRL
  have HAL := Lib.hid (fun X (hX : Below w5.heap.size w5 X) => alive_any X (HTZ.out X hX).1 (HTZ.out X hX).2)
  have heq : ∀ X : World, (binOp .eql 23 (.agg #[.int .i64 RB.n, .bool RB.open_, .int .i64 RB.inf]) (.agg #[.int .i64 RB.n, .bool RB.open_, .int .i64 RB.inf])).run Tryd.prog X = .ok (.bool true) X := by intro X; go_simp
  have H0 : Hid (Below w5.heap.size w5 w5) := Below.refl _ _
  have HBM : Hid (∀ X, Below w5.heap.size w5 X → Below M w X) := fun X hX => HB5.out.trans (hX.mono (by have := HB5.out.size; have := HMh.out; omega))
  clear hw5 hb45 hl1 hl2 hl3 hl4 hB1 hB2 s5 hlt1 hltM hIB hLV
  go_region_held3 (fun X => Below w5.heap.size w5 X ∧ X.cell? ⟨M, 0, none⟩ = some (.int .i64 lo.n) ∧ X.cell? ⟨M, 1, none⟩ = some (.bool lo.open_) ∧ X.cell? ⟨M, 2, none⟩ = some (.int .i64 lo.inf) ∧ X.cell? ⟨M + 1, 0, none⟩ = some (.int .i64 hi.n) ∧ X.cell? ⟨M + 1, 1, none⟩ = some (.bool hi.open_) ∧ X.cell? ⟨M + 1, 2, none⟩ = some (.int .i64 hi.inf) ∧ X.cell? ⟨B1, 0, none⟩ = some (.int .i64 RB.n) ∧ X.cell? ⟨B1, 1, none⟩ = some (.bool RB.open_) ∧ X.cell? ⟨B1, 2, none⟩ = some (.int .i64 RB.inf) ∧ X.cell? ⟨B2, 0, none⟩ = some (.int .i64 RB.n) ∧ X.cell? ⟨B2, 1, none⟩ = some (.bool RB.open_) ∧ X.cell? ⟨B2, 2, none⟩ = some (.int .i64 RB.inf))
    (first | exact HK.out _ HC5.out | exact HK.out _ HC4.out | exact HK.out _ HC3.out | exact HK.out _ HC2.out | exact HK.out _ HC1.out | exact HK.out _ H0.out.drew | exact HK.out _ H0.out)
    (first
    | (have qq := HC4; clear qq; go_at_call 15; refine Calls.mono (HAL.out _ HC4.out) ?_; rintro en x5 ⟨rfl, hb⟩; have HC5 : Hid (Below w5.heap.size w5 x5) := bup HC4.out hb; clear hb)
    | (have qq := HC3; clear qq; go_at_call 14; refine Calls.mono (HRL.out _) ?_; rintro en x4 ⟨rfl, hb⟩; have HC4 : Hid (Below w5.heap.size w5 x4) := bup HC3.out hb; clear hb)
    | (have qq := HC2; clear qq; go_at_call 13; refine Calls.mono (HLV.out _ HC2.out) ?_; rintro en x3 ⟨rfl, hb⟩; have HC3 : Hid (Below w5.heap.size w5 x3) := hb ▸ HC2.out; clear hb)
    | (have qq := HC1; clear qq; go_at_call 12; refine Calls.mono (HRI.out _) ?_; rintro en x2 ⟨rfl, hb⟩; have HC2 : Hid (Below w5.heap.size w5 x2) := bup HC1.out hb; clear hb)
    | (go_at_call 11; refine Calls.mono (HIN.out _) ?_; rintro en x1 ⟨rfl, hb⟩; have HC1 : Hid (Below w5.heap.size w5 x1) := (by first | exact bup H0.out hb | exact bup H0.out.drew hb); clear hb))
  all_goals
    go_wp2
    go_ret
    exact ⟨rfl, HBM.out _ HC5.out⟩

end Go.Proofs.YtcbiiioglklpoaaDoor
