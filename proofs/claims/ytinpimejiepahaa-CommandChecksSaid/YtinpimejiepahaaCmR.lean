/-
  CommandChecks' walk. Condition: the arguments lie in memory.
-/
import Derived.Test.YtinpimejiepahaaCmQ
namespace Go.Proofs.Ytinpimejiepahaa
open Go.RowKit

/-- Check's reply as its cells. -/
theorem repV_form (r : Option Tx) : ∃ (k : Int) (T : ByteArray), repV r = .agg #[.int .i64 k, .string T, .int .i64 0, .slice none 0 0] := by
  cases r with
  | none => exact ⟨0, ⟨#[]⟩, rfl⟩
  | some T => exact ⟨2, ⟨T.toArray⟩, rfl⟩
theorem chkV_form (L : List Tx) : ∃ (T U : ByteArray) (g ar f la st k : Int) (wr b : Bool), chkV L = .tuple #[.agg #[.string T, .int .i64 g, .int .i64 ar, .bool wr, .int .i64 f, .int .i64 la, .int .i64 st], .agg #[.int .i64 k, .string U, .int .i64 0, .slice none 0 0], .bool b] := by
  obtain ⟨k, U, hU⟩ := repV_form (chk L).2
  unfold chkV
  rw [hU]
  obtain ⟨nm, g, ar, wr, f, la, st⟩ := (chk L).1
  exact ⟨_, _, _, _, _, _, _, _, _, _, rfl⟩

set_option maxRecDepth 100000 in
set_option maxHeartbeats 16000000 in
theorem checks_any {A : Option Addr} {n c : Nat} {L : List Tx} (w : World) (h : TxAt w A n c L) :
    Calls Try.prog 4 #[.slice A n c] w fun e w' => e = .returned (.bool true) ∧ Below w.heap.size w w' := by
  have HFE := Lib.hid (few_any w h)
  have HAL := Lib.hid alive_any
  obtain ⟨T, U, g, ar, f, la, st, k, wr_, b, hcv⟩ := chkV_form (fewT L)
  have HCK := Lib.hid (fun (X : World) (A : Option Addr) (m c : Nat) (h : TxAt X A m c (fewT L)) (hm : m ≤ 2000) => check_any X h hm (fewT_short L))
  have HRK := Lib.hid (fun (X : World) (A : Option Addr) (m c : Nat) (h : TxAt X A m c (fewT L)) (hm : m ≤ 2000) => rcheck_any X h hm (fewT_short L))
  rw [hcv] at HCK HRK
  obtain ⟨B, hB⟩ : ∃ B, w.heap.size = B := ⟨_, rfl⟩
  have HBW := Lib.hid hB
  rw [hB] at HFE
  rw [hB]
  have hEqS : ∀ X : World, (binOp .eql 27 (.agg #[.string T, .int .i64 g, .int .i64 ar, .bool wr_, .int .i64 f, .int .i64 la, .int .i64 st]) (.agg #[.string T, .int .i64 g, .int .i64 ar, .bool wr_, .int .i64 f, .int .i64 la, .int .i64 st])).run Try.prog X = .ok (.bool true) X := by
    intro X
    have k0 : (T.toList == T.toList) = true := by simp
    go_simp
  clear h hcv hB
  go_enter Try.func4, Try.ntmps4
  go_wp2_with fail
  refine HFE.out.mono ?_
  rintro e w1 ⟨A1, m1, c1, rfl, h1, hb1, hm1⟩
  have HT1 := Lib.hid h1
  have HB1 := Lib.hid hb1
  clear h1 hb1
  go_wp2_with fail
  refine (HCK.out w1 A1 m1 c1 HT1.out hm1).mono ?_
  rintro e w2 ⟨rfl, hb2⟩
  have HB2 := Lib.hid hb2
  obtain ⟨Q1, hQ1⟩ : ∃ Q, w2.heap.size = Q := ⟨_, rfl⟩
  obtain ⟨w3, hw3⟩ : ∃ w3, w2.alloc (.cells #[.string T, .int .i64 g, .int .i64 ar, .bool wr_, .int .i64 f, .int .i64 la, .int .i64 st] 27) = w3 := ⟨_, rfl⟩
  obtain ⟨w4, hw4⟩ : ∃ w4, w3.alloc (.cells #[.int .i64 k, .string U, .int .i64 0, .slice none 0 0] 37) = w4 := ⟨_, rfl⟩
  have b3 : Below w2.heap.size w2 w3 := by rw [← hw3]; exact (Below.refl _ _).alloc (Nat.le_refl _) _
  have b4 : Below w3.heap.size w3 w4 := by rw [← hw4]; exact (Below.refl _ _).alloc (Nat.le_refl _) _
  have s3 : w3.heap.size = Q1 + 1 := by rw [← hw3, World.size_alloc, hQ1]
  have HX3 : Hid (Box7 w4 Q1 (.string T) (.int .i64 g) (.int .i64 ar) (.bool wr_) (.int .i64 f) (.int .i64 la) (.int .i64 st)) := by
    refine Box7.below ?_ b4
    rw [← hw3, ← hQ1]
    exact Box7.new ..
  have HY4 : Hid (w4.rowIs (Q1 + 1) 37 4 (f4 (.int .i64 k) (.string U) (.int .i64 0) (.slice none 0 0))) := by
    unfold Hid
    rw [← hw4, ← s3]
    exact rows4 w3 _ _ _ _ _
  have HT4 := Lib.hid (((HT1.out.below hb2).below b3).below b4)
  have HB4 : Hid (Below B w w4) := HB1.out.trans ((bup hb2 (bup b3 b4)).mono (by have := HB1.out.size; have := HBW.out; omega))
  have HW4 : Hid ((w2.alloc (.cells #[.string T, .int .i64 g, .int .i64 ar, .bool wr_, .int .i64 f, .int .i64 la, .int .i64 st] 27)).alloc (.cells #[.int .i64 k, .string U, .int .i64 0, .slice none 0 0] 37) = w4) := by unfold Hid; rw [hw3, hw4]
  clear hb2 hw3 hw4 b3 b4 s3
  go_wp2_with fail
  rw [HW4.out]
  refine (HRK.out w4 A1 m1 c1 HT4.out hm1).mono ?_
  rintro e w5 ⟨rfl, hb5⟩
  have hb7 : Below w4.heap.size w4 ((w5.alloc (.cells #[.string T, .int .i64 g, .int .i64 ar, .bool wr_, .int .i64 f, .int .i64 la, .int .i64 st] 27)).alloc (.cells #[.int .i64 k, .string U, .int .i64 0, .slice none 0 0] 37)) := (hb5.alloc hb5.size _).alloc (by have := hb5.size; simp; omega) _
  obtain ⟨-, d0, d1, d2, d3, d4, d5, d6, -⟩ := HX3.out.below hb7
  obtain ⟨e0, e1, e2, e3, -⟩ := box4_of_row (HY4.out.of_block (hb7.block _ HY4.out.lt))
  have HB7 : Hid (Below B w _) := HB4.out.trans (hb7.mono (by have := HB4.out.size; have := HBW.out; omega))
  have hUU : (U.toList == U.toList) = true := by simp
  clear hb5 hb7
  go_wp2_with fail
  refine (HAL.out _).mono ?_
  rintro e w8 ⟨rfl, hb8⟩
  have HB8 : Hid (Below B w w8) := HB7.out.trans (hb8.mono (by have := HB7.out.size; have := HBW.out; omega))
  clear hb8
  go_wp2
  go_ret
  exact ⟨rfl, HB8.out⟩

end Go.Proofs.Ytinpimejiepahaa
