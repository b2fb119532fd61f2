/-
  The statements' own alive tells true. No condition.
-/
import Derived.Test.YtinpimejiepahaaCmP
namespace Go.Proofs.Ytinpimejiepahaa
open Go.RowKit

set_option maxRecDepth 100000 in
set_option maxHeartbeats 16000000 in
theorem alive_any (w : World) : Calls Try.prog 16 #[] w fun e w' => e = .returned (.bool true) ∧ Below w.heap.size w w' := by
  obtain ⟨B, hB⟩ : ∃ B, w.heap.size = B := ⟨_, rfl⟩
  have HCA : Hid (∀ (X : World) (g : Nat), X.heap.size = g → Calls Try.prog 18 #[.slice (some ⟨g, 0, none⟩) 2 2] (X.alloc (.cells #[.string ⟨#[71, 101, 84]⟩, .string ⟨#[107]⟩] 9)) fun e w' => e = .returned (.tuple #[.agg #[.string ⟨#[103, 101, 116]⟩, .int .i64 1, .int .i64 2, .bool false, .int .i64 1, .int .i64 1, .int .i64 1], .agg #[.int .i64 0, .string ⟨#[]⟩, .int .i64 0, .slice none 0 0], .bool true]) ∧ Below X.heap.size X w') := fun X g hg => by
    subst hg
    refine (check_any _ (TxAt.lit X aliveA X.heap.size rfl (by decide) (by decide) (by decide) _ rfl 2 rfl) (by omega) (by decide)).mono ?_
    rintro e w' ⟨rfl, hb⟩
    refine ⟨?_, ((Below.refl _ _).alloc (Nat.le_refl _) _).trans (hb.mono (by simp))⟩
    unfold chkV
    rw [chk_A]
    rfl
  have HCB : Hid (∀ (X : World) (g : Nat), X.heap.size = g → Calls Try.prog 18 #[.slice (some ⟨g, 0, none⟩) 1 1] (X.alloc (.cells #[.string ⟨#[103, 101, 116]⟩] 9)) fun e w' => e = .returned (.tuple #[.agg #[.string ⟨#[]⟩, .int .i64 0, .int .i64 0, .bool false, .int .i64 0, .int .i64 0, .int .i64 0], .agg #[.int .i64 2, .string ⟨(argT [103, 101, 116]).toArray⟩, .int .i64 0, .slice none 0 0], .bool false]) ∧ Below X.heap.size X w') := fun X g hg => by
    subst hg
    refine (check_any _ (TxAt.lit X aliveB X.heap.size rfl (by decide) (by decide) (by decide) _ rfl 1 rfl) (by omega) (by decide)).mono ?_
    rintro e w' ⟨rfl, hb⟩
    refine ⟨?_, ((Below.refl _ _).alloc (Nat.le_refl _) _).trans (hb.mono (by simp))⟩
    unfold chkV
    rw [chk_B]
    rfl
  have HCC : Hid (∀ (X : World) (g : Nat), X.heap.size = g → Calls Try.prog 20 #[.slice (some ⟨g, 0, none⟩) 5 5] (X.alloc (.cells #[.string ⟨#[109, 115, 101, 116]⟩, .string ⟨#[97]⟩, .string ⟨#[49]⟩, .string ⟨#[98]⟩, .string ⟨#[50]⟩] 9)) fun e w' => ∃ b o c, e = .returned (.tuple #[.slice (some ⟨b, o, none⟩) 2 c, .int .i64 0]) ∧ w'.cell? ⟨b, o + 1, none⟩ = some (.string ⟨#[98]⟩) ∧ Below X.heap.size X w') := fun X g hg => by
    subst hg
    refine (keys_any _ (TxAt.lit X aliveC X.heap.size rfl (by decide) (by decide) (by decide) _ rfl 5 rfl) (by omega) (by decide)).mono ?_
    rintro e w' ⟨A, m, c, rfl, ht, hb⟩
    rw [keys_C] at ht ⊢
    obtain rfl : m = 2 := ht.len.symm
    obtain ⟨b, o, rfl, _, hc⟩ := ht.at_ (by omega)
    exact ⟨b, o, c, rfl, hc 1 [98] rfl, ((Below.refl _ _).alloc (Nat.le_refl _) _).trans (hb.mono (by simp))⟩
  obtain ⟨TA, hTA⟩ : ∃ TA : ByteArray, (⟨(argT [103, 101, 116]).toArray⟩ : ByteArray) = TA := ⟨_, rfl⟩
  have HTA : Hid ((TA.toList == [69, 82, 82, 32, 119, 114, 111, 110, 103, 32, 110, 117, 109, 98, 101, 114, 32, 111, 102, 32, 97, 114, 103, 117, 109, 101, 110, 116, 115, 32, 102, 111, 114, 32, 39, 103, 101, 116, 39, 32, 99, 111, 109, 109, 97, 110, 100]) = true) := by
    unfold Hid
    rw [← hTA]
    decide +kernel
  rw [hB]
  rw [hTA] at HCB
  clear hTA
  go_enter Try.func16, Try.ntmps16
  go_wp2_with fail
  refine (HCA.out w B hB).mono ?_
  rintro e w1 ⟨rfl, hb1⟩
  have HB1 : Hid (Below B w w1) := by unfold Hid; rw [← hB]; exact hb1
  have HBW := Lib.hid hB
  obtain ⟨Q1, hQ1⟩ : ∃ Q, w1.heap.size = Q := ⟨_, rfl⟩
  obtain ⟨w2, hw2⟩ : ∃ w2, (w1.alloc (.cells #[.string ⟨#[103, 101, 116]⟩, .int .i64 1, .int .i64 2, .bool false, .int .i64 1, .int .i64 1, .int .i64 1] 27)) = w2 := ⟨_, rfl⟩
  obtain ⟨w3, hw3⟩ : ∃ w3, (w2.alloc (.cells #[.int .i64 0, .string ⟨#[]⟩, .int .i64 0, .slice none 0 0] 37)) = w3 := ⟨_, rfl⟩
  have b2 : Below w1.heap.size w1 w2 := by rw [← hw2]; exact (Below.refl _ _).alloc (Nat.le_refl _) _
  have b3 : Below w2.heap.size w2 w3 := by rw [← hw3]; exact (Below.refl _ _).alloc (Nat.le_refl _) _
  have HBX : Hid (Box7 w3 Q1 (.string ⟨#[103, 101, 116]⟩) (.int .i64 1) (.int .i64 2) (.bool false) (.int .i64 1) (.int .i64 1) (.int .i64 1)) := by
    refine Box7.below ?_ b3
    rw [← hw2, ← hQ1]
    exact Box7.new ..
  have HS3 : Hid (w3.heap.size = Q1 + 1 + 1) := by unfold Hid; rw [← hw3, World.size_alloc, ← hw2, World.size_alloc, hQ1]
  have HB3 : Hid (Below B w w3) := HB1.out.trans ((bup b2 b3).mono (by have := HB1.out.size; have := HBW.out; omega))
  have HW3 : Hid ((w1.alloc (.cells #[.string ⟨#[103, 101, 116]⟩, .int .i64 1, .int .i64 2, .bool false, .int .i64 1, .int .i64 1, .int .i64 1] 27)).alloc (.cells #[.int .i64 0, .string ⟨#[]⟩, .int .i64 0, .slice none 0 0] 37) = w3) := by unfold Hid; rw [hw2, hw3]
  clear hb1 hB hw2 hw3 b2 b3
  go_wp2_with fail
  rw [HW3.out]
  refine (HCB.out w3 _ HS3.out).mono ?_
  rintro e w4 ⟨rfl, hb4⟩
  have HB4 := Lib.hid hb4
  have HBX4 := Lib.hid (HBX.out.below hb4)
  obtain ⟨Q2, hQ2⟩ : ∃ Q, w4.heap.size = Q := ⟨_, rfl⟩
  obtain ⟨w5, hw5⟩ : ∃ w5, (w4.alloc (.cells #[.string ⟨#[]⟩, .int .i64 0, .int .i64 0, .bool false, .int .i64 0, .int .i64 0, .int .i64 0] 27)) = w5 := ⟨_, rfl⟩
  obtain ⟨w6, hw6⟩ : ∃ w6, (w5.alloc (.cells #[.int .i64 2, .string TA, .int .i64 0, .slice none 0 0] 37)) = w6 := ⟨_, rfl⟩
  have b5 : Below w4.heap.size w4 w5 := by rw [← hw5]; exact (Below.refl _ _).alloc (Nat.le_refl _) _
  have b6 : Below w5.heap.size w5 w6 := by rw [← hw6]; exact (Below.refl _ _).alloc (Nat.le_refl _) _
  have s5 : w5.heap.size = Q2 + 1 := by rw [← hw5, World.size_alloc, hQ2]
  have HRE : Hid (w6.rowIs (Q2 + 1) 37 4 (f4 (.int .i64 2) (.string TA) (.int .i64 0) (.slice none 0 0))) := by
    unfold Hid
    rw [← hw6, ← s5]
    exact rows4 w5 _ _ _ _ _
  have HBX6 := Lib.hid ((HBX4.out.below b5).below b6)
  have HS6 : Hid (w6.heap.size = Q2 + 1 + 1) := by unfold Hid; rw [← hw6, World.size_alloc, s5]
  have HB6 : Hid (Below B w w6) := HB3.out.trans ((bup HB4.out (bup b5 b6)).mono (by have := HB3.out.size; have := HBW.out; omega))
  have HW6 : Hid ((w4.alloc (.cells #[.string ⟨#[]⟩, .int .i64 0, .int .i64 0, .bool false, .int .i64 0, .int .i64 0, .int .i64 0] 27)).alloc (.cells #[.int .i64 2, .string TA, .int .i64 0, .slice none 0 0] 37) = w6) := by unfold Hid; rw [hw5, hw6]
  clear hb4 hw5 hw6 b5 b6 s5
  go_wp2_with fail
  rw [HW6.out]
  refine (HCC.out w6 _ HS6.out).mono ?_
  rintro e w7 ⟨b, o, c, rfl, k1, hb7⟩
  obtain ⟨-, d0, -, d2, -, -, -, -, -⟩ := HBX6.out.below hb7
  obtain ⟨e0, e1, -, -, -⟩ := box4_of_row (HRE.out.of_block (hb7.block _ HRE.out.lt))
  have hTA := HTA.out
  have HB7 : Hid (Below B w w7) := HB6.out.trans (hb7.mono (by have := HB6.out.size; have := HBW.out; omega))
  clear hb7
  go_wp2
  go_ret
  exact ⟨rfl, HB7.out⟩

end Go.Proofs.Ytinpimejiepahaa
