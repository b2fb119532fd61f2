/-
  The statements' own helpers: key, at any text; alive, on the table of its own. Conditions: as typed.
-/
import Derived.Test.YtcjoakbaldeaoaaGTxI
namespace Go.Proofs.Ytcjoakbaldeaoaa
open Go.RowKit

theorem bup {a b c : World} (h : Below a.heap.size a b) (k : Below b.heap.size b c) : Below a.heap.size a c := h.trans (k.mono h.size)

/-- A key cut to 100 bytes. -/
def cutK (s : ByteArray) : ByteArray := if 100 < s.size then s.extract 0 100 else s

theorem cutK_size (s : ByteArray) : (cutK s).size ≤ 100 := by
  unfold cutK
  split
  · simp [ByteArray.size_extract]; omega
  · omega

set_option maxRecDepth 100000 in
theorem key_any (s : ByteArray) (w : World) (hs : s.size ≤ 9223372036854775807) :
    Calls Try.prog 10 #[.string s] w fun e w' => e = .returned (.string (cutK s)) ∧ w' = w := by
  unfold cutK
  by_cases h : 100 < s.size
  · rw [if_pos h]
    have h' : (100 : Int) < (s.size : Int) := by omega
    have hle : 100 ≤ s.size := by omega
    clear h
    go_enter Try.func10, Try.ntmps10
    go_wp2
    go_ret
    exact ⟨rfl, rfl⟩
  · rw [if_neg h]
    have h' : ¬ (100 : Int) < (s.size : Int) := by omega
    clear h
    go_enter Try.func10, Try.ntmps10
    go_wp2
    go_ret
    exact ⟨rfl, rfl⟩

def keyA (i : Nat) : List UInt8 := [UInt8.ofNat (97 + i)]

/-- The table of which alive asks, behind i keys. -/
def aliveT : Nat → Tb Int
  | 0 => newT
  | i + 1 => putS (hashT 7) (stepT (hashT 7) (aliveT i)) (keyA i) i

theorem alive_good : ∀ i, Good (hashT 7) i (aliveT i) ∧ KeysT (fun k => k.length ≤ 1000) (aliveT i)
  | 0 => ⟨good_new _, keys_new _⟩
  | i + 1 => by
    obtain ⟨h1, h2⟩ := alive_good i
    exact ⟨good_put (good_step h1) _ _, keys_putS (keys_step h2) _ (by simp [keyA]) _⟩

theorem alive_end : (aliveT 5).n = 5 ∧ (aliveT 5).A.length = 4 ∧ (aliveT 5).B.length = 8 ∧ (aliveT 5).moved = 0 ∧ lookT (hashT 7) (aliveT 5) [99] = some 2 ∧ (lookT (hashT 7) (stepT (hashT 7) (aliveT 5)) [97]).isSome = true ∧ (delS (hashT 7) (stepT (hashT 7) (aliveT 5)) [97]).n = 4 := by decide +kernel

set_option maxRecDepth 100000 in
set_option maxHeartbeats 8000000 in
theorem alive_any (w : World) :
    Calls Try.prog 13 #[] w fun e w' => e = .returned (.bool true) ∧ Below w.heap.size w w' := by
  have HNEW := Lib.hid (newI_any 7 w)
  have HE := Lib.hid alive_end
  go_enter Try.func13, Try.ntmps13
  go_wp2_with fail
  refine HNEW.out.mono ?_
  rintro e w1 ⟨Q, o1, gA, sA, gB, sB, rfl, hp, hb⟩
  have HB1 := Lib.hid hb
  have HP1 := Lib.hid hp
  clear hp hb
  go_wp2
  obtain ⟨w2, hw2⟩ : ∃ w2, w1.alloc (.cells #[.string ⟨#[97]⟩, .string ⟨#[98]⟩, .string ⟨#[99]⟩, .string ⟨#[100]⟩, .string ⟨#[101]⟩] 9) = w2 := ⟨_, rfl⟩
  rw [hw2]
  have hsz2 : w2.heap.size = w1.heap.size + 1 := by rw [← hw2]; simp
  have hbA : Below w1.heap.size w1 w2 := by rw [← hw2]; exact (Below.refl _ _).alloc (Nat.le_refl _) _
  have HNO : Hid (o1 w1.heap.size = none) := by
    cases hq : o1 w1.heap.size with
    | none => rfl
    | some x => exact absurd (HP1.out.dom w1.heap.size (by rw [hq]; exact fun e => by cases e)).2 (Nat.lt_irrefl _)
  have HARR : Hid (∀ i, i < 5 → w2.cell? ⟨w1.heap.size, i, none⟩ = some (.string ⟨#[UInt8.ofNat (97 + i)]⟩)) := by
    intro i hi
    rw [← hw2]
    rcases i with _ | _ | _ | _ | _ | i
    · exact World.news_of_block (heap_alloc_new w1 _) 0 _ rfl
    · exact World.news_of_block (heap_alloc_new w1 _) 1 _ rfl
    · exact World.news_of_block (heap_alloc_new w1 _) 2 _ rfl
    · exact World.news_of_block (heap_alloc_new w1 _) 3 _ rfl
    · exact World.news_of_block (heap_alloc_new w1 _) 4 _ rfl
    · omega
  have HP2 := Lib.hid (HP1.out.below hbA)
  have HB2 := Lib.hid hbA
  obtain ⟨N1, hN1⟩ : ∃ N, w1.heap.size = N := ⟨_, rfl⟩
  rw [hN1] at HNO HARR ⊢
  have HN1 := Lib.hid hN1
  have HSZ2 := Lib.hid hsz2
  clear hw2 hbA hN1 hsz2
  go_loopw [2, 3, 14] (fun _ _ iv wr => ∃ (i : Nat) (ow' : Own) (gA' : Nat) (sA' : Nat → Value) (gB' : Nat) (sB' : Nat → Value), iv = .int .i64 i ∧ i ≤ 5 ∧ PT KI wr w.heap.size ow' Q 67 7 (aliveT i) gA' sA' gB' sB' ∧ Turns o1 ow' w2 wr) (fun _ _ iv _ => 5 - (intOf iv).toNat)
  case atStart => exact ⟨0, o1, gA, sA, gB, sB, rfl, by omega, HP2.out, Turns.refl _ _⟩
  case round =>
    obtain ⟨i, o3, gA3, sA3, gB3, sB3, rfl, hi, hp3, hu3⟩ := hrel
    have HP3 := Lib.hid hp3
    have HU3 := Lib.hid hu3
    have hcell : i < 5 → wr.cell? ⟨N1, i, none⟩ = some (.string ⟨#[UInt8.ofNat (97 + i)]⟩) := fun h => (World.cell?_of_block (a := ⟨N1, i, none⟩) (hu3.block N1 (by rw [HSZ2.out, HN1.out]; omega) HNO.out)).trans (HARR.out i h)
    clear hp3 hu3
    by_cases hlt : i < 5
    · replace hcell := hcell hlt
      obtain ⟨S, hS⟩ : ∃ S : ByteArray, (⟨#[UInt8.ofNat (97 + i)]⟩ : ByteArray) = S := ⟨_, rfl⟩
      have hS1 : S.data.toList = keyA i := by rw [← hS]; rfl
      have hS2 : S.size ≤ 1000 := by rw [← hS]; simp [ByteArray.size]
      have HPUT := Lib.hid (putI_any (by omega) (keyA i) S hS1 hS2 i wr HP3.out (alive_good i).1 (by omega) (alive_good i).2)
      rw [hS] at hcell
      clear hS hS1 hS2
      go_wp2_with fail
      refine HPUT.out.mono ?_
      rintro e w4 ⟨rfl, o4, gA4, sA4, gB4, sB4, hp4, hu4⟩
      have HP4 := Lib.hid hp4
      have HU4 := Lib.hid (HU3.out.trans hu4)
      clear hp4 hu4 hcell
      go_wp2
      go_roundw
      case rel => exact ⟨i + 1, o4, gA4, sA4, gB4, sB4, by go_num, by omega, HP4.out, HU4.out⟩
      case measure => simp only [intOf]; omega
    · obtain rfl : i = 5 := by omega
      clear hcell
      have HSZ := Lib.hid (sizesI_any wr HP3.out (by rw [HE.out.2.1]; omega))
      rw [HE.out.2.1, HE.out.2.2.1, HE.out.2.2.2.1] at HSZ
      have HG5 := Lib.hid (alive_good 5)
      have HLK := Lib.hid (fun W (h : Below wr.heap.size wr W) => lookI_any (by omega) [99] ⟨#[99]⟩ rfl (by decide) W (HP3.out.below' h) HG5.out.1 (by omega))
      rw [HE.out.2.2.2.2.1, show (lookW KI (0 : Int) (some 2)).1 = .int .i64 2 from rfl, show (lookW KI (0 : Int) (some 2)).2 = true from rfl] at HLK
      have HLN := Lib.hid (fun W (h : Below wr.heap.size wr W) => lenI_any W (HP3.out.below' h))
      rw [HE.out.1] at HLN
      have HDEL := Lib.hid (fun W (h : Below wr.heap.size wr W) => delI_any (by omega) [97] ⟨#[97]⟩ rfl (by decide) W (HP3.out.below' h) HG5.out.1 (by omega) HG5.out.2)
      rw [HE.out.2.2.2.2.2.1] at HDEL
      go_wp2_with fail
      refine HSZ.out.mono ?_
      rintro e w5 ⟨rfl, hb5⟩
      have HB5 := Lib.hid hb5
      clear hb5
      go_wp2_with fail
      refine (HLK.out _ HB5.out).mono ?_
      rintro e w6 ⟨rfl, hb6⟩
      have HB6 := Lib.hid (bup HB5.out hb6)
      clear hb6
      go_wp2_with fail
      refine (HLN.out _ HB6.out).mono ?_
      rintro e w7 ⟨rfl, hb7⟩
      have HB7 := Lib.hid (bup HB6.out hb7)
      clear hb7
      go_wp2_with fail
      refine (HDEL.out _ HB7.out).mono ?_
      rintro e w8 ⟨rfl, o8, gA8, sA8, gB8, sB8, hp8, hu8⟩
      have HLN8 := Lib.hid (lenI_any w8 hp8)
      rw [HE.out.2.2.2.2.2.2] at HLN8
      have HU8 := Lib.hid (HU3.out.trans ((Turns.of_below o3 HB7.out).trans hu8))
      clear hp8 hu8
      go_wp2_with fail
      refine HLN8.out.mono ?_
      rintro e w9 ⟨rfl, hb9⟩
      have HB9 : Hid (Below w.heap.size w w9) := by
        have q1 := HU8.out.below (base := w.heap.size) (by have := HB2.out.size; have := HB1.out.size; omega) (fun k hk => (HP2.out.dom k hk).1)
        exact (bup HB1.out HB2.out).trans (q1.trans (hb9.mono (by have := HB2.out.size; have := HB1.out.size; have := HU8.out.size; omega)))
      clear hb9
      go_wp2
      go_ret
      exact ⟨rfl, HB9.out⟩

end Go.Proofs.Ytcjoakbaldeaoaa
