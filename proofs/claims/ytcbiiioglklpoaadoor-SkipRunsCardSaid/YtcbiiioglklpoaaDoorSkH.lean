/-
  Package table's Hash; package skip's Level and the document's own. Conditions: the seed is a number of 64 bits; the table of math/bits lies where the program laid it.
-/
import Derived.Test.YtcbiiioglklpoaaDoorTaC
import Derived.Test.YtcbiiioglklpoaaDoorShelf
import Derived.LoopTactic
namespace Go.Proofs.YtcbiiioglklpoaaDoor
open Go.RowKit

set_option maxRecDepth 100000 in
set_option maxHeartbeats 4000000 in
theorem phash_same (seed : Nat) (hs : seed < 18446744073709551616) (T : ByteArray) (w : World) (hT : T.size ≤ 9223372036854775807) :
    Calls Tryd.prog 43 #[.int .u64 seed, .string T] w fun e w' => e = .returned (.int .u64 (hashT seed T.data.toList : Nat)) ∧ w' = w := by
  have e0 : bits .xor .u64 14695981039346656037 (seed : Int) = ((hinit seed : Nat) : Int) := by
    have hlit : (14695981039346656037 : Int) = ((14695981039346656037 : Nat) : Int) := by omega
    have hx := bits_xor_u64_nat 14695981039346656037 seed (by omega) hs
    rw [← hlit] at hx
    rw [hx, hinit]
  have hi0 := hinit_lt hs
  have HU : Hid (hashT seed T.data.toList = T.data.toList.foldl hstep (hinit seed)) := by unfold Hid; rw [hashT]
  rw [HU.out]
  obtain ⟨z0, hz0⟩ : ∃ z0, hinit seed = z0 := ⟨_, rfl⟩
  rw [hz0] at e0 hi0 ⊢
  clear hz0 HU
  go_enter Tryd.func43, Tryd.ntmps43
  go_wp2
  clear e0
  go_loopw [5, 11] (fun hv iv wr => ∃ i : Nat, iv = .int .i64 i ∧ i ≤ T.size ∧ hv = .int .u64 ((T.data.toList.take i).foldl hstep z0 : Nat) ∧ wr = w) (fun _ iv _ => T.size - (intOf iv).toNat)
  case atStart => exact ⟨0, rfl, by omega, rfl, rfl⟩
  case round =>
    obtain ⟨i, rfl, hi, rfl, rfl⟩ := hrel
    have hsl := hash_lt (T.data.toList.take i) z0 hi0
    obtain ⟨s, hsd⟩ : ∃ s, (T.data.toList.take i).foldl hstep z0 = s := ⟨_, rfl⟩
    have HS := Lib.hid hsd
    rw [hsd] at hsl ⊢
    clear hsd
    by_cases hlt : i < T.size
    · obtain ⟨c, hc⟩ : ∃ c : UInt8, (T[i]'hlt) = c := ⟨_, rfl⟩
      have HC : Hid (T.data.toList[i]? = some c) := by
        unfold Hid
        rw [List.getElem?_eq_getElem (by rw [Array.length_toList]; exact hlt), ← hc]
        rfl
      have HF : Hid ((T.data.toList.take (i + 1)).foldl hstep z0 = hstep s c) := by unfold Hid; rw [fold_take z0 _ i c HC.out, HS.out]
      obtain ⟨x, hx⟩ : ∃ x : Nat, c.toNat = x := ⟨_, rfl⟩
      have hx256 : x < 256 := by rw [← hx]; exact UInt8.toNat_lt _
      have e1 : bits .xor .u64 (s : Int) (x : Int) = ((s ^^^ x : Nat) : Int) := bits_xor_u64_nat s x hsl (by omega)
      have hy : s ^^^ x < 18446744073709551616 := xor64 hsl (by omega)
      obtain ⟨y, hyd⟩ : ∃ y, s ^^^ x = y := ⟨_, rfl⟩
      rw [hyd] at e1 hy
      have e2 : IntKind.u64.wrap ((y : Int) * 1099511628211) = ((y * 1099511628211 % 18446744073709551616 : Nat) : Int) := by rw [IntKind.wrap_u64]; omega
      have HE : Hid (hstep s c = y * 1099511628211 % 18446744073709551616) := by unfold Hid hstep; rw [hx, hyd]
      obtain ⟨z, hz⟩ : ∃ z, y * 1099511628211 % 18446744073709551616 = z := ⟨_, rfl⟩
      rw [hz] at e2 HE
      clear hyd hz
      go_wp2
      go_roundw
      case rel => exact ⟨i + 1, by go_num, by omega, by rw [HF.out, HE.out], by first | trivial | rfl⟩
      case measure => simp only [intOf]; omega
    · obtain rfl : i = T.size := by omega
      have HF : Hid (T.data.toList.foldl hstep z0 = s) := by
        unfold Hid
        rw [← HS.out, List.take_of_length_le (by rw [Array.length_toList]; exact Nat.le_refl _)]
      go_wp2
      go_ret
      exact ⟨by rw [HF.out]; rfl, rfl⟩

/-- How many times four divides a number, k times at most. -/
def cnt4 : Nat → Nat → Nat
  | 0, _ => 0
  | k + 1, h => if h % 4 = 0 then 1 + cnt4 k (h / 4) else 0

/-- A member's level. -/
def lvT (seed : Nat) (m : List UInt8) : Nat := 1 + cnt4 15 (hashT seed m)

theorem cnt4_le : ∀ k h, cnt4 k h ≤ k
  | 0, _ => Nat.le_refl _
  | k + 1, h => by
    unfold cnt4
    split
    · have := cnt4_le k (h / 4); omega
    · omega
theorem lvT_le (seed : Nat) (m : List UInt8) : lvT seed m ≤ 16 := by have := cnt4_le 15 (hashT seed m); unfold lvT; omega
theorem lvT_pos (seed : Nat) (m : List UInt8) : 0 < lvT seed m := by unfold lvT; omega

theorem cnt4_zero : ∀ k, cnt4 k 0 = k
  | 0 => rfl
  | k + 1 => by
    unfold cnt4
    rw [if_pos (by omega), Nat.zero_div, cnt4_zero k]
    omega

theorem ctz_cnt4 : ∀ (k f x : Nat), 2 * k ≤ f → x ≠ 0 → min (Lib.ctzFrom f x / 2) k = cnt4 k x
  | 0, f, x, _, _ => by simp [cnt4]
  | k + 1, f, x, hf, hx => by
    obtain ⟨g, rfl⟩ : ∃ g, f = g + 2 := ⟨f - 2, by omega⟩
    unfold cnt4 Lib.ctzFrom
    by_cases h1 : x % 2 = 1
    · rw [if_pos h1, if_neg (by omega)]
      omega
    · rw [if_neg h1]
      unfold Lib.ctzFrom
      by_cases h2 : x / 2 % 2 = 1
      · rw [if_pos h2, if_neg (by omega)]
        omega
      · rw [if_neg h2, if_pos (by omega), show x / 2 / 2 = x / 4 from by omega, ← ctz_cnt4 k g (x / 4) (by omega) (by omega)]
        omega

theorem lvT_ctz (seed : Nat) (m : List UInt8) : lvT seed m = min (1 + Lib.ctz 64 (hashT seed m) / 2) 16 := by
  unfold lvT Lib.ctz
  split
  · rename_i h
    rw [h, cnt4_zero]
    omega
  · rename_i h
    rw [← ctz_cnt4 15 64 _ (by omega) h]
    omega

theorem ctz_le64 (h : Nat) (hh : h < 18446744073709551616) : Lib.ctz 64 h ≤ 64 := by
  unfold Lib.ctz
  split
  · omega
  · rename_i h0
    obtain ⟨m, _, h2⟩ := Lib.ctzFrom_spec 64 h (by omega) (by omega)
    omega

/-- math/bits' table lies there. -/
abbrev Tz (w : World) : Prop := TabAt 0 Lib.deBruijn64tab w

theorem Tz.block {w w' : World} (h : Tz w) (e : w'.heap[0]? = w.heap[0]?) : Tz w' := fun j hj => (World.cell?_of_block (a := ⟨0, j, none⟩) e).trans (h j hj)

set_option maxRecDepth 100000 in
set_option maxHeartbeats 4000000 in
theorem level_any (seed : Nat) (hs : seed < 18446744073709551616) (T : ByteArray) (w : World) (hT : T.size ≤ 9223372036854775807) (hz : Tz w) :
    Calls Tryd.prog 13 #[.int .u64 seed, .string T] w fun e w' => e = .returned (.int .i64 (lvT seed T.data.toList : Nat)) ∧ w' = w := by
  have HH := Lib.hid (phash_same seed hs T w hT)
  have hl := hashT_lt hs T.data.toList
  have HL := Lib.hid (lvT_ctz seed T.data.toList)
  have h64 := ctz_le64 _ hl
  have HC := Lib.hid (Tryd.bits_TrailingZeros64 (hashT seed T.data.toList) hl w (fun _ => hz))
  rw [HL.out]
  clear HL
  obtain ⟨h, hh⟩ : ∃ h, hashT seed T.data.toList = h := ⟨_, rfl⟩
  obtain ⟨c, hc⟩ : ∃ c, Lib.ctz 64 h = c := ⟨_, rfl⟩
  rw [hh] at HH HC h64 ⊢
  rw [hc] at HC h64 ⊢
  clear hl hh hc hz
  have hq : (c : Int).tdiv 2 = ((c / 2 : Nat) : Int) := by rw [Int.tdiv_eq_ediv_of_nonneg (by omega)]; omega
  obtain ⟨d, hd⟩ : ∃ d, c / 2 = d := ⟨_, rfl⟩
  rw [hd] at hq ⊢
  have hd32 : d ≤ 32 := by omega
  have hw : IntKind.i64.wrap (1 + (d : Int)) = ((1 + d : Nat) : Int) := by rw [IntWalk.i64_in _ (by omega)]; omega
  obtain ⟨k, hk⟩ : ∃ k, 1 + d = k := ⟨_, rfl⟩
  rw [hk] at hw ⊢
  obtain ⟨m, hm⟩ : ∃ m, min k 16 = m := ⟨_, rfl⟩
  rw [hm]
  have hmm : min (k : Int) 16 = (m : Int) := by omega
  clear hd hk h64 hm
  go_enter Tryd.func13, Tryd.ntmps13
  go_wp2_with fail
  refine HH.out.mono ?_
  rintro e w1 ⟨rfl, rfl⟩
  go_wp2_with fail
  refine HC.out.mono ?_
  rintro e w2 ⟨rfl, rfl⟩
  go_wp2
  go_ret
  exact ⟨rfl, rfl⟩

set_option maxRecDepth 100000 in
set_option maxHeartbeats 4000000 in
theorem rlevel_any (seed : Nat) (hs : seed < 18446744073709551616) (T : ByteArray) (w : World) (hT : T.size ≤ 9223372036854775807) :
    Calls Tryd.prog 14 #[.int .u64 seed, .string T] w fun e w' => e = .returned (.int .i64 (lvT seed T.data.toList : Nat)) ∧ Below w.heap.size w w' := by
  have HH := Lib.hid (rhash_any seed hs T w hT)
  have hl := hashT_lt hs T.data.toList
  obtain ⟨R, hR⟩ : ∃ R, lvT seed T.data.toList = R := ⟨_, rfl⟩
  have HR : Hid (R = 1 + cnt4 15 (hashT seed T.data.toList)) := by unfold Hid; rw [← hR]; rfl
  rw [hR]
  clear hR
  obtain ⟨h, hh⟩ : ∃ h, hashT seed T.data.toList = h := ⟨_, rfl⟩
  rw [hh] at HH HR hl
  clear hh
  go_enter Tryd.func14, Tryd.ntmps14
  go_wp2_with fail
  refine HH.out.mono ?_
  rintro e w1 ⟨rfl, hb1⟩
  have HB1 := Lib.hid hb1
  clear hb1
  go_wp2
  go_loopw [6, 5] (fun nv hv wr => ∃ i q : Nat, nv = .int .i64 ((i : Int) + 1) ∧ i ≤ 15 ∧ hv = .int .u64 (q : Int) ∧ q < 18446744073709551616 ∧ cnt4 15 h = i + cnt4 (15 - i) q ∧ Below w.heap.size w wr) (fun nv _ _ => 16 - (intOf nv).toNat)
  case atStart => exact ⟨0, h, rfl, by omega, rfl, hl, by simp, HB1.out⟩
  case round =>
    obtain ⟨i, q, rfl, hi, rfl, hq, hc, hb⟩ := hrel
    have HB := Lib.hid hb
    have HC := Lib.hid hc
    clear hb hc
    have hm : (q : Int).tmod 4 = ((q % 4 : Nat) : Int) := by rw [Int.tmod_eq_emod_of_nonneg (by omega)]; omega
    have hd : (q : Int).tdiv 4 = ((q / 4 : Nat) : Int) := by rw [Int.tdiv_eq_ediv_of_nonneg (by omega)]; omega
    by_cases hlt : i < 15
    · have h1 : (i : Int) + 1 < 16 := by omega
      by_cases h4 : q % 4 = 0
      · rw [h4] at hm
        have HN : Hid (cnt4 15 h = (i + 1) + cnt4 (15 - (i + 1)) (q / 4)) := by
          unfold Hid
          rw [HC.out, show 15 - i = (15 - (i + 1)) + 1 from by omega]
          conv => lhs; unfold cnt4
          rw [if_pos h4]
          omega
        have hq4 : q / 4 < 18446744073709551616 := by omega
        obtain ⟨z, hz⟩ : ∃ z, q / 4 = z := ⟨_, rfl⟩
        rw [hz] at hd HN hq4
        clear hz h4
        go_wp2
        go_roundw
        case rel => exact ⟨i + 1, z, by go_num, by omega, rfl, hq4, HN.out, HB.out⟩
        case measure => simp only [intOf]; omega
      · have h4' : ¬ ((q % 4 : Nat) : Int) = 0 := by omega
        have HN : Hid (R = i + 1) := by
          unfold Hid
          rw [HR.out, HC.out, show 15 - i = (15 - (i + 1)) + 1 from by omega]
          unfold cnt4
          rw [if_neg h4]
          omega
        obtain ⟨z, hz⟩ : ∃ z, q % 4 = z := ⟨_, rfl⟩
        rw [hz] at hm h4'
        clear hz h4
        go_wp2
        go_ret
        exact ⟨by rw [HN.out]; rfl, HB.out⟩
    · obtain rfl : i = 15 := by omega
      have HN : Hid (R = 16) := by
        unfold Hid
        rw [HR.out, HC.out]
        rfl
      go_wp2
      go_ret
      exact ⟨by rw [HN.out]; rfl, HB.out⟩

end Go.Proofs.YtcbiiioglklpoaaDoor
