/-
  The document's Hash and bucket change nothing; its Step, over a table whose blocks are its own. Conditions: as typed.
-/
import Derived.Test.YtcjoakbaldeaoaaTrA
namespace Go.Proofs.Ytcjoakbaldeaoaa
open Go.RowKit

set_option maxRecDepth 100000 in
set_option maxHeartbeats 4000000 in
theorem rhash_same (seed : Nat) (hs : seed < 18446744073709551616) (T : ByteArray) (w : World) (hT : T.size ≤ 9223372036854775807) :
    Calls Try.prog 12 #[.int .u64 seed, .string T] w fun e w' => e = .returned (.int .u64 (hashT seed T.data.toList : Nat)) ∧ w' = w := by
  have e0 : bits .xor .u64 14695981039346656037 (seed : Int) = ((hinit seed : Nat) : Int) := by
    have hlit : (14695981039346656037 : Int) = ((14695981039346656037 : Nat) : Int) := by omega
    have hx := bits_xor_u64_nat 14695981039346656037 seed (by omega) hs
    rw [← hlit] at hx
    rw [hx, hinit]
  have hi0 := hinit_lt hs
  have HU : Hid (hashT seed T.data.toList = T.data.toList.foldl hstep (hinit seed)) := by unfold Hid; rw [hashT]
  rw [HU.out]
  obtain ⟨z0, hz0⟩ : ∃ z0, hinit seed = z0 := ⟨_, rfl⟩
  rw [hz0] at e0 hi0 ⊢
  clear hz0 HU
  go_enter Try.func12, Try.ntmps12
  go_wp2
  clear e0
  go_loopw [5, 6] (fun hv iv wr => ∃ i : Nat, iv = .int .i64 i ∧ i ≤ T.size ∧ hv = .int .u64 ((T.data.toList.take i).foldl hstep z0 : Nat) ∧ wr = w) (fun _ iv _ => T.size - (intOf iv).toNat)
  case atStart => exact ⟨0, rfl, by omega, rfl, rfl⟩
  case round =>
    obtain ⟨i, rfl, hi, rfl, rfl⟩ := hrel
    have hsl := hash_lt (T.data.toList.take i) z0 hi0
    obtain ⟨s, hsd⟩ : ∃ s, (T.data.toList.take i).foldl hstep z0 = s := ⟨_, rfl⟩
    have HS := Lib.hid hsd
    rw [hsd] at hsl ⊢
    clear hsd
    by_cases hlt : i < T.size
    · obtain ⟨c, hc⟩ : ∃ c : UInt8, (T[i]'hlt) = c := ⟨_, rfl⟩
      have HC : Hid (T.data.toList[i]? = some c) := by
        unfold Hid
        rw [List.getElem?_eq_getElem (by rw [Array.length_toList]; exact hlt), ← hc]
        rfl
      have HF : Hid ((T.data.toList.take (i + 1)).foldl hstep z0 = hstep s c) := by unfold Hid; rw [fold_take z0 _ i c HC.out, HS.out]
      obtain ⟨x, hx⟩ : ∃ x : Nat, c.toNat = x := ⟨_, rfl⟩
      have hx256 : x < 256 := by rw [← hx]; exact UInt8.toNat_lt _
      have e1 : bits .xor .u64 (s : Int) (x : Int) = ((s ^^^ x : Nat) : Int) := bits_xor_u64_nat s x hsl (by omega)
      have hy : s ^^^ x < 18446744073709551616 := xor64 hsl (by omega)
      obtain ⟨y, hyd⟩ : ∃ y, s ^^^ x = y := ⟨_, rfl⟩
      rw [hyd] at e1 hy
      have e2 : IntKind.u64.wrap ((y : Int) * 1099511628211) = ((y * 1099511628211 % 18446744073709551616 : Nat) : Int) := by rw [IntKind.wrap_u64]; omega
      have HE : Hid (hstep s c = y * 1099511628211 % 18446744073709551616) := by unfold Hid hstep; rw [hx, hyd]
      obtain ⟨z, hz⟩ : ∃ z, y * 1099511628211 % 18446744073709551616 = z := ⟨_, rfl⟩
      rw [hz] at e2 HE
      clear hyd hz
      go_wp2
      go_roundw
      case rel => exact ⟨i + 1, by go_num, by omega, by rw [HF.out, HE.out], by first | trivial | rfl⟩
      case measure => simp only [intOf]; omega
    · obtain rfl : i = T.size := by omega
      have HF : Hid (T.data.toList.foldl hstep z0 = s) := by
        unfold Hid
        rw [← HS.out, List.take_of_length_le (by rw [Array.length_toList]; exact Nat.le_refl _)]
      go_wp2
      go_ret
      exact ⟨by rw [HF.out]; rfl, rfl⟩

set_option maxRecDepth 100000 in
set_option maxHeartbeats 2000000 in
theorem rbucket_same (R seed n : Nat) (hs : seed < 18446744073709551616) (hn : 1 ≤ n) (hn63 : n ≤ 9223372036854775807) (T : ByteArray) (w : World) (hc : w.cell? ⟨R, 0, none⟩ = some (.int .u64 seed)) (hT : T.size ≤ 9223372036854775807) :
    Calls Try.prog 80 #[.pointer (some ⟨R, 0, none⟩), .int .i64 n, .string T] w fun e w' => e = .returned (.int .i64 (hashT seed T.data.toList % n : Nat)) ∧ w' = w := by
  have HH := Lib.hid (rhash_same seed hs T w hT)
  have hl := hashT_lt hs T.data.toList
  obtain ⟨z, hz⟩ : ∃ z, hashT seed T.data.toList = z := ⟨_, rfl⟩
  rw [hz] at HH hl ⊢
  clear hz
  have hm : z % n < n := Nat.mod_lt _ hn
  have hw : IntKind.u64.wrap (n : Int) = (n : Int) := by rw [IntKind.wrap_u64]; omega
  have hne : ¬ (n : Int) = 0 := by omega
  have hw2 : IntKind.i64.wrap ((z : Int) % (n : Int)) = (z : Int) % (n : Int) := IntWalk.i64_in _ (by omega)
  go_enter Try.func80, Try.ntmps80
  go_wp2_with fail
  refine HH.out.mono ?_
  rintro e w1 ⟨rfl, rfl⟩
  go_wp2
  go_ret
  exact ⟨by first | rfl | simp, rfl⟩


end Go.Proofs.Ytcjoakbaldeaoaa
