/-
  The walks of the document's own Hash and bucket. Conditions: the seed is a number of 64 bits, the key a text.
-/
import Derived.Test.YtcjoakbaldeaoaaTaA
import Derived.Test.YtcjoakbaldeaoaaRet
import Derived.Laws.Bits64
import Derived.WalkKit
import Derived.Lib.Hide
namespace Go.Proofs.Ytcjoakbaldeaoaa
open Go.RowKit

/-- A byte more. -/
def hstep (s : Nat) (b : UInt8) : Nat := ((s ^^^ b.toNat) * 1099511628211) % 18446744073709551616

def hinit (seed : Nat) : Nat := 14695981039346656037 ^^^ seed

/-- A key's hash. -/
def hashT (seed : Nat) (k : List UInt8) : Nat := k.foldl hstep (hinit seed)

theorem hstep_lt (s : Nat) (b : UInt8) : hstep s b < 18446744073709551616 := Nat.mod_lt _ (by omega)

theorem hash_lt (k : List UInt8) : ∀ s, s < 18446744073709551616 → k.foldl hstep s < 18446744073709551616 := by
  induction k with
  | nil => intro s hs; exact hs
  | cons b k ih => intro s _; rw [List.foldl_cons]; exact ih _ (hstep_lt s b)

theorem xor64 {a b : Nat} (ha : a < 18446744073709551616) (hb : b < 18446744073709551616) : a ^^^ b < 18446744073709551616 := by
  have hx : a ^^^ b < 2 ^ 64 := Nat.xor_lt_two_pow (by omega) (by omega)
  omega

theorem hinit_lt {seed : Nat} (hs : seed < 18446744073709551616) : hinit seed < 18446744073709551616 := by
  unfold hinit
  exact xor64 (by omega) hs

theorem hashT_lt {seed : Nat} (hs : seed < 18446744073709551616) (k : List UInt8) : hashT seed k < 18446744073709551616 := by
  unfold hashT
  exact hash_lt k _ (hinit_lt hs)

theorem fold_take (s : Nat) (l : List UInt8) (i : Nat) (c : UInt8) (hc : l[i]? = some c) : (l.take (i + 1)).foldl hstep s = hstep ((l.take i).foldl hstep s) c := by
  rw [List.take_add_one, hc, Option.toList_some, List.foldl_append, List.foldl_cons, List.foldl_nil]

set_option maxRecDepth 100000 in
set_option maxHeartbeats 4000000 in
theorem rhash_any (seed : Nat) (hs : seed < 18446744073709551616) (T : ByteArray) (w : World) (hT : T.size ≤ 9223372036854775807) :
    Calls Try.prog 12 #[.int .u64 seed, .string T] w fun e w' => e = .returned (.int .u64 (hashT seed T.data.toList : Nat)) ∧ Below w.heap.size w w' := by
  have e0 : bits .xor .u64 14695981039346656037 (seed : Int) = ((hinit seed : Nat) : Int) := by
    have hlit : (14695981039346656037 : Int) = ((14695981039346656037 : Nat) : Int) := by omega
    have hx := bits_xor_u64_nat 14695981039346656037 seed (by omega) hs
    rw [← hlit] at hx
    rw [hx, hinit]
  have hi0 := hinit_lt hs
  have HU : Hid (hashT seed T.data.toList = T.data.toList.foldl hstep (hinit seed)) := by unfold Hid; rw [hashT]
  rw [HU.out]
  obtain ⟨z0, hz0⟩ : ∃ z0, hinit seed = z0 := ⟨_, rfl⟩
  rw [hz0] at e0 hi0 ⊢
  clear hz0 HU
  go_enter Try.func12, Try.ntmps12
  go_wp2
  clear e0
  go_loopw [5, 6] (fun hv iv wr => ∃ i : Nat, iv = .int .i64 i ∧ i ≤ T.size ∧ hv = .int .u64 ((T.data.toList.take i).foldl hstep z0 : Nat) ∧ Below w.heap.size w wr) (fun _ iv _ => T.size - (intOf iv).toNat)
  case atStart => exact ⟨0, rfl, by omega, rfl, Below.refl _ _⟩
  case round =>
    obtain ⟨i, rfl, hi, rfl, hb⟩ := hrel
    have HB := Lib.hid hb
    have hsl := hash_lt (T.data.toList.take i) z0 hi0
    obtain ⟨s, hsd⟩ : ∃ s, (T.data.toList.take i).foldl hstep z0 = s := ⟨_, rfl⟩
    have HS := Lib.hid hsd
    rw [hsd] at hsl ⊢
    clear hb hsd
    by_cases hlt : i < T.size
    · obtain ⟨c, hc⟩ : ∃ c : UInt8, (T[i]'hlt) = c := ⟨_, rfl⟩
      have HC : Hid (T.data.toList[i]? = some c) := by
        unfold Hid
        rw [List.getElem?_eq_getElem (by rw [Array.length_toList]; exact hlt), ← hc]
        rfl
      have HF : Hid ((T.data.toList.take (i + 1)).foldl hstep z0 = hstep s c) := by unfold Hid; rw [fold_take z0 _ i c HC.out, HS.out]
      obtain ⟨x, hx⟩ : ∃ x : Nat, c.toNat = x := ⟨_, rfl⟩
      have hx256 : x < 256 := by rw [← hx]; exact UInt8.toNat_lt _
      have e1 : bits .xor .u64 (s : Int) (x : Int) = ((s ^^^ x : Nat) : Int) := bits_xor_u64_nat s x hsl (by omega)
      have hy : s ^^^ x < 18446744073709551616 := xor64 hsl (by omega)
      obtain ⟨y, hyd⟩ : ∃ y, s ^^^ x = y := ⟨_, rfl⟩
      rw [hyd] at e1 hy
      have e2 : IntKind.u64.wrap ((y : Int) * 1099511628211) = ((y * 1099511628211 % 18446744073709551616 : Nat) : Int) := by rw [IntKind.wrap_u64]; omega
      have HE : Hid (hstep s c = y * 1099511628211 % 18446744073709551616) := by unfold Hid hstep; rw [hx, hyd]
      obtain ⟨z, hz⟩ : ∃ z, y * 1099511628211 % 18446744073709551616 = z := ⟨_, rfl⟩
      rw [hz] at e2 HE
      clear hyd hz
      go_wp2
      go_roundw
      case rel => exact ⟨i + 1, by go_num, by omega, by rw [HF.out, HE.out], HB.out⟩
      case measure => simp only [intOf]; omega
    · obtain rfl : i = T.size := by omega
      have HF : Hid (T.data.toList.foldl hstep z0 = s) := by
        unfold Hid
        rw [← HS.out, List.take_of_length_le (by rw [Array.length_toList]; exact Nat.le_refl _)]
      go_wp2
      go_ret
      exact ⟨by rw [HF.out]; rfl, HB.out⟩

end Go.Proofs.Ytcjoakbaldeaoaa
