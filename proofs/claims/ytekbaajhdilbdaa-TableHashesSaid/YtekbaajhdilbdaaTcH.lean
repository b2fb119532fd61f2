/-
  The walk of TableHashes at any seed and any text.
-/
import Derived.Test.YtekbaajhdilbdaaTcA
namespace Go.Proofs.Ytekbaajhdilbdaa
open Go.RowKit

set_option maxRecDepth 100000 in
set_option maxHeartbeats 4000000 in
theorem tableHashes_any (x : Int) (hlo : 0 ≤ x) (hhi : x ≤ 18446744073709551615) (s : ByteArray) (hs : s.size ≤ 9223372036854775807) (w : World) :
    Calls Try.prog 3 #[.int .u64 x, .string s] w fun e w' => e = .returned (.bool true) ∧ Below w.heap.size w w' := by
  obtain ⟨seed, rfl⟩ : ∃ n : Nat, x = (n : Int) := ⟨x.toNat, by omega⟩
  have hseed : seed < 18446744073709551616 := by omega
  have HK := Lib.hid (fun W => key_any s W hs)
  have HH := Lib.hid (fun W => phash_same seed hseed (cutK s) W (by have := cutK_size s; omega))
  have HR := Lib.hid (fun W => rhash_any seed hseed (cutK s) W (by have := cutK_size s; omega))
  obtain ⟨H, hH⟩ : ∃ H, hashT seed (cutK s).data.toList = H := ⟨_, rfl⟩
  obtain ⟨C, hC⟩ : ∃ C, cutK s = C := ⟨_, rfl⟩
  rw [hH] at HH HR
  rw [hC] at HK HH HR
  clear hH hC hlo hhi
  go_enter Try.func3, Try.ntmps3
  go_wp2_with fail
  refine (HK.out _).mono ?_
  rintro e w1 ⟨rfl, rfl⟩
  go_wp2_with fail
  refine (HH.out _).mono ?_
  rintro e w2 ⟨rfl, rfl⟩
  go_wp2_with fail
  refine (HR.out _).mono ?_
  rintro e w3 ⟨rfl, hb3⟩
  have HB3 := Lib.hid hb3
  clear hb3
  go_wp2_with fail
  refine (alive_any w3).mono ?_
  rintro e w4 ⟨rfl, hb4⟩
  have HB4 := Lib.hid (bup HB3.out hb4)
  clear hb4
  go_wp2
  go_ret
  exact ⟨rfl, HB4.out⟩

end Go.Proofs.Ytekbaajhdilbdaa
