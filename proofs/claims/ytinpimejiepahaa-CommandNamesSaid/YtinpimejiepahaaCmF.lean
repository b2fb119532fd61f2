/-
  Package command: takes, refused, unknown; the document's Error. Conditions: as typed.
-/
import Derived.Test.YtinpimejiepahaaCmE
namespace Go.Proofs.Ytinpimejiepahaa
open Go.RowKit

/-- The zero command, an error's reply, the zero reply. -/
def zeroV : Value := .agg #[.string ⟨#[]⟩, .int .i64 0, .int .i64 0, .bool false, .int .i64 0, .int .i64 0, .int .i64 0]
def errV (T : ByteArray) : Value := .agg #[.int .i64 2, .string T, .int .i64 0, .slice none 0 0]

set_option maxRecDepth 100000 in
set_option maxHeartbeats 4000000 in
theorem takes_any (T : ByteArray) (g ar f la st : Int) (wr : Bool) (n : Nat) (lo : -1000 ≤ ar) (hi : ar ≤ 1000) (w : World) :
    Calls Try.prog 40 #[.agg #[.string T, .int .i64 g, .int .i64 ar, .bool wr, .int .i64 f, .int .i64 la, .int .i64 st], .int .i64 (n : Nat)] w fun e w' => e = .returned (.bool (if ar < 0 then decide (-ar ≤ n) else decide ((n : Int) = ar))) ∧ Below w.heap.size w w' := by
  by_cases h : ar < 0
  · rw [if_pos h]
    have hw : IntKind.i64.wrap (-ar) = -ar := IntWalk.i64_in _ (by omega)
    by_cases h2 : -ar ≤ (n : Int)
    · rw [decide_eq_true h2]
      go_enter Try.func40, Try.ntmps40
      go_wp2
      go_ret
      exact ⟨by first | rfl | simpa using h2, (Below.refl _ _).alloc (Nat.le_refl _) _⟩
    · rw [decide_eq_false h2]
      go_enter Try.func40, Try.ntmps40
      go_wp2
      go_ret
      exact ⟨by first | rfl | simpa using h2, (Below.refl _ _).alloc (Nat.le_refl _) _⟩
  · rw [if_neg h]
    by_cases h2 : (n : Int) = ar
    · rw [decide_eq_true h2]
      go_enter Try.func40, Try.ntmps40
      go_wp2
      go_ret
      exact ⟨by first | rfl | simpa using h2, (Below.refl _ _).alloc (Nat.le_refl _) _⟩
    · rw [decide_eq_false h2]
      go_enter Try.func40, Try.ntmps40
      go_wp2
      go_ret
      exact ⟨by first | rfl | simpa using h2, (Below.refl _ _).alloc (Nat.le_refl _) _⟩

set_option maxRecDepth 100000 in
set_option maxHeartbeats 4000000 in
theorem rerror_any (T : ByteArray) (w : World) : Calls Try.prog 41 #[.string T] w fun e w' => e = .returned (errV T) ∧ Below w.heap.size w w' := by
  go_enter Try.func41, Try.ntmps41
  go_wp2
  exact bodyPost_ret (v := errV T) (by simp [results, Try.results41, go_sem, errV]) rfl ⟨rfl, (Below.refl _ _).alloc (Nat.le_refl _) _⟩

set_option maxRecDepth 100000 in
set_option maxHeartbeats 4000000 in
theorem refused_any (T : ByteArray) (w : World) : Calls Try.prog 38 #[.string T] w fun e w' => e = .returned (.tuple #[zeroV, errV T, .bool false]) ∧ Below w.heap.size w w' := by
  go_enter Try.func38, Try.ntmps38
  go_wp2
  exact bodyPost_ret (v := .tuple #[zeroV, errV T, .bool false]) (by simp [results, Try.results38, go_sem, errV, zeroV]) rfl ⟨rfl, ((Below.refl _ _).alloc (Nat.le_refl _) _).alloc (by simp) _⟩

set_option maxRecDepth 100000 in
set_option maxHeartbeats 4000000 in
theorem unknown_any (x : Tx) (hx : x.length ≤ 4611686018427387904) (w : World) : Calls Try.prog 39 #[.string ⟨x.toArray⟩] w fun e w' => e = .returned (.string ⟨(unkT x).toArray⟩) ∧ Below w.heap.size w w' := by
  have HP := Lib.hid (plain_any x hx w)
  obtain ⟨S, hS⟩ : ∃ S : ByteArray, (⟨x.toArray⟩ : ByteArray) = S := ⟨_, rfl⟩
  obtain ⟨P, hP⟩ : ∃ P : ByteArray, (⟨(plnL x).toArray⟩ : ByteArray) = P := ⟨_, rfl⟩
  have hPs : P.size ≤ 128 := by rw [← hP]; show (plnL x).toArray.size ≤ 128; rw [List.size_toArray]; exact plnL_length x
  have HU : Hid ((⟨#[69, 82, 82, 32, 117, 110, 107, 110, 111, 119, 110, 32, 99, 111, 109, 109, 97, 110, 100, 32, 39]⟩ : ByteArray) ++ P ++ ⟨#[39]⟩ = ⟨(unkT x).toArray⟩) := by
    unfold Hid
    rw [← hP]
    apply ByteArray.ext
    simp [unkT]
  rw [hS, hP] at HP
  rw [hS]
  clear hS hP
  go_enter Try.func39, Try.ntmps39
  go_wp2_with fail
  refine HP.out.mono ?_
  rintro e w1 ⟨rfl, hb⟩
  have HB := Lib.hid hb
  clear hb
  go_wp2
  go_ret
  exact ⟨by rw [← HU.out]; rfl, HB.out⟩

end Go.Proofs.Ytinpimejiepahaa
