/-
  RingIDs: its walk. No condition.
-/
import Derived.Test.YtbecjaamheibmaaRtF
import Derived.Test.YtbecjaamheibmaaRaA
namespace Go.Proofs.Ytbecjaamheibmaa
open Go.RowKit

theorem ext_take (x : Tx) (k : Nat) : (⟨x.toArray⟩ : ByteArray).extract 0 k = ⟨(x.take k).toArray⟩ := by
  apply ByteArray.ext
  rw [ByteArray.data_extract]
  apply Array.ext'
  simp [List.extract_eq_take_drop]

set_option maxRecDepth 100000 in
set_option maxHeartbeats 16000000 in
theorem ids_any (w : World) (id : Int) (h0 : 0 ≤ id) (h1 : id ≤ 18446744073709551615) (S : ByteArray) (hs : S.size ≤ 9223372036854775807) :
    Calls Try.prog 5 #[.int .u64 id, .string S] w fun e w' => e = .returned (.bool true) ∧ Below w.heap.size w w' := by
  obtain ⟨n, rfl⟩ : ∃ n : Nat, id = (n : Int) := ⟨id.toNat, by omega⟩
  obtain ⟨x, hx⟩ : ∃ x : Tx, S = ⟨x.toArray⟩ := ⟨S.data.toList, by cases S; simp⟩
  obtain ⟨T, y, hT, hcase⟩ : ∃ (T : ByteArray) (y : Tx), T = ⟨y.toArray⟩ ∧ ((500 < S.size ∧ S.extract 0 500 = T) ∨ (¬ 500 < S.size ∧ S = T)) := by
    by_cases h : 500 < S.size
    · exact ⟨_, x.take 500, rfl, Or.inl ⟨h, by rw [hx, ext_take]⟩⟩
    · exact ⟨_, x, rfl, Or.inr ⟨h, hx⟩⟩
  have HR : Hid (∀ X, Calls Try.prog 21 #[.string T] X fun e w' => e = .returned (.tuple #[.int .u64 (rdV y), .int .i64 (rdE y)]) ∧ X = w') := fun X => by rw [hT]; exact read_any y X
  have HRR : Hid (∀ X, Calls Try.prog 22 #[.string T] X fun e w' => e = .returned (.tuple #[.int .u64 (rdV y), .int .i64 (rdE y)]) ∧ ∃ n, w' = X.drewN n) := fun X => by rw [hT]; exact rread_any y X
  obtain ⟨rv, hrv⟩ : ∃ v, ((rdV y : Nat) : Int) = v := ⟨_, rfl⟩
  obtain ⟨re, hre⟩ : ∃ v, rdE y = v := ⟨_, rfl⟩
  rw [hrv, hre] at HR HRR
  obtain ⟨Z, hZ⟩ : ∃ Z : ByteArray, ⟨(textX n).toArray⟩ = Z := ⟨_, rfl⟩
  have HTX : Hid (∀ X, Calls Try.prog 23 #[.int .u64 n] X fun e w' => e = .returned (.string Z) ∧ Below X.heap.size X w') := fun X => by rw [← hZ]; exact text_any n X (by omega)
  have HRT : Hid (∀ X, Calls Try.prog 24 #[.int .u64 n] X fun e w' => e = .returned (.string Z) ∧ Below X.heap.size X w') := fun X => by rw [← hZ]; exact rtext_any n X (by omega)
  have HRZ : Hid (∀ X, Calls Try.prog 21 #[.string Z] X fun e w' => e = .returned (.tuple #[.int .u64 (rdV (textX n)), .int .i64 (rdE (textX n))]) ∧ X = w') := fun X => by rw [← hZ]; exact read_any _ X
  have HAL := Lib.hid alive_any
  have hbk := rd_back n (by omega)
  obtain ⟨bv, hbv⟩ : ∃ v, ((rdV (textX n) : Nat) : Int) = v := ⟨_, rfl⟩
  obtain ⟨be, hbe⟩ : ∃ v, rdE (textX n) = v := ⟨_, rfl⟩
  have hbk2 : (n = 0 ∧ be = 192) ∨ (n ≠ 0 ∧ be = 0 ∧ bv = (n : Int)) := by
    rcases hbk with ⟨q1, q2⟩ | ⟨q1, q2, q3⟩
    · exact Or.inl ⟨q1, by rw [← hbe]; exact q2⟩
    · exact Or.inr ⟨q1, by rw [← hbe]; exact q2, by rw [← hbv, q3]⟩
  rw [hbv, hbe] at HRZ
  clear hbk hbv hbe hZ hrv hre hT hx h0
  rcases hcase with ⟨hl, hE⟩ | ⟨hl, rfl⟩
  case' inl =>
    have HEX := Lib.hid hE
    have hlI : (500 : Int) < (S.size : Int) := by omega
    clear hE
  case' inr =>
    have HEX : Hid (S = S) := rfl
    have hlI : decide ((500 : Int) < (S.size : Int)) = false := by simp; omega
  all_goals
    rcases hbk2 with ⟨rfl, rfl⟩ | ⟨hn0, rfl, rfl⟩
    case' inr =>
      have hn0b : ((n : Int) == 0) = false := by simp; omega
      have hn0I : ¬ (n : Int) = 0 := by omega
    all_goals
      go_enter Try.func5, Try.ntmps5
      go_wp2_with fail
      try rw [HEX.out]
      refine (HR.out _).mono ?_
      rintro e w1 ⟨rfl, rfl⟩
      go_wp2_with fail
      try rw [HEX.out]
      refine (HRR.out _).mono ?_
      rintro e w1 ⟨rfl, q1, rfl⟩
      go_wp2_with fail
      refine (HTX.out _).mono ?_
      rintro e w2 ⟨rfl, hb2⟩
      have HB2 : Hid (Below w.heap.size w w2) := (below_drewN w.heap.size w q1).trans hb2
      clear hb2
      go_wp2_with fail
      refine (HRZ.out _).mono ?_
      rintro e w3 ⟨rfl, rfl⟩
      go_wp2_with fail
      refine (HTX.out _).mono ?_
      rintro e w3 ⟨rfl, hb3⟩
      have HB3 := Lib.hid (below_then HB2.out hb3)
      clear hb3
      go_wp2_with fail
      refine (HRT.out _).mono ?_
      rintro e w4 ⟨rfl, hb4⟩
      have HB4 := Lib.hid (below_then HB3.out hb4)
      clear hb4
      go_wp2_with fail
      refine (HAL.out _).mono ?_
      rintro e w5 ⟨rfl, hb5⟩
      have HB5 := Lib.hid (below_then HB4.out hb5)
      clear hb5
      go_wp2
      go_ret
      exact ⟨rfl, HB5.out⟩

end Go.Proofs.Ytbecjaamheibmaa
