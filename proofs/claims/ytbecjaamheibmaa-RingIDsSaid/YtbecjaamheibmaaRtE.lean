/-
  ring.Read: its walk. No condition.
-/
import Derived.Test.YtbecjaamheibmaaRtC
import Derived.Test.YtbecjaamheibmaaRtD
import Derived.Test.YtbecjaamheibmaaShelf
namespace Go.Proofs.Ytbecjaamheibmaa
open Go.RowKit

/-- The first i bytes are digits. -/
def RdAt (x : Tx) (i : Nat) : Prop := rdOk (x.take i)

set_option maxRecDepth 100000 in
set_option maxHeartbeats 8000000 in
theorem read_any (x : Tx) (w : World) :
    Calls Try.prog 21 #[.string ⟨x.toArray⟩] w fun e w' => e = .returned (.tuple #[.int .u64 (rdV x), .int .i64 (rdE x)]) ∧ w = w' := by
  have hsz : (⟨x.toArray⟩ : ByteArray).size = x.length := List.size_toArray ..
  by_cases h16 : x.length = 16
  · have HN0 : Hid (¬ rdIs x → rdV x = 0 ∧ rdE x = 192) := rd_no
    have HY : Hid (rdIs x → rdV x = rdN x ∧ rdE x = 0) := rd_yes
    obtain ⟨rv, hrv⟩ : ∃ v, rdV x = v := ⟨_, rfl⟩
    obtain ⟨re, hre⟩ : ∃ v, rdE x = v := ⟨_, rfl⟩
    rw [hrv, hre] at HN0 HY ⊢
    rw [h16] at hsz
    have H16 := Lib.hid h16
    clear hrv hre h16
    go_enter Try.func21, Try.ntmps21
    go_wp2_with fail
    go_loop [4, 12] (fun nv iv => ∃ (i : Nat), iv = .int .i64 i ∧ i ≤ 16 ∧ nv = .int .u64 (rdN (x.take i) : Nat) ∧ RdAt x i) (fun _ iv => 16 - (intOf iv).toNat)
    case atStart => exact ⟨0, rfl, by omega, by simp [rdN], fun c hc => by simp at hc⟩
    case round =>
      obtain ⟨i, rfl, hi, rfl, hok⟩ := hrel
      have HK := Lib.hid hok
      have hlt16 := rdN_lt x i (by rw [H16.out]; exact hi)
      obtain ⟨N, hN⟩ : ∃ N, rdN (x.take i) = N := ⟨_, rfl⟩
      rw [hN] at hlt16 ⊢
      by_cases hlt : i < 16
      · obtain ⟨c, hc⟩ : ∃ c, x[i]? = some c := ⟨_, List.getElem?_eq_getElem (by rw [H16.out]; exact hlt)⟩
        have hidx : (⟨x.toArray⟩ : ByteArray)[i]'(by rw [hsz]; exact hlt) = c := by
          have := (List.getElem?_eq_some_iff.1 hc).2
          rw [← this]
          rfl
        have hi0 : (0 : Int) ≤ (i : Int) := by omega
        have hi16 : (i : Int) < 16 := by omega
        have HIB : Hid (∀ X, Calls Try.prog 39 #[.string ⟨#[48, 49, 50, 51, 52, 53, 54, 55, 56, 57, 97, 98, 99, 100, 101, 102]⟩, .int .u8 (c.toNat : Int)] X fun e w' => e = .returned (.int .i64 (dgV c)) ∧ w' = X) := fun X => by
          have q := Try.strings_IndexByte ⟨#[48, 49, 50, 51, 52, 53, 54, 55, 56, 57, 97, 98, 99, 100, 101, 102]⟩ (c.toNat : Int) X
          have e : ((c.toNat : Int)).toNat.toUInt8 = c := by simp
          rw [e] at q
          exact q
        have h1 : N < 1152921504606846976 := Nat.lt_of_lt_of_le hlt16 (by
          have : (16 : Nat) ^ i ≤ 16 ^ 15 := Nat.pow_le_pow_right (by decide) (by omega)
          have e : (16 : Nat) ^ 15 = 1152921504606846976 := by decide
          omega)
        by_cases hd : dgV c < 0
        · have HE := HN0.out (fun q => by
            have := q.2.1 c (List.mem_of_getElem? hc)
            omega)
          obtain ⟨dv, hdv⟩ : ∃ d, dgV c = d := ⟨_, rfl⟩
          rw [hdv] at HIB hd
          obtain ⟨rfl, rfl⟩ := HE
          clear hN hlt16 hc hdv hok
          go_wp2_with fail
          refine (HIB.out _).mono ?_
          rintro e w2 ⟨rfl, rfl⟩
          go_wp2
          go_ret2
          exact ⟨rfl, rfl⟩
        · obtain ⟨d, hdd⟩ : ∃ d : Nat, dgV c = (d : Int) := ⟨(dgV c).toNat, by omega⟩
          have hd16 : d < 16 := by have := dgV_lt c; omega
          have HST0 : Hid (rdN (x.take (i + 1)) = N * 16 + d) := by
            unfold Hid
            rw [rd_take hc, hN, hdd, Int.toNat_natCast]
          have HOK : Hid (RdAt x (i + 1)) := rdOk_take hc hok (by omega)
          have hsh : IntKind.u64.wrap ((N : Int) * 2 ^ 4) = ((N * 16 : Nat) : Int) := by
            rw [show ((N : Int) * 2 ^ 4) = ((N * 16 : Nat) : Int) by omega, IntKind.wrap_u64]
            omega
          obtain ⟨R, hR⟩ : ∃ R, N * 16 + d = R := ⟨_, rfl⟩
          have hor : bits BinOp.or IntKind.u64 ((N : Int) * 16) (d : Int) = (R : Int) := by
            rw [show (N : Int) * 16 = ((N * 16 : Nat) : Int) by omega, ← hR, bits_or_u64_nat _ _ (by omega) (by omega)]
            congr 1
            rw [show N * 16 = N <<< 4 by rw [Nat.shiftLeft_eq], Nat.shiftLeft_add_eq_or_of_lt (by omega)]
          have HST : Hid (rdN (x.take (i + 1)) = R) := by
            unfold Hid
            rw [HST0.out, hR]
          rw [hdd] at HIB hd
          clear hN hlt16 hc hdd hok hR
          go_wp2_with fail
          refine (HIB.out _).mono ?_
          rintro e w2 ⟨rfl, rfl⟩
          go_wp2
          go_round
          case rel => exact ⟨i + 1, by go_num, by omega, by rw [HST.out], HOK.out⟩
          case measure => simp only [intOf]; omega
      · obtain rfl : i = 16 := by omega
        have HKX : Hid (rdOk x) := by
          have := hok
          unfold RdAt at this
          rwa [List.take_of_length_le (by rw [H16.out]; exact Nat.le_refl _)] at this
        have HNX : Hid (rdN x = N) := by
          unfold Hid
          rw [← hN, List.take_of_length_le (by rw [H16.out]; exact Nat.le_refl _)]
        clear hN hok
        by_cases h0 : N = 0
        · obtain ⟨rfl, rfl⟩ := HN0.out (fun q => q.2.2 (by rw [HNX.out]; exact h0))
          subst h0
          go_wp2
          go_ret2
          exact ⟨rfl, rfl⟩
        · have HE := HY.out ⟨H16.out, HKX.out, by rw [HNX.out]; exact h0⟩
          rw [HNX.out] at HE
          obtain ⟨rfl, rfl⟩ := HE
          have h0b : ((rv : Int) == 0) = false := by simpa using h0
          have h0I : ¬ (rv : Int) = 0 := by omega
          go_wp2
          go_ret2
          exact ⟨rfl, rfl⟩
  · obtain ⟨e1, e2⟩ := rd_no (x := x) (fun q => h16 q.1)
    rw [e1, e2]
    obtain ⟨n, hn⟩ : ∃ n, x.length = n := ⟨_, rfl⟩
    rw [hn] at hsz h16
    have hnb : ((n : Int) != 16) = true := by simp; omega
    have hnI : ¬ (n : Int) = 16 := by omega
    have hnN : ¬ n = 16 := h16
    clear e1 e2 hn
    go_enter Try.func21, Try.ntmps21
    go_wp2
    go_ret2
    exact ⟨rfl, rfl⟩

end Go.Proofs.Ytbecjaamheibmaa
