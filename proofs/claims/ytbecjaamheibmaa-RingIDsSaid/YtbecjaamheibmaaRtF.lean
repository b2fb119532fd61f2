/-
  The document's Read: its walk. No condition.
-/
import Derived.Test.YtbecjaamheibmaaRtE
namespace Go.Proofs.Ytbecjaamheibmaa
open Go.RowKit

/-- None of the first k digits is this byte. -/
def NotYet (c : UInt8) (k : Nat) : Prop := ∀ j, j < k → hexT[j]? ≠ some c
theorem hexT_get {k : Nat} (h : k < 16) : hexT[k]? = some (hexC k) := by
  have h16 : k < hexT.length := h
  rw [List.getElem?_eq_getElem h16]
  unfold hexC
  rw [List.getD_eq_getElem?_getD, List.getElem?_eq_getElem h16]
  rfl

set_option maxRecDepth 100000 in
set_option maxHeartbeats 16000000 in
theorem rread_any (x : Tx) (w : World) :
    Calls Try.prog 22 #[.string ⟨x.toArray⟩] w fun e w' => e = .returned (.tuple #[.int .u64 (rdV x), .int .i64 (rdE x)]) ∧ ∃ n, w' = w.drewN n := by
  have hsz : (⟨x.toArray⟩ : ByteArray).size = x.length := List.size_toArray ..
  by_cases h16 : x.length = 16
  · have HN0 : Hid (¬ rdIs x → rdV x = 0 ∧ rdE x = 192) := rd_no
    have HY : Hid (rdIs x → rdV x = rdN x ∧ rdE x = 0) := rd_yes
    obtain ⟨rv, hrv⟩ : ∃ v, rdV x = v := ⟨_, rfl⟩
    obtain ⟨re, hre⟩ : ∃ v, rdE x = v := ⟨_, rfl⟩
    rw [hrv, hre] at HN0 HY ⊢
    rw [h16] at hsz
    have H16 := Lib.hid h16
    clear hrv hre h16
    go_enter Try.func22, Try.ntmps22
    go_wp2_with fail
    go_loopw [4, 5] (fun nv iv wr => ∃ (i q : Nat), iv = .int .i64 i ∧ i ≤ 16 ∧ nv = .int .u64 (rdN (x.take i) : Nat) ∧ RdAt x i ∧ wr = w.drewN q) (fun _ iv _ => 16 - (intOf iv).toNat)
    case atStart => exact ⟨0, 0, rfl, by omega, by simp [rdN], fun c hc => by simp at hc, rfl⟩
    case round =>
      obtain ⟨i, q, rfl, hi, rfl, hok, rfl⟩ := hrel
      have HK := Lib.hid hok
      have hlt16 := rdN_lt x i (by rw [H16.out]; exact hi)
      obtain ⟨N, hN⟩ : ∃ N, rdN (x.take i) = N := ⟨_, rfl⟩
      rw [hN] at hlt16 ⊢
      by_cases hlt : i < 16
      · obtain ⟨c, hc⟩ : ∃ c, x[i]? = some c := ⟨_, List.getElem?_eq_getElem (by rw [H16.out]; exact hlt)⟩
        have hidx : (⟨x.toArray⟩ : ByteArray)[i]'(by rw [hsz]; exact hlt) = c := by
          have := (List.getElem?_eq_some_iff.1 hc).2
          rw [← this]
          rfl
        have hi0 : (0 : Int) ≤ (i : Int) := by omega
        have hi16 : (i : Int) < 16 := by omega
        have h1 : N < 1152921504606846976 := Nat.lt_of_lt_of_le hlt16 (by
          have : (16 : Nat) ^ i ≤ 16 ^ 15 := Nat.pow_le_pow_right (by decide) (by omega)
          have e : (16 : Nat) ^ 15 = 1152921504606846976 := by decide
          omega)
        have HC := Lib.hid hc
        have HN := Lib.hid hN
        obtain ⟨cc, hcc⟩ : ∃ cc, c.toNat = cc := ⟨_, rfl⟩
        have HCC := Lib.hid hcc
        clear hlt16 hc hN hok
        go_wp2_with fail
        go_loopw [6] (fun kv wr => ∃ (k p : Nat), kv = .int .i64 k ∧ k ≤ 16 ∧ NotYet c k ∧ wr = w.drewN p) (fun kv _ => 16 - (intOf kv).toNat)
        case atStart => exact ⟨0, q, rfl, by omega, fun j hj => absurd hj (Nat.not_lt_zero j), rfl⟩
        case round =>
          obtain ⟨k, p, rfl, hk, hny, rfl⟩ := hrel
          have HNY := Lib.hid hny
          clear hny
          by_cases hkl : k < 16
          · obtain ⟨u, hu0⟩ : ∃ u, hexC k = u := ⟨_, rfl⟩
            have hu := hexC_at hkl (show k < 16 from hkl)
            rw [hu0] at hu
            have hk0 : (0 : Int) ≤ (k : Int) := by omega
            have hk16 : (k : Int) < 16 := by omega
            by_cases he : u = c
            · subst he
              have hne : ((u.toNat : Int) != (u.toNat : Int)) = false := by simp
              have HDG : Hid (dgV u = (k : Int)) := dgV_of (by rw [hexT_get hkl, hu0]) HNY.out
              have HST : Hid (rdN (x.take (i + 1)) = N * 16 + k) := by
                unfold Hid
                rw [rd_take HC.out, HN.out, HDG.out, Int.toNat_natCast]
              have HOK : Hid (RdAt x (i + 1)) := rdOk_take HC.out HK.out (by rw [HDG.out]; omega)
              have hkn : ¬ k = 16 := by omega
              have hkb : ((k : Int) == 16) = false := by simp; omega
              clear hu0 hcc
              go_wp2_with fail
              go_quiet (fail)
              go_wp2
              go_roundw
              case rel => exact ⟨i + 1, _, by go_num, by omega, by rw [HST.out]; congr 1, HOK.out, rfl⟩
              case measure => simp only [intOf]; omega
            · have hnn : ¬ u.toNat = c.toNat := fun e => he (UInt8.toNat_inj.1 e)
              have hne : ((u.toNat : Int) != (c.toNat : Int)) = true := by simp; omega
              have hneN : (u.toNat == c.toNat) = false := by simpa using hnn
              have HNY2 : Hid (NotYet c (k + 1)) := fun j hj => by
                by_cases e : j = k
                · rw [e, hexT_get hkl, hu0]
                  intro q
                  injection q with q
                  exact he q
                · exact HNY.out j (by omega)
              clear hu0 hcc
              go_wp2_with fail
              go_quiet (fail)
              go_wp2
              go_roundw
              case rel => exact ⟨k + 1, _, by go_num, by omega, HNY2.out, rfl⟩
              case measure => simp only [intOf]; omega
          · obtain rfl : k = 16 := by omega
            obtain ⟨rfl, rfl⟩ := HN0.out (fun q => by
              have := q.2.1 c (List.mem_of_getElem? HC.out)
              have := dgV_neg HNY.out
              omega)
            clear hcc
            go_wp2_with fail
            go_quiet (fail)
            go_wp2
            go_ret2
            exact ⟨rfl, _, rfl⟩
      · obtain rfl : i = 16 := by omega
        have HKX : Hid (rdOk x) := by
          have := hok
          unfold RdAt at this
          rwa [List.take_of_length_le (by rw [H16.out]; exact Nat.le_refl _)] at this
        have HNX : Hid (rdN x = N) := by
          unfold Hid
          rw [← hN, List.take_of_length_le (by rw [H16.out]; exact Nat.le_refl _)]
        clear hN hok
        by_cases h0 : N = 0
        · obtain ⟨rfl, rfl⟩ := HN0.out (fun q => q.2.2 (by rw [HNX.out]; exact h0))
          subst h0
          go_wp2
          go_ret2
          exact ⟨rfl, _, rfl⟩
        · have HE := HY.out ⟨H16.out, HKX.out, by rw [HNX.out]; exact h0⟩
          rw [HNX.out] at HE
          obtain ⟨rfl, rfl⟩ := HE
          have h0b : ((rv : Int) == 0) = false := by simpa using h0
          have h0I : ¬ (rv : Int) = 0 := by omega
          go_wp2
          go_ret2
          exact ⟨rfl, _, rfl⟩
  · obtain ⟨e1, e2⟩ := rd_no (x := x) (fun q => h16 q.1)
    rw [e1, e2]
    obtain ⟨n, hn⟩ : ∃ n, x.length = n := ⟨_, rfl⟩
    rw [hn] at hsz h16
    have hnb : ((n : Int) != 16) = true := by simp; omega
    have hnI : ¬ (n : Int) = 16 := by omega
    have hnN : ¬ n = 16 := h16
    clear e1 e2 hn
    go_enter Try.func22, Try.ntmps22
    go_wp2
    go_ret2
    exact ⟨rfl, 0, rfl⟩

end Go.Proofs.Ytbecjaamheibmaa
