/-
  Package command: small, Lower, Plain; the document's Lower, Plain; cut. Conditions: as typed.
-/
import Derived.Test.YtinpimejiepahaaCmT
namespace Go.Proofs.Ytinpimejiepahaa
open Go.RowKit

theorem u8w (z : Int) (h0 : 0 ≤ z) (h1 : z < 256) : IntKind.u8.wrap z = z := by simp [IntKind.wrap, IntKind.bits, IntKind.signed]; omega

set_option maxRecDepth 100000 in
set_option maxHeartbeats 4000000 in
theorem small_any (c : Nat) (hc : c < 256) (w : World) : Calls Try.prog 37 #[.int .u8 (c : Nat)] w fun e w' => e = .returned (.int .u8 (lowN c : Nat)) ∧ w' = w := by
  by_cases h : 65 ≤ c ∧ c ≤ 90
  · obtain ⟨z, hz⟩ : ∃ z : Nat, c = z + 65 := ⟨c - 65, by omega⟩
    have e1 : lowN c = c + 32 := by unfold lowN; rw [if_pos h]
    have hw1 : IntKind.u8.wrap ((c : Int) - 65) = (z : Int) := by rw [u8w _ (by omega) (by omega)]; omega
    have hw2 : IntKind.u8.wrap ((z : Int) + 97) = ((lowN c : Nat) : Int) := by rw [u8w _ (by omega) (by omega)]; omega
    have h1 : (65 : Int) ≤ (c : Int) := by omega
    have h2 : (c : Int) ≤ 90 := by omega
    have h3 : 65 ≤ c := h.1
    have h4 : c ≤ 90 := h.2
    obtain ⟨L, hL⟩ : ∃ L, lowN c = L := ⟨_, rfl⟩
    rw [hL] at hw2 ⊢
    clear hL e1 hz h
    go_enter Try.func37, Try.ntmps37
    go_wp2
    go_ret
    exact ⟨rfl, rfl⟩
  · have e1 : lowN c = c := by unfold lowN; rw [if_neg h]
    rw [e1]
    by_cases h3 : 65 ≤ c
    · have h4 : ¬ c ≤ 90 := fun q => h ⟨h3, q⟩
      have h1 : (65 : Int) ≤ (c : Int) := by omega
      have h2 : ¬ (c : Int) ≤ 90 := by omega
      clear h e1
      go_enter Try.func37, Try.ntmps37
      go_wp2
      go_ret
      exact ⟨rfl, rfl⟩
    · have h1 : ¬ (65 : Int) ≤ (c : Int) := by omega
      clear h e1
      go_enter Try.func37, Try.ntmps37
      go_wp2
      go_ret
      exact ⟨rfl, rfl⟩

def lowF : Nat → UInt8 → UInt8 := fun _ c => lowB c
def plnF : Nat → UInt8 → UInt8 := fun _ c => plnB c
theorem lowF_all (l : Tx) : l.mapIdx lowF = lowL l := mapIdx_map lowB l
theorem plnF_all (l : Tx) : l.mapIdx plnF = l.map plnB := mapIdx_map plnB l

set_option maxRecDepth 100000 in
set_option maxHeartbeats 8000000 in
theorem lower_any (x : Tx) (hx : x.length ≤ 4611686018427387904) (w : World) : Calls Try.prog 12 #[.string ⟨x.toArray⟩] w fun e w' => e = .returned (.string ⟨(lowL x).toArray⟩) ∧ Below w.heap.size w w' := by
  obtain ⟨C, W1, hcv, hb, hr, hC, hC2⟩ := text_row w x (by omega)
  obtain ⟨M, hM⟩ : ∃ M, w.heap.size = M := ⟨_, rfl⟩
  obtain ⟨n, hn⟩ : ∃ n, x.length = n := ⟨_, rfl⟩
  rw [hM] at hcv hb hr
  rw [hn] at hcv hx hC
  rw [hM]
  have HB := Lib.hid hb
  have HR := Lib.hid hr
  have HN := Lib.hid hn
  clear hb hr hM hn
  go_enter Try.func12, Try.ntmps12
  go_wp2_with fail
  go_loopw [10] (fun iv wr => ∃ i : Nat, iv = .int .i64 i ∧ i ≤ n ∧ ByR wr M (mixF lowF x i) ∧ Below M w wr) (fun iv _ => n - (intOf iv).toNat)
  case atStart => exact ⟨0, rfl, Nat.zero_le _, by rw [mixF_zero]; exact HR.out, HB.out⟩
  case round =>
    obtain ⟨i, rfl, hi, hr, hbw⟩ := hrel
    have HRW := Lib.hid hr
    have HBW := Lib.hid hbw
    clear hr hbw
    by_cases hlt : i < n
    · obtain ⟨c, hc⟩ : ∃ c, x[i]? = some c := ⟨_, List.getElem?_eq_getElem (by rw [HN.out]; exact hlt)⟩
      obtain ⟨c0, f0⟩ := HRW.out.2 i c (mixF_at hc)
      have HST := Lib.hid (mixF_set (f := lowF) hc)
      have HSZ : Hid (i < (mixF lowF x i).length) := by unfold Hid; rw [mixF_len, HN.out]; exact hlt
      obtain ⟨k, hk⟩ : ∃ k, c.toNat = k := ⟨_, rfl⟩
      have hk2 : ((lowB c).toNat : Int) = (lowN k : Nat) := by rw [lowB_toNat, hk]
      have HSM := Lib.hid (fun W => small_any k (by rw [← hk]; exact c.toNat_lt) W)
      have HK2 := Lib.hid hk2
      rw [hk] at c0
      have hlt' : (i : Int) < (n : Int) := by omega
      have hi0 : (0 : Int) ≤ (i : Int) := by omega
      clear hc hk hk2
      go_wp2_with fail
      refine (HSM.out _).mono ?_
      rintro e w2 ⟨rfl, rfl⟩
      go_wp2
      go_roundw
      case rel => exact ⟨i + 1, by go_num, hlt, by rw [← HST.out]; show ByR _ M (List.set _ i (lowB c)); rw [← HK2.out]; exact HRW.out.set HSZ.out (lowB c), HBW.out.setCell (Nat.le_refl _) _⟩
      case measure => simp only [intOf]; omega
    · obtain rfl : i = n := by omega
      have HT : Hid (ByR wr M (lowL x)) := by
        have q := HRW.out
        rw [mixF_all lowF x (by rw [HN.out]; exact Nat.le_refl _), lowF_all] at q
        exact q
      have hback := row_text wr M i C (lowL x) HT.out (by rw [lowL_length, HN.out])
      have hlt' : ¬ (i : Int) < (i : Int) := by omega
      go_wp2
      go_ret
      exact ⟨rfl, HBW.out⟩

theorem ext_take (x : Tx) (k : Nat) : (⟨x.toArray⟩ : ByteArray).extract 0 k = ⟨(x.take k).toArray⟩ := by
  apply ByteArray.ext
  rw [ByteArray.data_extract]
  apply Array.toList_inj.1
  simp [List.extract_eq_take_drop]

set_option maxRecDepth 100000 in
set_option maxHeartbeats 8000000 in
theorem rlower_any (x : Tx) (hx : x.length ≤ 4611686018427387904) (w : World) : Calls Try.prog 13 #[.string ⟨x.toArray⟩] w fun e w' => e = .returned (.string ⟨(lowL x).toArray⟩) ∧ Below w.heap.size w w' := by
  obtain ⟨C, W1, hcv, hb, hr, hC, hC2⟩ := text_row w x (by omega)
  obtain ⟨M, hM⟩ : ∃ M, w.heap.size = M := ⟨_, rfl⟩
  obtain ⟨n, hn⟩ : ∃ n, x.length = n := ⟨_, rfl⟩
  rw [hM] at hcv hb hr
  rw [hn] at hcv hx hC
  rw [hM]
  have HB := Lib.hid hb
  have HR := Lib.hid hr
  have HN := Lib.hid hn
  clear hb hr hM hn
  go_enter Try.func13, Try.ntmps13
  go_wp2_with fail
  go_loopw [4] (fun iv wr => ∃ i : Nat, iv = .int .i64 i ∧ i ≤ n ∧ ByR wr M (mixF lowF x i) ∧ Below M w wr) (fun iv _ => n - (intOf iv).toNat)
  case atStart => exact ⟨0, rfl, Nat.zero_le _, by rw [mixF_zero]; exact HR.out, HB.out⟩
  case round =>
    obtain ⟨i, rfl, hi, hr, hbw⟩ := hrel
    have HRW := Lib.hid hr
    have HBW := Lib.hid hbw
    clear hr hbw
    by_cases hlt : i < n
    · obtain ⟨c, hc⟩ : ∃ c, x[i]? = some c := ⟨_, List.getElem?_eq_getElem (by rw [HN.out]; exact hlt)⟩
      obtain ⟨c0, f0⟩ := HRW.out.2 i c (mixF_at hc)
      have HST := Lib.hid (mixF_set (f := lowF) hc)
      have HSK := Lib.hid (fun h => mixF_skip (f := lowF) hc h)
      have HSZ : Hid (i < (mixF lowF x i).length) := by unfold Hid; rw [mixF_len, HN.out]; exact hlt
      obtain ⟨k, hk⟩ : ∃ k, c.toNat = k := ⟨_, rfl⟩
      have hk256 : k < 256 := by rw [← hk]; exact c.toNat_lt
      have HK := Lib.hid hk
      rw [hk] at c0
      have hlt' : (i : Int) < (n : Int) := by omega
      have hi0 : (0 : Int) ≤ (i : Int) := by omega
      clear hc hk
      by_cases h : 65 ≤ k ∧ k ≤ 90
      · have HL : Hid ((lowB c).toNat = k + 32) := by unfold Hid; rw [lowB_toNat, HK.out]; unfold lowN; rw [if_pos h]
        obtain ⟨z, hz⟩ : ∃ z : Nat, k + 32 = z := ⟨_, rfl⟩
        rw [hz] at HL
        have hw2 : IntKind.u8.wrap ((k : Int) + 32) = (z : Int) := by rw [u8w _ (by omega) (by omega)]; omega
        have h1 : (65 : Int) ≤ (k : Int) := by omega
        have h2 : (k : Int) ≤ 90 := by omega
        have h3 : 65 ≤ k := h.1
        have h4 : k ≤ 90 := h.2
        clear h hz
        go_wp2
        go_roundw
        case rel => exact ⟨i + 1, by go_num, hlt, by rw [← HST.out]; show ByR _ M (List.set _ i (lowB c)); have q := HRW.out.set HSZ.out (lowB c); rw [HL.out] at q; exact q, HBW.out.setCell (Nat.le_refl _) _⟩
        case measure => simp only [intOf]; omega
      · have HL : Hid (lowB c = c) := by
          unfold Hid
          apply UInt8.toNat_inj.1
          rw [lowB_toNat, HK.out]
          unfold lowN
          rw [if_neg h]
        by_cases h3 : 65 ≤ k
        · have h4 : ¬ k ≤ 90 := fun q => h ⟨h3, q⟩
          have h1 : (65 : Int) ≤ (k : Int) := by omega
          have h2 : ¬ (k : Int) ≤ 90 := by omega
          clear h
          go_wp2
          go_roundw
          case rel => exact ⟨i + 1, by go_num, hlt, by rw [HSK.out HL.out]; exact HRW.out, HBW.out⟩
          case measure => simp only [intOf]; omega
        · have h1 : ¬ (65 : Int) ≤ (k : Int) := by omega
          clear h
          go_wp2
          go_roundw
          case rel => exact ⟨i + 1, by go_num, hlt, by rw [HSK.out HL.out]; exact HRW.out, HBW.out⟩
          case measure => simp only [intOf]; omega
    · obtain rfl : i = n := by omega
      have HT : Hid (ByR wr M (lowL x)) := by
        have q := HRW.out
        rw [mixF_all lowF x (by rw [HN.out]; exact Nat.le_refl _), lowF_all] at q
        exact q
      have hback := row_text wr M i C (lowL x) HT.out (by rw [lowL_length, HN.out])
      have hlt' : ¬ (i : Int) < (i : Int) := by omega
      go_wp2
      go_ret
      exact ⟨rfl, HBW.out⟩


set_option maxRecDepth 100000 in
set_option maxHeartbeats 8000000 in
theorem plain_any (x : Tx) (hx : x.length ≤ 4611686018427387904) (w : World) : Calls Try.prog 14 #[.string ⟨x.toArray⟩] w fun e w' => e = .returned (.string ⟨(plnL x).toArray⟩) ∧ Below w.heap.size w w' := by
  obtain ⟨S, hS⟩ : ∃ S : ByteArray, (⟨x.toArray⟩ : ByteArray) = S := ⟨_, rfl⟩
  obtain ⟨m, hm⟩ : ∃ m, x.length = m := ⟨_, rfl⟩
  have hSm : S.size = m := by rw [← hS, ← hm]; exact List.size_toArray ..
  obtain ⟨y, hy⟩ : ∃ y, x.take 128 = y := ⟨_, rfl⟩
  have hyl : y.length = min 128 m := by rw [← hy, List.length_take, hm]
  have hpl : plnL x = y.map plnB := by unfold plnL; rw [hy]
  rw [hpl]
  obtain ⟨C, W1, hcv0, hb, hr, hC, hC2⟩ := text_row w y (by omega)
  obtain ⟨M, hM⟩ : ∃ M, w.heap.size = M := ⟨_, rfl⟩
  obtain ⟨n, hn⟩ : ∃ n, y.length = n := ⟨_, rfl⟩
  rw [hM] at hcv0 hb hr
  rw [hn] at hcv0 hC
  rw [hM, hS]
  have HB := Lib.hid hb
  have HR := Lib.hid hr
  have HN := Lib.hid hn
  have HMin : Hid (n = min 128 m) := by unfold Hid; rw [← hn, hyl]
  have HSM := Lib.hid hSm
  have hn7 : n ≤ 128 := by have := HMin.out; omega
  have HEX : Hid (S.extract 0 n = ⟨y.toArray⟩) := by
    unfold Hid
    rw [← hS, ext_take, ← hy, HMin.out]
    congr 2
    rcases Nat.le_total m 128 with q | q
    · rw [Nat.min_eq_right q, ← hm, List.take_length, List.take_of_length_le (by omega)]
    · rw [Nat.min_eq_left q]
  have hcv : (convert 9 48 (.string (S.extract 0 n))).run Try.prog w = .ok (.slice (some ⟨M, 0, none⟩) n C) W1 := by rw [HEX.out]; exact hcv0
  have hmn : Builtin.min_ #[3, 3] 3 #[.int .i64 (m : Int), .int .i64 128] = pure (.int .i64 (n : Int)) := by
    have q := HMin.out
    have e : (if (128 : Int) < (m : Int) then (128 : Int) else (m : Int)) = (n : Int) := by split <;> omega
    rw [← e]
    simp [Builtin.min_, Builtin.min2]
  have hnm : n ≤ m := by have := HMin.out; omega
  have hnm' : (n : Int) ≤ (m : Int) := by omega
  have hn0 : (0 : Int) ≤ (n : Int) := by omega
  clear hb hr hM hn hS hy hyl hpl hcv0 hm
  go_enter Try.func14, Try.ntmps14
  go_wp2_with fail
  go_loopw [14] (fun iv wr => ∃ i : Nat, iv = .int .i64 i ∧ i ≤ n ∧ ByR wr M (mixF plnF y i) ∧ Below M w wr) (fun iv _ => n - (intOf iv).toNat)
  case atStart => exact ⟨0, rfl, Nat.zero_le _, by rw [mixF_zero]; exact HR.out, HB.out⟩
  case round =>
    obtain ⟨i, rfl, hi, hr, hbw⟩ := hrel
    have HRW := Lib.hid hr
    have HBW := Lib.hid hbw
    clear hr hbw
    by_cases hlt : i < n
    · obtain ⟨c, hc⟩ : ∃ c, y[i]? = some c := ⟨_, List.getElem?_eq_getElem (by rw [HN.out]; exact hlt)⟩
      obtain ⟨c0, f0⟩ := HRW.out.2 i c (mixF_at hc)
      have HST := Lib.hid (mixF_set (f := plnF) hc)
      have HSK := Lib.hid (fun h => mixF_skip (f := plnF) hc h)
      have HSZ : Hid (i < (mixF plnF y i).length) := by unfold Hid; rw [mixF_len, HN.out]; exact hlt
      obtain ⟨k, hk⟩ : ∃ k, c.toNat = k := ⟨_, rfl⟩
      have HK := Lib.hid hk
      rw [hk] at c0
      have hlt' : (i : Int) < (n : Int) := by omega
      have hi0 : (0 : Int) ≤ (i : Int) := by omega
      clear hc hk
      by_cases h : k < 32 ∨ 126 < k
      · have HL : Hid ((plnB c).toNat = 46) := by unfold Hid; rw [plnB_toNat, HK.out]; unfold plnN; rw [if_pos h]
        by_cases h3 : k < 32
        · have h1 : (k : Int) < 32 := by omega
          clear h
          go_wp2
          go_roundw
          case rel => exact ⟨i + 1, by go_num, hlt, by rw [← HST.out]; show ByR _ M (List.set _ i (plnB c)); have q := HRW.out.set HSZ.out (plnB c); rw [HL.out] at q; exact q, HBW.out.setCell (Nat.le_refl _) _⟩
          case measure => simp only [intOf]; omega
        · have h4 : 126 < k := h.resolve_left h3
          have h1 : ¬ (k : Int) < 32 := by omega
          have h2 : (126 : Int) < (k : Int) := by omega
          clear h
          go_wp2
          go_roundw
          case rel => exact ⟨i + 1, by go_num, hlt, by rw [← HST.out]; show ByR _ M (List.set _ i (plnB c)); have q := HRW.out.set HSZ.out (plnB c); rw [HL.out] at q; exact q, HBW.out.setCell (Nat.le_refl _) _⟩
          case measure => simp only [intOf]; omega
      · have HL : Hid (plnB c = c) := by
          unfold Hid
          apply UInt8.toNat_inj.1
          rw [plnB_toNat, HK.out]
          unfold plnN
          rw [if_neg h]
        have h3 : ¬ k < 32 := fun q => h (Or.inl q)
        have h4 : ¬ 126 < k := fun q => h (Or.inr q)
        have h1 : ¬ (k : Int) < 32 := by omega
        have h2 : ¬ (126 : Int) < (k : Int) := by omega
        clear h
        go_wp2
        go_roundw
        case rel => exact ⟨i + 1, by go_num, hlt, by rw [HSK.out HL.out]; exact HRW.out, HBW.out⟩
        case measure => simp only [intOf]; omega
    · obtain rfl : i = n := by omega
      have HT : Hid (ByR wr M (y.map plnB)) := by
        have q := HRW.out
        rw [mixF_all plnF y (by rw [HN.out]; exact Nat.le_refl _), plnF_all] at q
        exact q
      have hback := row_text wr M i C (y.map plnB) HT.out (by rw [List.length_map, HN.out])
      have hlt' : ¬ (i : Int) < (i : Int) := by omega
      go_wp2
      go_ret
      exact ⟨rfl, HBW.out⟩

set_option maxRecDepth 100000 in
set_option maxHeartbeats 8000000 in
theorem rplain_big (x : Tx) (hxb : 128 < x.length) (hx : x.length ≤ 4611686018427387904) (w : World) : Calls Try.prog 15 #[.string ⟨x.toArray⟩] w fun e w' => e = .returned (.string ⟨(plnL x).toArray⟩) ∧ Below w.heap.size w w' := by
  obtain ⟨S, hS⟩ : ∃ S : ByteArray, (⟨x.toArray⟩ : ByteArray) = S := ⟨_, rfl⟩
  obtain ⟨m, hm⟩ : ∃ m, x.length = m := ⟨_, rfl⟩
  have hSm : S.size = m := by rw [← hS, ← hm]; exact List.size_toArray ..
  obtain ⟨y, hy⟩ : ∃ y, x.take 128 = y := ⟨_, rfl⟩
  have hyl : y.length = min 128 m := by rw [← hy, List.length_take, hm]
  have hpl : plnL x = y.map plnB := by unfold plnL; rw [hy]
  rw [hpl]
  obtain ⟨C, W1, hcv0, hb, hr, hC, hC2⟩ := text_row w y (by omega)
  obtain ⟨M, hM⟩ : ∃ M, w.heap.size = M := ⟨_, rfl⟩
  obtain ⟨n, hn⟩ : ∃ n, y.length = n := ⟨_, rfl⟩
  rw [hM] at hcv0 hb hr
  rw [hn] at hcv0 hC
  rw [hM, hS]
  have HB := Lib.hid hb
  have HR := Lib.hid hr
  have HN := Lib.hid hn
  have HMin : Hid (n = min 128 m) := by unfold Hid; rw [← hn, hyl]
  have HSM := Lib.hid hSm
  have hn7 : n ≤ 128 := by have := HMin.out; omega
  have HEX : Hid (S.extract 0 n = ⟨y.toArray⟩) := by
    unfold Hid
    rw [← hS, ext_take, ← hy, HMin.out]
    congr 2
    rcases Nat.le_total m 128 with q | q
    · rw [Nat.min_eq_right q, ← hm, List.take_length, List.take_of_length_le (by omega)]
    · rw [Nat.min_eq_left q]
  have hbig : 128 < m := by omega
  have hbig' : (128 : Int) < (m : Int) := by omega
  have hbl' : (128 : Int) ≤ (m : Int) := by omega
  obtain rfl : n = 128 := by have := HMin.out; omega
  have hcv : (convert 9 48 (.string (S.extract 0 128))).run Try.prog w = .ok (.slice (some ⟨M, 0, none⟩) 128 C) W1 := by rw [HEX.out]; exact hcv0
  clear hb hr hM hn hS hy hyl hpl hcv0 hm hxb
  go_enter Try.func15, Try.ntmps15
  go_wp2_with fail
  go_loopw [4] (fun iv wr => ∃ i : Nat, iv = .int .i64 i ∧ i ≤ 128 ∧ ByR wr M (mixF plnF y i) ∧ Below M w wr) (fun iv _ => 128 - (intOf iv).toNat)
  case atStart => exact ⟨0, rfl, Nat.zero_le _, by rw [mixF_zero]; exact HR.out, HB.out⟩
  case round =>
    obtain ⟨i, rfl, hi, hr, hbw⟩ := hrel
    have HRW := Lib.hid hr
    have HBW := Lib.hid hbw
    clear hr hbw
    by_cases hlt : i < 128
    · obtain ⟨c, hc⟩ : ∃ c, y[i]? = some c := ⟨_, List.getElem?_eq_getElem (by rw [HN.out]; exact hlt)⟩
      obtain ⟨c0, f0⟩ := HRW.out.2 i c (mixF_at hc)
      have HST := Lib.hid (mixF_set (f := plnF) hc)
      have HSK := Lib.hid (fun h => mixF_skip (f := plnF) hc h)
      have HSZ : Hid (i < (mixF plnF y i).length) := by unfold Hid; rw [mixF_len, HN.out]; exact hlt
      obtain ⟨k, hk⟩ : ∃ k, c.toNat = k := ⟨_, rfl⟩
      have HK := Lib.hid hk
      rw [hk] at c0
      have hlt' : (i : Int) < 128 := by omega
      have hi0 : (0 : Int) ≤ (i : Int) := by omega
      clear hc hk
      by_cases h : k < 32 ∨ 126 < k
      · have HL : Hid ((plnB c).toNat = 46) := by unfold Hid; rw [plnB_toNat, HK.out]; unfold plnN; rw [if_pos h]
        by_cases h3 : k < 32
        · have h1 : (k : Int) < 32 := by omega
          clear h
          go_wp2
          go_roundw
          case rel => exact ⟨i + 1, by go_num, hlt, by rw [← HST.out]; show ByR _ M (List.set _ i (plnB c)); have q := HRW.out.set HSZ.out (plnB c); rw [HL.out] at q; exact q, HBW.out.setCell (Nat.le_refl _) _⟩
          case measure => simp only [intOf]; omega
        · have h4 : 126 < k := h.resolve_left h3
          have h1 : ¬ (k : Int) < 32 := by omega
          have h2 : (126 : Int) < (k : Int) := by omega
          clear h
          go_wp2
          go_roundw
          case rel => exact ⟨i + 1, by go_num, hlt, by rw [← HST.out]; show ByR _ M (List.set _ i (plnB c)); have q := HRW.out.set HSZ.out (plnB c); rw [HL.out] at q; exact q, HBW.out.setCell (Nat.le_refl _) _⟩
          case measure => simp only [intOf]; omega
      · have HL : Hid (plnB c = c) := by
          unfold Hid
          apply UInt8.toNat_inj.1
          rw [plnB_toNat, HK.out]
          unfold plnN
          rw [if_neg h]
        have h3 : ¬ k < 32 := fun q => h (Or.inl q)
        have h4 : ¬ 126 < k := fun q => h (Or.inr q)
        have h1 : ¬ (k : Int) < 32 := by omega
        have h2 : ¬ (126 : Int) < (k : Int) := by omega
        clear h
        go_wp2
        go_roundw
        case rel => exact ⟨i + 1, by go_num, hlt, by rw [HSK.out HL.out]; exact HRW.out, HBW.out⟩
        case measure => simp only [intOf]; omega
    · obtain rfl : i = 128 := by omega
      have HT : Hid (ByR wr M (y.map plnB)) := by
        have q := HRW.out
        rw [mixF_all plnF y (by rw [HN.out]; exact Nat.le_refl _), plnF_all] at q
        exact q
      have hback := row_text wr M 128 C (y.map plnB) HT.out (by rw [List.length_map, HN.out])
      have hlt' : ¬ (128 : Int) < (128 : Int) := by omega
      go_wp2
      go_ret
      exact ⟨rfl, HBW.out⟩

set_option maxRecDepth 100000 in
set_option maxHeartbeats 8000000 in
theorem rplain_small (x : Tx) (hxb : x.length ≤ 128) (w : World) : Calls Try.prog 15 #[.string ⟨x.toArray⟩] w fun e w' => e = .returned (.string ⟨(plnL x).toArray⟩) ∧ Below w.heap.size w w' := by
  obtain ⟨S, hS⟩ : ∃ S : ByteArray, (⟨x.toArray⟩ : ByteArray) = S := ⟨_, rfl⟩
  obtain ⟨m, hm⟩ : ∃ m, x.length = m := ⟨_, rfl⟩
  have hSm : S.size = m := by rw [← hS, ← hm]; exact List.size_toArray ..
  obtain ⟨y, hy⟩ : ∃ y, x.take 128 = y := ⟨_, rfl⟩
  have hyl : y.length = min 128 m := by rw [← hy, List.length_take, hm]
  have hpl : plnL x = y.map plnB := by unfold plnL; rw [hy]
  rw [hpl]
  obtain ⟨C, W1, hcv0, hb, hr, hC, hC2⟩ := text_row w y (by omega)
  obtain ⟨M, hM⟩ : ∃ M, w.heap.size = M := ⟨_, rfl⟩
  obtain ⟨n, hn⟩ : ∃ n, y.length = n := ⟨_, rfl⟩
  rw [hM] at hcv0 hb hr
  rw [hn] at hcv0 hC
  rw [hM, hS]
  have HB := Lib.hid hb
  have HR := Lib.hid hr
  have HN := Lib.hid hn
  have HMin : Hid (n = min 128 m) := by unfold Hid; rw [← hn, hyl]
  have HSM := Lib.hid hSm
  have hn7 : n ≤ 128 := by have := HMin.out; omega
  have HEX : Hid (S.extract 0 n = ⟨y.toArray⟩) := by
    unfold Hid
    rw [← hS, ext_take, ← hy, HMin.out]
    congr 2
    rcases Nat.le_total m 128 with q | q
    · rw [Nat.min_eq_right q, ← hm, List.take_length, List.take_of_length_le (by omega)]
    · rw [Nat.min_eq_left q]
  have hbig : ¬ 128 < m := by omega
  have hbig' : ¬ (128 : Int) < (m : Int) := by omega
  have hyS : (⟨y.toArray⟩ : ByteArray) = S := by rw [← hy, List.take_of_length_le hxb, hS]
  have hcv : (convert 9 48 (.string S)).run Try.prog w = .ok (.slice (some ⟨M, 0, none⟩) n C) W1 := by rw [← hyS]; exact hcv0
  clear hb hr hM hn hS hy hyl hpl hcv0 hm hxb hyS
  go_enter Try.func15, Try.ntmps15
  go_wp2_with fail
  go_loopw [4] (fun iv wr => ∃ i : Nat, iv = .int .i64 i ∧ i ≤ n ∧ ByR wr M (mixF plnF y i) ∧ Below M w wr) (fun iv _ => n - (intOf iv).toNat)
  case atStart => exact ⟨0, rfl, Nat.zero_le _, by rw [mixF_zero]; exact HR.out, HB.out⟩
  case round =>
    obtain ⟨i, rfl, hi, hr, hbw⟩ := hrel
    have HRW := Lib.hid hr
    have HBW := Lib.hid hbw
    clear hr hbw
    by_cases hlt : i < n
    · obtain ⟨c, hc⟩ : ∃ c, y[i]? = some c := ⟨_, List.getElem?_eq_getElem (by rw [HN.out]; exact hlt)⟩
      obtain ⟨c0, f0⟩ := HRW.out.2 i c (mixF_at hc)
      have HST := Lib.hid (mixF_set (f := plnF) hc)
      have HSK := Lib.hid (fun h => mixF_skip (f := plnF) hc h)
      have HSZ : Hid (i < (mixF plnF y i).length) := by unfold Hid; rw [mixF_len, HN.out]; exact hlt
      obtain ⟨k, hk⟩ : ∃ k, c.toNat = k := ⟨_, rfl⟩
      have HK := Lib.hid hk
      rw [hk] at c0
      have hlt' : (i : Int) < (n : Int) := by omega
      have hi0 : (0 : Int) ≤ (i : Int) := by omega
      clear hc hk
      by_cases h : k < 32 ∨ 126 < k
      · have HL : Hid ((plnB c).toNat = 46) := by unfold Hid; rw [plnB_toNat, HK.out]; unfold plnN; rw [if_pos h]
        by_cases h3 : k < 32
        · have h1 : (k : Int) < 32 := by omega
          clear h
          go_wp2
          go_roundw
          case rel => exact ⟨i + 1, by go_num, hlt, by rw [← HST.out]; show ByR _ M (List.set _ i (plnB c)); have q := HRW.out.set HSZ.out (plnB c); rw [HL.out] at q; exact q, HBW.out.setCell (Nat.le_refl _) _⟩
          case measure => simp only [intOf]; omega
        · have h4 : 126 < k := h.resolve_left h3
          have h1 : ¬ (k : Int) < 32 := by omega
          have h2 : (126 : Int) < (k : Int) := by omega
          clear h
          go_wp2
          go_roundw
          case rel => exact ⟨i + 1, by go_num, hlt, by rw [← HST.out]; show ByR _ M (List.set _ i (plnB c)); have q := HRW.out.set HSZ.out (plnB c); rw [HL.out] at q; exact q, HBW.out.setCell (Nat.le_refl _) _⟩
          case measure => simp only [intOf]; omega
      · have HL : Hid (plnB c = c) := by
          unfold Hid
          apply UInt8.toNat_inj.1
          rw [plnB_toNat, HK.out]
          unfold plnN
          rw [if_neg h]
        have h3 : ¬ k < 32 := fun q => h (Or.inl q)
        have h4 : ¬ 126 < k := fun q => h (Or.inr q)
        have h1 : ¬ (k : Int) < 32 := by omega
        have h2 : ¬ (126 : Int) < (k : Int) := by omega
        clear h
        go_wp2
        go_roundw
        case rel => exact ⟨i + 1, by go_num, hlt, by rw [HSK.out HL.out]; exact HRW.out, HBW.out⟩
        case measure => simp only [intOf]; omega
    · obtain rfl : i = n := by omega
      have HT : Hid (ByR wr M (y.map plnB)) := by
        have q := HRW.out
        rw [mixF_all plnF y (by rw [HN.out]; exact Nat.le_refl _), plnF_all] at q
        exact q
      have hback := row_text wr M i C (y.map plnB) HT.out (by rw [List.length_map, HN.out])
      have hlt' : ¬ (i : Int) < (i : Int) := by omega
      go_wp2
      go_ret
      exact ⟨rfl, HBW.out⟩

theorem rplain_any (x : Tx) (hx : x.length ≤ 4611686018427387904) (w : World) : Calls Try.prog 15 #[.string ⟨x.toArray⟩] w fun e w' => e = .returned (.string ⟨(plnL x).toArray⟩) ∧ Below w.heap.size w w' := by
  rcases Nat.lt_or_ge 128 x.length with h | h
  · exact rplain_big x h hx w
  · exact rplain_small x h w

set_option maxRecDepth 100000 in
set_option maxHeartbeats 4000000 in
theorem cut_any (x : Tx) (w : World) : Calls Try.prog 7 #[.string ⟨x.toArray⟩] w fun e w' => e = .returned (.string ⟨(x.take 1000).toArray⟩) ∧ w' = w := by
  obtain ⟨S, hS⟩ : ∃ S : ByteArray, (⟨x.toArray⟩ : ByteArray) = S := ⟨_, rfl⟩
  obtain ⟨m, hm⟩ : ∃ m, x.length = m := ⟨_, rfl⟩
  have hSm : S.size = m := by rw [← hS, ← hm]; exact List.size_toArray ..
  have HEX : Hid (S.extract 0 1000 = ⟨(x.take 1000).toArray⟩) := by unfold Hid; rw [← hS, ext_take]
  have HSS := Lib.hid hS
  have HSM := Lib.hid hSm
  have HML := Lib.hid hm
  rw [hS]
  clear hS hm
  by_cases h : 1000 < m
  · have h1 : (1000 : Int) < (m : Int) := by omega
    have h2 : (1000 : Int) ≤ (m : Int) := by omega
    go_enter Try.func7, Try.ntmps7
    go_wp2
    go_ret
    exact ⟨by rw [← HEX.out]; rfl, rfl⟩
  · have h1 : ¬ (1000 : Int) < (m : Int) := by omega
    have HTT : Hid (S = ⟨(x.take 1000).toArray⟩) := by unfold Hid; rw [List.take_of_length_le (by have := HML.out; omega), HSS.out]
    go_enter Try.func7, Try.ntmps7
    go_wp2
    go_ret
    exact ⟨by rw [← HTT.out]; rfl, rfl⟩

end Go.Proofs.Ytinpimejiepahaa
