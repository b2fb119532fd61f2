/-
  The walks of Parse and of the document's own Parse. Conditions: the text is a text (no longer than the model lets any text be).
-/
import Derived.Test.YtkaododohnncnaaRet
import Derived.Test.YtkaododohnncnaaNumM
import Derived.Lib.Hide
import Derived.Lib.OthersKept
import Derived.Lib.VarintMem
import Derived.Laws.RangeAny
namespace Go.Proofs.Ytkaododohnncnaa
open Go.RowKit

set_option maxHeartbeats 400000 in
theorem refDigit_yes (c : Int) (w : World) (h0 : 48 ≤ c) (h1 : c ≤ 57) :
    Calls Try.prog 37 #[.int .u8 c] w fun e w' => e = .returned (.bool true) ∧ w = w' := by
  go_enter Try.func37, Try.ntmps37
  go_wp2
  go_ret
  exact ⟨by first | rfl | (simp; omega), rfl⟩
set_option maxHeartbeats 400000 in
theorem refDigit_no (c : Int) (w : World) (h : c < 48 ∨ 57 < c) :
    Calls Try.prog 37 #[.int .u8 c] w fun e w' => e = .returned (.bool false) ∧ w = w' := by
  by_cases a : 48 ≤ c
  all_goals
    go_enter Try.func37, Try.ntmps37
    go_wp2
    go_ret
    exact ⟨by first | rfl | (simp; omega), rfl⟩

theorem toList_nil (s : ByteArray) (h : s.size = 0) : s.toList = [] ∧ s.toList.isEmpty = true ∧ s.data.toList = [] := by
  have : s = ByteArray.empty := by
    apply ByteArray.ext
    exact Array.eq_empty_of_size_eq_zero h
  subst this
  refine ⟨by rw [ByteArray.toList_eq]; rfl, by rw [ByteArray.toList_eq]; rfl, rfl⟩
theorem toList_cons (s : ByteArray) (h : 0 < s.size) : ¬ s.toList = [] ∧ s.toList.isEmpty = false ∧ (!s.toList.isEmpty) = true ∧ s.data.toList = (s[0]'h) :: s.data.toList.tail := by
  have hl : s.data.toList.length = s.size := Array.length_toList
  have e : ¬ s.toList = [] := by
    rw [ByteArray.toList_eq]
    intro e
    rw [e] at hl
    exact absurd hl (by show ¬ 0 = s.size; omega)
  have e2 : s.toList.isEmpty = false := by
    cases hx : s.toList with
    | nil => exact absurd hx e
    | cons _ _ => rfl
  refine ⟨e, e2, by rw [e2]; rfl, ?_⟩
  cases hd : s.data.toList with
  | nil => rw [hd] at hl; exact absurd hl (by show ¬ 0 = s.size; omega)
  | cons c r =>
    have : s[0]'h = s.data.toList[0]'(by rw [hl]; exact h) := rfl
    rw [this]
    simp only [hd, List.getElem_cons_zero, List.tail_cons]

theorem digs_step (t : ByteArray) (k : Nat) (n : Int) (h : k < t.size) :
    digs (t.data.toList.drop k) n = if 48 ≤ (t[k]'h).toNat ∧ (t[k]'h).toNat ≤ 57 ∧ -9223372036854775808 ≤ n * 10 - (((t[k]'h).toNat : Int) - 48) then digs (t.data.toList.drop (k + 1)) (n * 10 - (((t[k]'h).toNat : Int) - 48)) else none := by
  have hl : k < t.data.toList.length := by rw [Array.length_toList]; exact h
  rw [List.drop_eq_getElem_cons hl, digs]
  rfl
theorem digs_end (t : ByteArray) (n : Int) : digs (t.data.toList.drop t.size) n = some n := by
  rw [List.drop_eq_nil_of_le (by rw [Array.length_toList]; exact Nat.le_refl _)]
  rfl
theorem extract_tail (s : ByteArray) : (s.extract 1 s.size).data.toList = s.data.toList.tail := by
  have hl : s.data.toList.length = s.size := Array.length_toList
  rw [ByteArray.data_extract, Array.toList_extract, List.extract_eq_take_drop, ← hl, List.take_of_length_le (by rw [List.length_drop]; exact Nat.le_refl _), List.drop_one]

set_option maxHeartbeats 400000 in
theorem refParse_nil (s : ByteArray) (w : World) (hs : s.size = 0) :
    Calls Try.prog 26 #[.string s] w fun e w' => e = .returned (.tuple #[.int .i64 (valV (parseV s.data.toList)), .int .i64 (errV (parseV s.data.toList))]) ∧ w = w' := by
  obtain ⟨h1, h2, h3⟩ := toList_nil s hs
  have HE : Hid (parseV s.data.toList = none) := by unfold Hid; rw [h3]; rfl
  clear h3
  go_enter Try.func26, Try.ntmps26
  go_wp2
  go_ret2
  exact ⟨ret_two (by rw [HE.out]; rfl) (by rw [HE.out]; rfl), rfl⟩

set_option maxHeartbeats 1000000 in
theorem refParse_plain (s : ByteArray) (w : World) (hs : s.size ≤ 9223372036854775807) (h0 : 0 < s.size) (hm : (s[0]'h0).toNat ≠ 45) (hz : ¬ ((s[0]'h0).toNat = 48 ∧ 1 < s.size)) :
    Calls Try.prog 26 #[.string s] w fun e w' => e = .returned (.tuple #[.int .i64 (valV (parseV s.data.toList)), .int .i64 (errV (parseV s.data.toList))]) ∧ w = w' := by
  obtain ⟨g1, g2, g3, g4⟩ := toList_cons s h0
  obtain ⟨c0, hc0⟩ : ∃ c : Nat, (s[0]'h0).toNat = c := ⟨_, rfl⟩
  rw [hc0] at hm hz
  have HR : Hid (parseV s.data.toList = endV false (digs s.data.toList 0)) := by
    unfold Hid parseV
    rw [if_neg (by
      rw [g4]; simp only [List.head?_cons, Option.some.injEq]
      intro e; rw [e] at hc0; exact hm hc0.symm), if_neg (by
      rw [g4]; simp only [List.head?_cons, Option.some.injEq]
      rintro (h | ⟨e, h⟩)
      · cases h
      · rw [e] at hc0
        refine hz ⟨hc0.symm, ?_⟩
        have hl : s.data.toList.length = s.size := Array.length_toList
        rw [g4] at hl
        omega)]
  have hb45 : ((c0 : Int) == 45) = false := by rw [beq_eq_false_iff_ne]; omega
  clear g4
  by_cases h48 : c0 = 48
  · have h1s : s.size = 1 := by omega
    subst h48
    have hb48 : (((48 : Nat) : Int) == 48) = true := by decide
    have hs1 : ¬ 1 < s.size := by omega
    have hs2 : s.size ≤ 1 := by omega
    clear h1s hz hm
    go_enter Try.func26, Try.ntmps26
    go_wp2
    go_loop [6, 7, 8] (fun n i _ => ∃ (k : Nat) (m : Int), k ≤ s.size ∧ i = .int .i64 k ∧ n = .int .i64 m ∧ -9223372036854775808 ≤ m ∧ m ≤ 0 ∧ Hid (parseV s.data.toList = endV false (digs (s.data.toList.drop k) m))) (fun _ i _ => s.size - (intOf i).toNat)
    case atStart => exact ⟨0, 0, by omega, rfl, rfl, by omega, by omega, HR.out⟩
    case round =>
      obtain ⟨k, m, hk, rfl, rfl, hm0, hm1, HG⟩ := hrel
      by_cases hlt : k < s.size
      · have HST := Lib.hid (digs_step s k m hlt)
        obtain ⟨c, hc⟩ : ∃ c : Nat, (s[k]'hlt).toNat = c := ⟨_, rfl⟩
        rw [hc] at HST
        have hc255 : c < 256 := by rw [← hc]; exact UInt8.toNat_lt _
        by_cases hd : 48 ≤ c ∧ c ≤ 57
        · obtain ⟨hd0, hd1⟩ := hd
          have hT := test_div m ((c : Int) - 48) (by omega) (by omega)
          by_cases hf : m * 10 - ((c : Int) - 48) < -9223372036854775808
          · have ht : m < (-9223372036854775808 + ((c : Int) - 48)).tdiv 10 := hT.2 hf
            have HF := Lib.hid hf
            clear hT hf
            have hE : parseV s.data.toList = none := by
              rw [HG.out, HST.out, if_neg (by have := HF.out; omega)]; rfl
            have HE := Lib.hid hE
            clear hE
            go_wp2_with (go_at_call 37; refine (refDigit_yes _ _ (by omega) (by omega)).mono ?_; rintro e w' ⟨rfl, rfl⟩)
            go_ret2
            exact ⟨ret_two (by rw [HE.out]; rfl) (by rw [HE.out]; rfl), rfl⟩
          · have ht : ¬ m < (-9223372036854775808 + ((c : Int) - 48)).tdiv 10 := fun e => hf (hT.1 e)
            have HF := Lib.hid hf
            clear hT
            have hE : parseV s.data.toList = endV false (digs (s.data.toList.drop (k + 1)) (m * 10 - ((c : Int) - 48))) := by
              rw [HG.out, HST.out, if_pos ⟨hd0, hd1, by omega⟩]
            have HE := Lib.hid hE
            clear hE
            have hf0 : -9223372036854775808 ≤ m * 10 - ((c : Int) - 48) := by omega
            clear hf
            go_wp2_with (go_at_call 37; refine (refDigit_yes _ _ (by omega) (by omega)).mono ?_; rintro e w' ⟨rfl, rfl⟩)
            go_round
            case rel => exact ⟨k + 1, m * 10 - ((c : Int) - 48), by omega, by go_num, by first | rfl | go_num, by omega, by omega, HE.out⟩
            case measure => simp [intOf]; omega
        · have hE : parseV s.data.toList = none := by
            rw [HG.out, HST.out, if_neg (by omega)]; rfl
          have HE := Lib.hid hE
          clear hE
          go_wp2_with (go_at_call 37; refine (refDigit_no _ _ (by omega)).mono ?_; rintro e w' ⟨rfl, rfl⟩)
          go_ret2
          exact ⟨ret_two (by rw [HE.out]; rfl) (by rw [HE.out]; rfl), rfl⟩
      · have hk' : k = s.size := by omega
        have HK := Lib.hid hk'
        have e := HG.out
        rw [hk', digs_end] at e
        clear hk'
        have HE := Lib.hid e
        clear e
        by_cases hL : m = -9223372036854775808
        · have HL := Lib.hid hL
          have hLb : (m == -9223372036854775808) = true := by simpa using hL
          clear hL
          go_wp2
          go_ret2
          exact ⟨ret_two (by rw [HE.out, endV, if_neg (by decide), if_pos HL.out]; rfl) (by rw [HE.out, endV, if_neg (by decide), if_pos HL.out]; rfl), rfl⟩
        · have HL := Lib.hid hL
          have hLb : (m == -9223372036854775808) = false := by simpa using hL
          go_wp2
          go_ret2
          exact ⟨ret_two (by rw [HE.out, endV, if_neg (by decide), if_neg HL.out]; rfl) (by rw [HE.out, endV, if_neg (by decide), if_neg HL.out]; rfl), rfl⟩
  · have hb48 : ((c0 : Int) == 48) = false := by rw [beq_eq_false_iff_ne]; omega
    clear hz
    go_enter Try.func26, Try.ntmps26
    go_wp2
    go_loop [6, 7, 8] (fun n i _ => ∃ (k : Nat) (m : Int), k ≤ s.size ∧ i = .int .i64 k ∧ n = .int .i64 m ∧ -9223372036854775808 ≤ m ∧ m ≤ 0 ∧ Hid (parseV s.data.toList = endV false (digs (s.data.toList.drop k) m))) (fun _ i _ => s.size - (intOf i).toNat)
    case atStart => exact ⟨0, 0, by omega, rfl, rfl, by omega, by omega, HR.out⟩
    case round =>
      obtain ⟨k, m, hk, rfl, rfl, hm0, hm1, HG⟩ := hrel
      by_cases hlt : k < s.size
      · have HST := Lib.hid (digs_step s k m hlt)
        obtain ⟨c, hc⟩ : ∃ c : Nat, (s[k]'hlt).toNat = c := ⟨_, rfl⟩
        rw [hc] at HST
        have hc255 : c < 256 := by rw [← hc]; exact UInt8.toNat_lt _
        by_cases hd : 48 ≤ c ∧ c ≤ 57
        · obtain ⟨hd0, hd1⟩ := hd
          have hT := test_div m ((c : Int) - 48) (by omega) (by omega)
          by_cases hf : m * 10 - ((c : Int) - 48) < -9223372036854775808
          · have ht : m < (-9223372036854775808 + ((c : Int) - 48)).tdiv 10 := hT.2 hf
            have HF := Lib.hid hf
            clear hT hf
            have hE : parseV s.data.toList = none := by
              rw [HG.out, HST.out, if_neg (by have := HF.out; omega)]; rfl
            have HE := Lib.hid hE
            clear hE
            go_wp2_with (go_at_call 37; refine (refDigit_yes _ _ (by omega) (by omega)).mono ?_; rintro e w' ⟨rfl, rfl⟩)
            go_ret2
            exact ⟨ret_two (by rw [HE.out]; rfl) (by rw [HE.out]; rfl), rfl⟩
          · have ht : ¬ m < (-9223372036854775808 + ((c : Int) - 48)).tdiv 10 := fun e => hf (hT.1 e)
            have HF := Lib.hid hf
            clear hT
            have hE : parseV s.data.toList = endV false (digs (s.data.toList.drop (k + 1)) (m * 10 - ((c : Int) - 48))) := by
              rw [HG.out, HST.out, if_pos ⟨hd0, hd1, by omega⟩]
            have HE := Lib.hid hE
            clear hE
            have hf0 : -9223372036854775808 ≤ m * 10 - ((c : Int) - 48) := by omega
            clear hf
            go_wp2_with (go_at_call 37; refine (refDigit_yes _ _ (by omega) (by omega)).mono ?_; rintro e w' ⟨rfl, rfl⟩)
            go_round
            case rel => exact ⟨k + 1, m * 10 - ((c : Int) - 48), by omega, by go_num, by first | rfl | go_num, by omega, by omega, HE.out⟩
            case measure => simp [intOf]; omega
        · have hE : parseV s.data.toList = none := by
            rw [HG.out, HST.out, if_neg (by omega)]; rfl
          have HE := Lib.hid hE
          clear hE
          go_wp2_with (go_at_call 37; refine (refDigit_no _ _ (by omega)).mono ?_; rintro e w' ⟨rfl, rfl⟩)
          go_ret2
          exact ⟨ret_two (by rw [HE.out]; rfl) (by rw [HE.out]; rfl), rfl⟩
      · have hk' : k = s.size := by omega
        have HK := Lib.hid hk'
        have e := HG.out
        rw [hk', digs_end] at e
        clear hk'
        have HE := Lib.hid e
        clear e
        by_cases hL : m = -9223372036854775808
        · have HL := Lib.hid hL
          have hLb : (m == -9223372036854775808) = true := by simpa using hL
          clear hL
          go_wp2
          go_ret2
          exact ⟨ret_two (by rw [HE.out, endV, if_neg (by decide), if_pos HL.out]; rfl) (by rw [HE.out, endV, if_neg (by decide), if_pos HL.out]; rfl), rfl⟩
        · have HL := Lib.hid hL
          have hLb : (m == -9223372036854775808) = false := by simpa using hL
          go_wp2
          go_ret2
          exact ⟨ret_two (by rw [HE.out, endV, if_neg (by decide), if_neg HL.out]; rfl) (by rw [HE.out, endV, if_neg (by decide), if_neg HL.out]; rfl), rfl⟩

set_option maxHeartbeats 1000000 in
theorem refParse_minus (s : ByteArray) (w : World) (hs : s.size ≤ 9223372036854775807) (h0 : 0 < s.size) (hm : (s[0]'h0).toNat = 45) :
    Calls Try.prog 26 #[.string s] w fun e w' => e = .returned (.tuple #[.int .i64 (valV (parseV s.data.toList)), .int .i64 (errV (parseV s.data.toList))]) ∧ w = w' := by
  obtain ⟨g1, g2, g3, g4⟩ := toList_cons s h0
  obtain ⟨t, ht⟩ : ∃ t, s.extract 1 s.size = t := ⟨_, rfl⟩
  have hts : t.size = s.size - 1 := by rw [← ht, ByteArray.size_extract]; omega
  have htl : t.data.toList = s.data.toList.tail := by rw [← ht]; exact extract_tail s
  have hh : s.data.toList.head? = some 45 := by
    rw [g4, List.head?_cons]
    congr 1
    exact UInt8.toNat_inj.1 (by rw [hm]; rfl)
  have hp : parseV s.data.toList = if t.data.toList = [] ∨ t.data.toList.head? = some 48 then none else endV true (digs t.data.toList 0) := by
    unfold parseV; rw [if_pos hh, ← htl]
  have htsz : t.size ≤ 9223372036854775807 := by omega
  have HTS := Lib.hid hts
  clear hts htl hh g4
  by_cases h1 : t.size = 0
  · obtain ⟨k1, k2, k3⟩ := toList_nil t h1
    have HE : Hid (parseV s.data.toList = none) := by unfold Hid; rw [hp, if_pos (Or.inl k3)]
    clear hp k3
    go_enter Try.func26, Try.ntmps26
    go_wp2
    go_ret2
    exact ⟨ret_two (by rw [HE.out]; rfl) (by rw [HE.out]; rfl), rfl⟩
  · have ht0 : 0 < t.size := by omega
    obtain ⟨k1, k2, k3, k4⟩ := toList_cons t ht0
    obtain ⟨c0, hc0⟩ : ∃ c : Nat, (t[0]'ht0).toNat = c := ⟨_, rfl⟩
    by_cases h48 : c0 = 48
    · subst h48
      have HE : Hid (parseV s.data.toList = none) := by
        unfold Hid
        rw [hp, if_pos (Or.inr (by rw [k4, List.head?_cons]; congr 1; exact UInt8.toNat_inj.1 (by rw [hc0]; rfl)))]
      clear hp k4
      go_enter Try.func26, Try.ntmps26
      go_wp2
      go_ret2
      exact ⟨ret_two (by rw [HE.out]; rfl) (by rw [HE.out]; rfl), rfl⟩
    · have hb48 : ((c0 : Int) == 48) = false := by rw [beq_eq_false_iff_ne]; omega
      have HR : Hid (parseV s.data.toList = endV true (digs t.data.toList 0)) := by
        unfold Hid
        rw [hp, if_neg (by
          rintro (h | h)
          · rw [k4] at h; cases h
          · rw [k4, List.head?_cons, Option.some.injEq] at h
            rw [h] at hc0
            exact h48 hc0.symm)]
      clear hp k4
      go_enter Try.func26, Try.ntmps26
      go_wp2
      go_loop [6, 7, 8] (fun n i _ => ∃ (k : Nat) (m : Int), k ≤ t.size ∧ i = .int .i64 k ∧ n = .int .i64 m ∧ -9223372036854775808 ≤ m ∧ m ≤ 0 ∧ Hid (parseV s.data.toList = endV true (digs (t.data.toList.drop k) m))) (fun _ i _ => t.size - (intOf i).toNat)
      case atStart => exact ⟨0, 0, by omega, rfl, rfl, by omega, by omega, HR.out⟩
      case round =>
        obtain ⟨k, m, hk, rfl, rfl, hm0, hm1, HG⟩ := hrel
        by_cases hlt : k < t.size
        · have HST := Lib.hid (digs_step t k m hlt)
          obtain ⟨c, hc⟩ : ∃ c : Nat, (t[k]'hlt).toNat = c := ⟨_, rfl⟩
          rw [hc] at HST
          have hc255 : c < 256 := by rw [← hc]; exact UInt8.toNat_lt _
          by_cases hd : 48 ≤ c ∧ c ≤ 57
          · obtain ⟨hd0, hd1⟩ := hd
            have hT := test_div m ((c : Int) - 48) (by omega) (by omega)
            by_cases hf : m * 10 - ((c : Int) - 48) < -9223372036854775808
            · have ht : m < (-9223372036854775808 + ((c : Int) - 48)).tdiv 10 := hT.2 hf
              have HF := Lib.hid hf
              clear hT hf
              have hE : parseV s.data.toList = none := by
                rw [HG.out, HST.out, if_neg (by have := HF.out; omega)]; rfl
              have HE := Lib.hid hE
              clear hE
              go_wp2_with (go_at_call 37; refine (refDigit_yes _ _ (by omega) (by omega)).mono ?_; rintro e w' ⟨rfl, rfl⟩)
              go_ret2
              exact ⟨ret_two (by rw [HE.out]; rfl) (by rw [HE.out]; rfl), rfl⟩
            · have ht : ¬ m < (-9223372036854775808 + ((c : Int) - 48)).tdiv 10 := fun e => hf (hT.1 e)
              have HF := Lib.hid hf
              clear hT
              have hE : parseV s.data.toList = endV true (digs (t.data.toList.drop (k + 1)) (m * 10 - ((c : Int) - 48))) := by
                rw [HG.out, HST.out, if_pos ⟨hd0, hd1, by omega⟩]
              have HE := Lib.hid hE
              clear hE
              have hf0 : -9223372036854775808 ≤ m * 10 - ((c : Int) - 48) := by omega
              clear hf
              go_wp2_with (go_at_call 37; refine (refDigit_yes _ _ (by omega) (by omega)).mono ?_; rintro e w' ⟨rfl, rfl⟩)
              go_round
              case rel => exact ⟨k + 1, m * 10 - ((c : Int) - 48), by omega, by go_num, by first | rfl | go_num, by omega, by omega, HE.out⟩
              case measure => simp [intOf]; omega
          · have hE : parseV s.data.toList = none := by
              rw [HG.out, HST.out, if_neg (by omega)]; rfl
            have HE := Lib.hid hE
            clear hE
            go_wp2_with (go_at_call 37; refine (refDigit_no _ _ (by omega)).mono ?_; rintro e w' ⟨rfl, rfl⟩)
            go_ret2
            exact ⟨ret_two (by rw [HE.out]; rfl) (by rw [HE.out]; rfl), rfl⟩
        · have hk' : k = t.size := by omega
          have HK := Lib.hid hk'
          have e := HG.out
          rw [hk', digs_end] at e
          clear hk'
          have HE := Lib.hid e
          clear e
          go_wp2
          go_ret2
          exact ⟨ret_two (by rw [HE.out]; rfl) (by rw [HE.out]; rfl), rfl⟩

set_option maxHeartbeats 1000000 in
theorem refParse_zeros (s : ByteArray) (w : World) (hs : s.size ≤ 9223372036854775807) (h0 : 0 < s.size) (h48 : (s[0]'h0).toNat = 48) (h1 : 1 < s.size) :
    Calls Try.prog 26 #[.string s] w fun e w' => e = .returned (.tuple #[.int .i64 (valV (parseV s.data.toList)), .int .i64 (errV (parseV s.data.toList))]) ∧ w = w' := by
  obtain ⟨g1, g2, g3, g4⟩ := toList_cons s h0
  have HE : Hid (parseV s.data.toList = none) := by
    have e : (s[0]'h0) = 48 := UInt8.toNat_inj.1 (by rw [h48]; rfl)
    unfold Hid parseV
    rw [if_neg (by rw [g4, e]; simp), if_pos (Or.inr ⟨by rw [g4, e]; rfl, by rw [Array.length_toList]; exact h1⟩)]
  clear g4
  go_enter Try.func26, Try.ntmps26
  go_wp2
  go_ret2
  exact ⟨ret_two (by rw [HE.out]; rfl) (by rw [HE.out]; rfl), rfl⟩

theorem refParse_all (s : ByteArray) (w : World) (hs : s.size ≤ 9223372036854775807) :
    Calls Try.prog 26 #[.string s] w fun e w' => e = .returned (.tuple #[.int .i64 (valV (parseV s.data.toList)), .int .i64 (errV (parseV s.data.toList))]) ∧ w = w' := by
  by_cases h0 : 0 < s.size
  · by_cases hm : (s[0]'h0).toNat = 45
    · exact refParse_minus s w hs h0 hm
    · by_cases hz : (s[0]'h0).toNat = 48 ∧ 1 < s.size
      · exact refParse_zeros s w hs h0 hz.1 hz.2
      · exact refParse_plain s w hs h0 hm hz
  · exact refParse_nil s w (by omega)

end Go.Proofs.Ytkaododohnncnaa
