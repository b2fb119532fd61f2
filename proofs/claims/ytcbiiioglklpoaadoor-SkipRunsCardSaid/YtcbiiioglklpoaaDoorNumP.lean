/-
  The walks of Parse and of the document's own Parse. Conditions: the text is a text (no longer than the model lets any text be). The walks of package number's digit. Condition: the argument is a number of its kind. The walk of package number's Parse: it answers what the document's own Parse answers (parseV). Conditions: the text is a text (no longer than the model lets any text be).
-/
import Derived.Test.YtcbiiioglklpoaaDoorRet
import Derived.Test.YtcbiiioglklpoaaDoorNumM
import Derived.Lib.Hide
import Derived.Lib.OthersKept
import Derived.Lib.VarintMem
import Derived.Laws.RangeAny
namespace Go.Proofs.YtcbiiioglklpoaaDoor
open Go.RowKit

set_option maxRecDepth 100000 in
set_option maxHeartbeats 400000 in
theorem refDigit_yes (c : Int) (w : World) (h0 : 48 ≤ c) (h1 : c ≤ 57) :
    Calls Tryd.prog 63 #[.int .u8 c] w fun e w' => e = .returned (.bool true) ∧ w = w' := by
  go_enter Tryd.func63, Tryd.ntmps63
  go_wp2
  go_ret
  exact ⟨by first | rfl | (simp; omega), rfl⟩
set_option maxRecDepth 100000 in
set_option maxHeartbeats 400000 in
theorem refDigit_no (c : Int) (w : World) (h : c < 48 ∨ 57 < c) :
    Calls Tryd.prog 63 #[.int .u8 c] w fun e w' => e = .returned (.bool false) ∧ w = w' := by
  by_cases a : 48 ≤ c
  all_goals
    go_enter Tryd.func63, Tryd.ntmps63
    go_wp2
    go_ret
    exact ⟨by first | rfl | (simp; omega), rfl⟩

theorem toList_nil (s : ByteArray) (h : s.size = 0) : s.toList = [] ∧ s.toList.isEmpty = true ∧ s.data.toList = [] := by
  have : s = ByteArray.empty := by
    apply ByteArray.ext
    exact Array.eq_empty_of_size_eq_zero h
  subst this
  refine ⟨by rw [ByteArray.toList_eq]; rfl, by rw [ByteArray.toList_eq]; rfl, rfl⟩
theorem toList_cons (s : ByteArray) (h : 0 < s.size) : ¬ s.toList = [] ∧ s.toList.isEmpty = false ∧ (!s.toList.isEmpty) = true ∧ s.data.toList = (s[0]'h) :: s.data.toList.tail := by
  have hl : s.data.toList.length = s.size := Array.length_toList
  have e : ¬ s.toList = [] := by
    rw [ByteArray.toList_eq]
    intro e
    rw [e] at hl
    exact absurd hl (by show ¬ 0 = s.size; omega)
  have e2 : s.toList.isEmpty = false := by
    cases hx : s.toList with
    | nil => exact absurd hx e
    | cons _ _ => rfl
  refine ⟨e, e2, by rw [e2]; rfl, ?_⟩
  cases hd : s.data.toList with
  | nil => rw [hd] at hl; exact absurd hl (by show ¬ 0 = s.size; omega)
  | cons c r =>
    have : s[0]'h = s.data.toList[0]'(by rw [hl]; exact h) := rfl
    rw [this]
    simp only [hd, List.getElem_cons_zero, List.tail_cons]

theorem digs_step (t : ByteArray) (k : Nat) (n : Int) (h : k < t.size) :
    digs (t.data.toList.drop k) n = if 48 ≤ (t[k]'h).toNat ∧ (t[k]'h).toNat ≤ 57 ∧ -9223372036854775808 ≤ n * 10 - (((t[k]'h).toNat : Int) - 48) then digs (t.data.toList.drop (k + 1)) (n * 10 - (((t[k]'h).toNat : Int) - 48)) else none := by
  have hl : k < t.data.toList.length := by rw [Array.length_toList]; exact h
  rw [List.drop_eq_getElem_cons hl, digs]
  rfl
theorem digs_end (t : ByteArray) (n : Int) : digs (t.data.toList.drop t.size) n = some n := by
  rw [List.drop_eq_nil_of_le (by rw [Array.length_toList]; exact Nat.le_refl _)]
  rfl
theorem extract_tail (s : ByteArray) : (s.extract 1 s.size).data.toList = s.data.toList.tail := by
  have hl : s.data.toList.length = s.size := Array.length_toList
  rw [ByteArray.data_extract, Array.toList_extract, List.extract_eq_take_drop, ← hl, List.take_of_length_le (by rw [List.length_drop]; exact Nat.le_refl _), List.drop_one]

set_option maxRecDepth 100000 in
set_option maxHeartbeats 400000 in
theorem refParse_nil (s : ByteArray) (w : World) (hs : s.size = 0) :
    Calls Tryd.prog 39 #[.string s] w fun e w' => e = .returned (.tuple #[.int .i64 (valV (parseV s.data.toList)), .int .i64 (errV (parseV s.data.toList))]) ∧ w = w' := by
  obtain ⟨h1, h2, h3⟩ := toList_nil s hs
  have HE : Hid (parseV s.data.toList = none) := by unfold Hid; rw [h3]; rfl
  clear h3
  go_enter Tryd.func39, Tryd.ntmps39
  go_wp2
  go_ret2
  exact ⟨ret_two (by rw [HE.out]; rfl) (by rw [HE.out]; rfl), rfl⟩

set_option maxRecDepth 100000 in
set_option maxHeartbeats 1000000 in
theorem refParse_plain (s : ByteArray) (w : World) (hs : s.size ≤ 9223372036854775807) (h0 : 0 < s.size) (hm : (s[0]'h0).toNat ≠ 45) (hz : ¬ ((s[0]'h0).toNat = 48 ∧ 1 < s.size)) :
    Calls Tryd.prog 39 #[.string s] w fun e w' => e = .returned (.tuple #[.int .i64 (valV (parseV s.data.toList)), .int .i64 (errV (parseV s.data.toList))]) ∧ w = w' := by
  obtain ⟨g1, g2, g3, g4⟩ := toList_cons s h0
  obtain ⟨c0, hc0⟩ : ∃ c : Nat, (s[0]'h0).toNat = c := ⟨_, rfl⟩
  rw [hc0] at hm hz
  have HR : Hid (parseV s.data.toList = endV false (digs s.data.toList 0)) := by
    unfold Hid parseV
    rw [if_neg (by
      rw [g4]; simp only [List.head?_cons, Option.some.injEq]
      intro e; rw [e] at hc0; exact hm hc0.symm), if_neg (by
      rw [g4]; simp only [List.head?_cons, Option.some.injEq]
      rintro (h | ⟨e, h⟩)
      · cases h
      · rw [e] at hc0
        refine hz ⟨hc0.symm, ?_⟩
        have hl : s.data.toList.length = s.size := Array.length_toList
        rw [g4] at hl
        omega)]
  have hb45 : ((c0 : Int) == 45) = false := by rw [beq_eq_false_iff_ne]; omega
  clear g4
  by_cases h48 : c0 = 48
  · have h1s : s.size = 1 := by omega
    subst h48
    have hb48 : (((48 : Nat) : Int) == 48) = true := by decide
    have hs1 : ¬ 1 < s.size := by omega
    have hs2 : s.size ≤ 1 := by omega
    clear h1s hz hm
    go_enter Tryd.func39, Tryd.ntmps39
    go_wp2
    go_loop [6, 7, 8] (fun n i _ => ∃ (k : Nat) (m : Int), k ≤ s.size ∧ i = .int .i64 k ∧ n = .int .i64 m ∧ -9223372036854775808 ≤ m ∧ m ≤ 0 ∧ Hid (parseV s.data.toList = endV false (digs (s.data.toList.drop k) m))) (fun _ i _ => s.size - (intOf i).toNat)
    case atStart => exact ⟨0, 0, by omega, rfl, rfl, by omega, by omega, HR.out⟩
    case round =>
      obtain ⟨k, m, hk, rfl, rfl, hm0, hm1, HG⟩ := hrel
      by_cases hlt : k < s.size
      · have HST := Lib.hid (digs_step s k m hlt)
        obtain ⟨c, hc⟩ : ∃ c : Nat, (s[k]'hlt).toNat = c := ⟨_, rfl⟩
        rw [hc] at HST
        have hc255 : c < 256 := by rw [← hc]; exact UInt8.toNat_lt _
        by_cases hd : 48 ≤ c ∧ c ≤ 57
        · obtain ⟨hd0, hd1⟩ := hd
          have hT := test_div m ((c : Int) - 48) (by omega) (by omega)
          by_cases hf : m * 10 - ((c : Int) - 48) < -9223372036854775808
          · have ht : m < (-9223372036854775808 + ((c : Int) - 48)).tdiv 10 := hT.2 hf
            have HF := Lib.hid hf
            clear hT hf
            have hE : parseV s.data.toList = none := by
              rw [HG.out, HST.out, if_neg (by have := HF.out; omega)]; rfl
            have HE := Lib.hid hE
            clear hE
            go_wp2_with (go_at_call 63; refine (refDigit_yes _ _ (by omega) (by omega)).mono ?_; rintro e w' ⟨rfl, rfl⟩)
            go_ret2
            exact ⟨ret_two (by rw [HE.out]; rfl) (by rw [HE.out]; rfl), rfl⟩
          · have ht : ¬ m < (-9223372036854775808 + ((c : Int) - 48)).tdiv 10 := fun e => hf (hT.1 e)
            have HF := Lib.hid hf
            clear hT
            have hE : parseV s.data.toList = endV false (digs (s.data.toList.drop (k + 1)) (m * 10 - ((c : Int) - 48))) := by
              rw [HG.out, HST.out, if_pos ⟨hd0, hd1, by omega⟩]
            have HE := Lib.hid hE
            clear hE
            have hf0 : -9223372036854775808 ≤ m * 10 - ((c : Int) - 48) := by omega
            clear hf
            go_wp2_with (go_at_call 63; refine (refDigit_yes _ _ (by omega) (by omega)).mono ?_; rintro e w' ⟨rfl, rfl⟩)
            go_round
            case rel => exact ⟨k + 1, m * 10 - ((c : Int) - 48), by omega, by go_num, by first | rfl | go_num, by omega, by omega, HE.out⟩
            case measure => simp [intOf]; omega
        · have hE : parseV s.data.toList = none := by
            rw [HG.out, HST.out, if_neg (by omega)]; rfl
          have HE := Lib.hid hE
          clear hE
          go_wp2_with (go_at_call 63; refine (refDigit_no _ _ (by omega)).mono ?_; rintro e w' ⟨rfl, rfl⟩)
          go_ret2
          exact ⟨ret_two (by rw [HE.out]; rfl) (by rw [HE.out]; rfl), rfl⟩
      · have hk' : k = s.size := by omega
        have HK := Lib.hid hk'
        have e := HG.out
        rw [hk', digs_end] at e
        clear hk'
        have HE := Lib.hid e
        clear e
        by_cases hL : m = -9223372036854775808
        · have HL := Lib.hid hL
          have hLb : (m == -9223372036854775808) = true := by simpa using hL
          clear hL
          go_wp2
          go_ret2
          exact ⟨ret_two (by rw [HE.out, endV, if_neg (by decide), if_pos HL.out]; rfl) (by rw [HE.out, endV, if_neg (by decide), if_pos HL.out]; rfl), rfl⟩
        · have HL := Lib.hid hL
          have hLb : (m == -9223372036854775808) = false := by simpa using hL
          go_wp2
          go_ret2
          exact ⟨ret_two (by rw [HE.out, endV, if_neg (by decide), if_neg HL.out]; rfl) (by rw [HE.out, endV, if_neg (by decide), if_neg HL.out]; rfl), rfl⟩
  · have hb48 : ((c0 : Int) == 48) = false := by rw [beq_eq_false_iff_ne]; omega
    clear hz
    go_enter Tryd.func39, Tryd.ntmps39
    go_wp2
    go_loop [6, 7, 8] (fun n i _ => ∃ (k : Nat) (m : Int), k ≤ s.size ∧ i = .int .i64 k ∧ n = .int .i64 m ∧ -9223372036854775808 ≤ m ∧ m ≤ 0 ∧ Hid (parseV s.data.toList = endV false (digs (s.data.toList.drop k) m))) (fun _ i _ => s.size - (intOf i).toNat)
    case atStart => exact ⟨0, 0, by omega, rfl, rfl, by omega, by omega, HR.out⟩
    case round =>
      obtain ⟨k, m, hk, rfl, rfl, hm0, hm1, HG⟩ := hrel
      by_cases hlt : k < s.size
      · have HST := Lib.hid (digs_step s k m hlt)
        obtain ⟨c, hc⟩ : ∃ c : Nat, (s[k]'hlt).toNat = c := ⟨_, rfl⟩
        rw [hc] at HST
        have hc255 : c < 256 := by rw [← hc]; exact UInt8.toNat_lt _
        by_cases hd : 48 ≤ c ∧ c ≤ 57
        · obtain ⟨hd0, hd1⟩ := hd
          have hT := test_div m ((c : Int) - 48) (by omega) (by omega)
          by_cases hf : m * 10 - ((c : Int) - 48) < -9223372036854775808
          · have ht : m < (-9223372036854775808 + ((c : Int) - 48)).tdiv 10 := hT.2 hf
            have HF := Lib.hid hf
            clear hT hf
            have hE : parseV s.data.toList = none := by
              rw [HG.out, HST.out, if_neg (by have := HF.out; omega)]; rfl
            have HE := Lib.hid hE
            clear hE
            go_wp2_with (go_at_call 63; refine (refDigit_yes _ _ (by omega) (by omega)).mono ?_; rintro e w' ⟨rfl, rfl⟩)
            go_ret2
            exact ⟨ret_two (by rw [HE.out]; rfl) (by rw [HE.out]; rfl), rfl⟩
          · have ht : ¬ m < (-9223372036854775808 + ((c : Int) - 48)).tdiv 10 := fun e => hf (hT.1 e)
            have HF := Lib.hid hf
            clear hT
            have hE : parseV s.data.toList = endV false (digs (s.data.toList.drop (k + 1)) (m * 10 - ((c : Int) - 48))) := by
              rw [HG.out, HST.out, if_pos ⟨hd0, hd1, by omega⟩]
            have HE := Lib.hid hE
            clear hE
            have hf0 : -9223372036854775808 ≤ m * 10 - ((c : Int) - 48) := by omega
            clear hf
            go_wp2_with (go_at_call 63; refine (refDigit_yes _ _ (by omega) (by omega)).mono ?_; rintro e w' ⟨rfl, rfl⟩)
            go_round
            case rel => exact ⟨k + 1, m * 10 - ((c : Int) - 48), by omega, by go_num, by first | rfl | go_num, by omega, by omega, HE.out⟩
            case measure => simp [intOf]; omega
        · have hE : parseV s.data.toList = none := by
            rw [HG.out, HST.out, if_neg (by omega)]; rfl
          have HE := Lib.hid hE
          clear hE
          go_wp2_with (go_at_call 63; refine (refDigit_no _ _ (by omega)).mono ?_; rintro e w' ⟨rfl, rfl⟩)
          go_ret2
          exact ⟨ret_two (by rw [HE.out]; rfl) (by rw [HE.out]; rfl), rfl⟩
      · have hk' : k = s.size := by omega
        have HK := Lib.hid hk'
        have e := HG.out
        rw [hk', digs_end] at e
        clear hk'
        have HE := Lib.hid e
        clear e
        by_cases hL : m = -9223372036854775808
        · have HL := Lib.hid hL
          have hLb : (m == -9223372036854775808) = true := by simpa using hL
          clear hL
          go_wp2
          go_ret2
          exact ⟨ret_two (by rw [HE.out, endV, if_neg (by decide), if_pos HL.out]; rfl) (by rw [HE.out, endV, if_neg (by decide), if_pos HL.out]; rfl), rfl⟩
        · have HL := Lib.hid hL
          have hLb : (m == -9223372036854775808) = false := by simpa using hL
          go_wp2
          go_ret2
          exact ⟨ret_two (by rw [HE.out, endV, if_neg (by decide), if_neg HL.out]; rfl) (by rw [HE.out, endV, if_neg (by decide), if_neg HL.out]; rfl), rfl⟩

set_option maxRecDepth 100000 in
set_option maxHeartbeats 1000000 in
theorem refParse_minus (s : ByteArray) (w : World) (hs : s.size ≤ 9223372036854775807) (h0 : 0 < s.size) (hm : (s[0]'h0).toNat = 45) :
    Calls Tryd.prog 39 #[.string s] w fun e w' => e = .returned (.tuple #[.int .i64 (valV (parseV s.data.toList)), .int .i64 (errV (parseV s.data.toList))]) ∧ w = w' := by
  obtain ⟨g1, g2, g3, g4⟩ := toList_cons s h0
  obtain ⟨t, ht⟩ : ∃ t, s.extract 1 s.size = t := ⟨_, rfl⟩
  have hts : t.size = s.size - 1 := by rw [← ht, ByteArray.size_extract]; omega
  have htl : t.data.toList = s.data.toList.tail := by rw [← ht]; exact extract_tail s
  have hh : s.data.toList.head? = some 45 := by
    rw [g4, List.head?_cons]
    congr 1
    exact UInt8.toNat_inj.1 (by rw [hm]; rfl)
  have hp : parseV s.data.toList = if t.data.toList = [] ∨ t.data.toList.head? = some 48 then none else endV true (digs t.data.toList 0) := by
    unfold parseV; rw [if_pos hh, ← htl]
  have htsz : t.size ≤ 9223372036854775807 := by omega
  have HTS := Lib.hid hts
  clear hts htl hh g4
  by_cases h1 : t.size = 0
  · obtain ⟨k1, k2, k3⟩ := toList_nil t h1
    have HE : Hid (parseV s.data.toList = none) := by unfold Hid; rw [hp, if_pos (Or.inl k3)]
    clear hp k3
    go_enter Tryd.func39, Tryd.ntmps39
    go_wp2
    go_ret2
    exact ⟨ret_two (by rw [HE.out]; rfl) (by rw [HE.out]; rfl), rfl⟩
  · have ht0 : 0 < t.size := by omega
    obtain ⟨k1, k2, k3, k4⟩ := toList_cons t ht0
    obtain ⟨c0, hc0⟩ : ∃ c : Nat, (t[0]'ht0).toNat = c := ⟨_, rfl⟩
    by_cases h48 : c0 = 48
    · subst h48
      have HE : Hid (parseV s.data.toList = none) := by
        unfold Hid
        rw [hp, if_pos (Or.inr (by rw [k4, List.head?_cons]; congr 1; exact UInt8.toNat_inj.1 (by rw [hc0]; rfl)))]
      clear hp k4
      go_enter Tryd.func39, Tryd.ntmps39
      go_wp2
      go_ret2
      exact ⟨ret_two (by rw [HE.out]; rfl) (by rw [HE.out]; rfl), rfl⟩
    · have hb48 : ((c0 : Int) == 48) = false := by rw [beq_eq_false_iff_ne]; omega
      have HR : Hid (parseV s.data.toList = endV true (digs t.data.toList 0)) := by
        unfold Hid
        rw [hp, if_neg (by
          rintro (h | h)
          · rw [k4] at h; cases h
          · rw [k4, List.head?_cons, Option.some.injEq] at h
            rw [h] at hc0
            exact h48 hc0.symm)]
      clear hp k4
      go_enter Tryd.func39, Tryd.ntmps39
      go_wp2
      go_loop [6, 7, 8] (fun n i _ => ∃ (k : Nat) (m : Int), k ≤ t.size ∧ i = .int .i64 k ∧ n = .int .i64 m ∧ -9223372036854775808 ≤ m ∧ m ≤ 0 ∧ Hid (parseV s.data.toList = endV true (digs (t.data.toList.drop k) m))) (fun _ i _ => t.size - (intOf i).toNat)
      case atStart => exact ⟨0, 0, by omega, rfl, rfl, by omega, by omega, HR.out⟩
      case round =>
        obtain ⟨k, m, hk, rfl, rfl, hm0, hm1, HG⟩ := hrel
        by_cases hlt : k < t.size
        · have HST := Lib.hid (digs_step t k m hlt)
          obtain ⟨c, hc⟩ : ∃ c : Nat, (t[k]'hlt).toNat = c := ⟨_, rfl⟩
          rw [hc] at HST
          have hc255 : c < 256 := by rw [← hc]; exact UInt8.toNat_lt _
          by_cases hd : 48 ≤ c ∧ c ≤ 57
          · obtain ⟨hd0, hd1⟩ := hd
            have hT := test_div m ((c : Int) - 48) (by omega) (by omega)
            by_cases hf : m * 10 - ((c : Int) - 48) < -9223372036854775808
            · have ht : m < (-9223372036854775808 + ((c : Int) - 48)).tdiv 10 := hT.2 hf
              have HF := Lib.hid hf
              clear hT hf
              have hE : parseV s.data.toList = none := by
                rw [HG.out, HST.out, if_neg (by have := HF.out; omega)]; rfl
              have HE := Lib.hid hE
              clear hE
              go_wp2_with (go_at_call 63; refine (refDigit_yes _ _ (by omega) (by omega)).mono ?_; rintro e w' ⟨rfl, rfl⟩)
              go_ret2
              exact ⟨ret_two (by rw [HE.out]; rfl) (by rw [HE.out]; rfl), rfl⟩
            · have ht : ¬ m < (-9223372036854775808 + ((c : Int) - 48)).tdiv 10 := fun e => hf (hT.1 e)
              have HF := Lib.hid hf
              clear hT
              have hE : parseV s.data.toList = endV true (digs (t.data.toList.drop (k + 1)) (m * 10 - ((c : Int) - 48))) := by
                rw [HG.out, HST.out, if_pos ⟨hd0, hd1, by omega⟩]
              have HE := Lib.hid hE
              clear hE
              have hf0 : -9223372036854775808 ≤ m * 10 - ((c : Int) - 48) := by omega
              clear hf
              go_wp2_with (go_at_call 63; refine (refDigit_yes _ _ (by omega) (by omega)).mono ?_; rintro e w' ⟨rfl, rfl⟩)
              go_round
              case rel => exact ⟨k + 1, m * 10 - ((c : Int) - 48), by omega, by go_num, by first | rfl | go_num, by omega, by omega, HE.out⟩
              case measure => simp [intOf]; omega
          · have hE : parseV s.data.toList = none := by
              rw [HG.out, HST.out, if_neg (by omega)]; rfl
            have HE := Lib.hid hE
            clear hE
            go_wp2_with (go_at_call 63; refine (refDigit_no _ _ (by omega)).mono ?_; rintro e w' ⟨rfl, rfl⟩)
            go_ret2
            exact ⟨ret_two (by rw [HE.out]; rfl) (by rw [HE.out]; rfl), rfl⟩
        · have hk' : k = t.size := by omega
          have HK := Lib.hid hk'
          have e := HG.out
          rw [hk', digs_end] at e
          clear hk'
          have HE := Lib.hid e
          clear e
          go_wp2
          go_ret2
          exact ⟨ret_two (by rw [HE.out]; rfl) (by rw [HE.out]; rfl), rfl⟩

set_option maxRecDepth 100000 in
set_option maxHeartbeats 1000000 in
theorem refParse_zeros (s : ByteArray) (w : World) (hs : s.size ≤ 9223372036854775807) (h0 : 0 < s.size) (h48 : (s[0]'h0).toNat = 48) (h1 : 1 < s.size) :
    Calls Tryd.prog 39 #[.string s] w fun e w' => e = .returned (.tuple #[.int .i64 (valV (parseV s.data.toList)), .int .i64 (errV (parseV s.data.toList))]) ∧ w = w' := by
  obtain ⟨g1, g2, g3, g4⟩ := toList_cons s h0
  have HE : Hid (parseV s.data.toList = none) := by
    have e : (s[0]'h0) = 48 := UInt8.toNat_inj.1 (by rw [h48]; rfl)
    unfold Hid parseV
    rw [if_neg (by rw [g4, e]; simp), if_pos (Or.inr ⟨by rw [g4, e]; rfl, by rw [Array.length_toList]; exact h1⟩)]
  clear g4
  go_enter Tryd.func39, Tryd.ntmps39
  go_wp2
  go_ret2
  exact ⟨ret_two (by rw [HE.out]; rfl) (by rw [HE.out]; rfl), rfl⟩

theorem refParse_all (s : ByteArray) (w : World) (hs : s.size ≤ 9223372036854775807) :
    Calls Tryd.prog 39 #[.string s] w fun e w' => e = .returned (.tuple #[.int .i64 (valV (parseV s.data.toList)), .int .i64 (errV (parseV s.data.toList))]) ∧ w = w' := by
  by_cases h0 : 0 < s.size
  · by_cases hm : (s[0]'h0).toNat = 45
    · exact refParse_minus s w hs h0 hm
    · by_cases hz : (s[0]'h0).toNat = 48 ∧ 1 < s.size
      · exact refParse_zeros s w hs h0 hz.1 hz.2
      · exact refParse_plain s w hs h0 hm hz
  · exact refParse_nil s w (by omega)


set_option maxRecDepth 100000 in
set_option maxHeartbeats 400000 in
theorem digit_yes (r : Int) (w : World) (h0 : 48 ≤ r) (h1 : r ≤ 57) :
    Calls Tryd.prog 62 #[.int .i32 r] w fun e w' => e = .returned (.tuple #[.int .i64 (r - 48), .bool true]) ∧ w = w' := by
  go_enter Tryd.func62, Tryd.ntmps62
  go_wp2
  go_ret2
  exact ⟨rfl, rfl⟩

set_option maxRecDepth 100000 in
set_option maxHeartbeats 400000 in
theorem digit_no (r : Int) (w : World) (h : r < 48 ∨ 57 < r) :
    Calls Tryd.prog 62 #[.int .i32 r] w fun e w' => e = .returned (.tuple #[.int .i64 0, .bool false]) ∧ w = w' := by
  rcases h with h | h
  · go_enter Tryd.func62, Tryd.ntmps62
    go_wp2
    go_ret2
    exact ⟨rfl, rfl⟩
  · have h' : ¬ r < 48 := by omega
    go_enter Tryd.func62, Tryd.ntmps62
    go_wp2
    go_ret2
    exact ⟨rfl, rfl⟩

theorem digsZ_step (t : ByteArray) (k : Nat) (n : Int) (h : k < t.size) :
    digsZ (t.data.toList.drop k) n = if 48 ≤ (t[k]'h).toNat ∧ (t[k]'h).toNat ≤ 57 ∧ ¬ (n = 0 ∧ (t[k]'h).toNat = 48) ∧ -9223372036854775808 ≤ n * 10 - (((t[k]'h).toNat : Int) - 48) then digsZ (t.data.toList.drop (k + 1)) (n * 10 - (((t[k]'h).toNat : Int) - 48)) else none := by
  have hl : k < t.data.toList.length := by rw [Array.length_toList]; exact h
  rw [List.drop_eq_getElem_cons hl, digsZ]
  rfl
theorem digsZ_end (t : ByteArray) (n : Int) : digsZ (t.data.toList.drop t.size) n = some n := by
  rw [List.drop_eq_nil_of_le (by rw [Array.length_toList]; exact Nat.le_refl _)]
  rfl

set_option maxRecDepth 100000 in
set_option maxHeartbeats 400000 in
theorem parse_zero (s : ByteArray) (w : World) (hs : s.data.toList = [48]) :
    Calls Tryd.prog 38 #[.string s] w fun e w' => e = .returned (.tuple #[.int .i64 (valV (parseV s.data.toList)), .int .i64 (errV (parseV s.data.toList))]) ∧ Below w.heap.size w w' := by
  have hz : s = ⟨#[48]⟩ := by
    apply ByteArray.ext
    apply Array.ext'
    rw [hs]
  subst hz
  have HE : Hid (parseV [48] = some 0) := by unfold Hid; decide
  go_enter Tryd.func38, Tryd.ntmps38
  go_wp2
  go_ret2
  exact ⟨ret_two (by rw [HE.out]; rfl) (by rw [HE.out]; rfl), Below.refl _ _⟩

set_option maxRecDepth 100000 in
set_option maxHeartbeats 2000000 in
theorem parse_plain_walk (s : ByteArray) (w : World) (hs : s.size ≤ 9223372036854775807) (h48 : s.data.toList ≠ [48]) (hm : s.data.toList.head? ≠ some 45) :
    Calls Tryd.prog 38 #[.string s] w fun e w' => e = .returned (.tuple #[.int .i64 (valV (parseV s.data.toList)), .int .i64 (errV (parseV s.data.toList))]) ∧ Below w.heap.size w w' := by
  have HR := Lib.hid (parse_plain s.data.toList h48 hm).symm
  have hne : ¬ s.toList = [48] := by rw [ByteArray.toList_eq]; exact h48
  have hne2 : (s.toList == [48]) = false := by rw [beq_eq_false_iff_ne]; exact hne
  have HNM : Hid (∀ h : 0 < s.size, (s[0]'h).toNat ≠ 45) := by
    intro h e
    apply hm
    rw [(toList_cons s h).2.2.2, List.head?_cons]
    congr 1
    exact UInt8.toNat_inj.1 (by rw [e]; rfl)
  clear h48 hm
  go_enter Tryd.func38, Tryd.ntmps38
  go_wp2
  go_loopw [4, 5, 6, 7, 8, 9] (fun b n _ _ _ _ wr => ∃ (pos : Nat) (m : Int), pos ≤ s.size ∧ wr.heap[w.heap.size]? = some (.stringIter s pos) ∧ Below w.heap.size w wr ∧ -9223372036854775808 ≤ m ∧ m ≤ 0 ∧ b = .bool false ∧ n = .int .i64 m ∧ Hid (parseV s.data.toList = endZ false (digsZ (s.data.toList.drop pos) m))) (fun _ _ _ _ _ _ wr => s.size - wr.iterPos w.heap.size)
  case atStart => exact ⟨0, 0, by omega, by simpa using World.iter_heap w s 0, (Below.refl _ w).alloc (Nat.le_refl _) _, by omega, by omega, rfl, rfl, HR.out⟩
  case round =>
    obtain ⟨pos, m, hpos, hit, hbw, hm0, hm1, rfl, rfl, HG⟩ := hrel
    by_cases hp : pos < s.size
    · have hg45 : pos = 0 → (s[pos]'hp).toNat ≠ 45 := by
        rintro rfl
        exact HNM.out hp
      have hg : ((pos : Int) == 0) = false ∨ (((pos : Int) == 0) = true ∧ ((((s[pos]'hp).toNat : Nat) : Int) == 45) = false) := by
        by_cases hz : pos = 0
        · exact Or.inr ⟨by rw [beq_iff_eq]; omega, by rw [beq_eq_false_iff_ne]; have := hg45 hz; omega⟩
        · exact Or.inl (by rw [beq_eq_false_iff_ne]; omega)
      clear hg45
      rcases hg with hg | ⟨hg, hg'⟩
      · have HST := Lib.hid (digsZ_step s pos m hp)
        obtain ⟨c, hc⟩ : ∃ c : Nat, (s[pos]'hp).toNat = c := ⟨_, rfl⟩
        rw [hc] at HST
        have hbw2 := Lib.below_iterAt hbw (k := w.heap.size) (Nat.le_refl _) s
        by_cases hasc : c < 128
        · have hnx : ∀ ty, (Instr.next (.pointer (some ⟨w.heap.size, 0, none⟩)) true ty).run Tryd.prog wr = .ok (.tuple #[.bool true, .int .i64 pos, .int .i32 c]) (wr.iterAt w.heap.size s (pos + 1)) := fun ty => by
            rw [Lib.run_next_ascii_at wr w.heap.size s pos ty hit hp (by rw [hc]; exact hasc), hc]
          have hit2 := Lib.iterAt_heap wr w.heap.size s pos (pos + 1) hit
          have HX := Lib.hid hnx
          clear hnx
          by_cases hd : 48 ≤ c ∧ c ≤ 57
          · obtain ⟨hd0, hd1⟩ := hd
            have hT := test_div m ((c : Int) - 48) (by omega) (by omega)
            by_cases hf : ¬ (m = 0 ∧ c = 48) ∧ -9223372036854775808 ≤ m * 10 - ((c : Int) - 48)
            · have ht : ¬ m < (-9223372036854775808 + ((c : Int) - 48)).tdiv 10 := fun e => by have := hT.1 e; omega
              have hE : parseV s.data.toList = endZ false (digsZ (s.data.toList.drop (pos + 1)) (m * 10 - ((c : Int) - 48))) := by
                rw [HG.out, HST.out, if_pos ⟨hd0, hd1, hf.1, hf.2⟩]
              have HE := Lib.hid hE
              obtain ⟨hf1, hf0⟩ := hf
              clear hE hT
              have hnx := HX.out
              by_cases hm0 : m = 0
              · have hmb : (m == 0) = true := by simpa using hm0
                have hcb : ((c : Int) - 48 == 0) = false := by rw [beq_eq_false_iff_ne]; omega
                have HM := Lib.hid hm0
                clear hm0 hf1
                go_wp2_with (go_at_call 62; refine (digit_yes _ _ (by omega) (by omega)).mono ?_; rintro e w' ⟨rfl, rfl⟩)
                go_roundw
                case rel => exact ⟨pos + 1, m * 10 - ((c : Int) - 48), by omega, hit2, hbw2 _, by omega, by omega, rfl, rfl, HE.out⟩
                case measure => simp only [World.iterPos, hit2, hit]; omega
              · have hmb : (m == 0) = false := by simpa using hm0
                clear hm0 hf1
                go_wp2_with (go_at_call 62; refine (digit_yes _ _ (by omega) (by omega)).mono ?_; rintro e w' ⟨rfl, rfl⟩)
                go_roundw
                case rel => exact ⟨pos + 1, m * 10 - ((c : Int) - 48), by omega, hit2, hbw2 _, by omega, by omega, rfl, rfl, HE.out⟩
                case measure => simp only [World.iterPos, hit2, hit]; omega
            · have hE : parseV s.data.toList = none := by
                rw [HG.out, HST.out, if_neg (by omega)]; rfl
              have HE := Lib.hid hE
              clear hE
              have hnx := HX.out
              by_cases hm0 : m = 0 ∧ c = 48
              · obtain ⟨hm0, hc48⟩ := hm0
                have hmb : (m == 0) = true := by simpa using hm0
                have hcb : ((c : Int) - 48 == 0) = true := by rw [beq_iff_eq]; omega
                have HM := Lib.hid hm0
                clear hm0 hf hT hc48
                go_wp2_with (go_at_call 62; refine (digit_yes _ _ (by omega) (by omega)).mono ?_; rintro e w' ⟨rfl, rfl⟩)
                go_ret2
                exact ⟨ret_two (by rw [HE.out]; rfl) (by rw [HE.out]; rfl), hbw2 _⟩
              · have ht : m < (-9223372036854775808 + ((c : Int) - 48)).tdiv 10 := hT.2 (by omega)
                have hcm : (m == 0) = false ∨ ((m == 0) = true ∧ ((c : Int) - 48 == 0) = false) := by
                  by_cases hz : m = 0
                  · right
                    exact ⟨by simpa using hz, by rw [beq_eq_false_iff_ne]; omega⟩
                  · left; simpa using hz
                clear hm0 hf hT
                rcases hcm with hmb | ⟨hmb, hcb⟩
                all_goals
                  go_wp2_with (go_at_call 62; refine (digit_yes _ _ (by omega) (by omega)).mono ?_; rintro e w' ⟨rfl, rfl⟩)
                  go_ret2
                  exact ⟨ret_two (by rw [HE.out]; rfl) (by rw [HE.out]; rfl), hbw2 _⟩
          · have hE : parseV s.data.toList = none := by
              rw [HG.out, HST.out, if_neg (by omega)]; rfl
            have HE := Lib.hid hE
            clear hE
            have hnx := HX.out
            go_wp2_with (go_at_call 62; refine (digit_no _ _ (by omega)).mono ?_; rintro e w' ⟨rfl, rfl⟩)
            go_ret2
            exact ⟨ret_two (by rw [HE.out]; rfl) (by rw [HE.out]; rfl), hbw2 _⟩
        · obtain ⟨r, hr⟩ : ∃ r : Nat, (Utf8.decode s pos).1 = r := ⟨_, rfl⟩
          obtain ⟨l, hl⟩ : ∃ l : Nat, (Utf8.decode s pos).2 = l := ⟨_, rfl⟩
          have hr128 : 128 ≤ r := by rw [← hr]; exact (decode_high s pos hp (by omega)).1
          have hnx : ∀ ty, (Instr.next (.pointer (some ⟨w.heap.size, 0, none⟩)) true ty).run Tryd.prog wr = .ok (.tuple #[.bool true, .int .i64 pos, .int .i32 r]) (wr.iterAt w.heap.size s (pos + l)) := fun ty => by
            rw [Lib.run_next_any_at wr w.heap.size s pos ty hit hp, hr, hl]
          have hE : parseV s.data.toList = none := by
            rw [HG.out, HST.out, if_neg (by omega)]; rfl
          have HE := Lib.hid hE
          clear hE hr hl
          have hr45 : ((r : Int) == 45) = false := by rw [beq_eq_false_iff_ne]; omega
          go_wp2_with (go_at_call 62; refine (digit_no _ _ (by omega)).mono ?_; rintro e w' ⟨rfl, rfl⟩)
          go_ret2
          exact ⟨ret_two (by rw [HE.out]; rfl) (by rw [HE.out]; rfl), hbw2 _⟩
      · have HST := Lib.hid (digsZ_step s pos m hp)
        obtain ⟨c, hc⟩ : ∃ c : Nat, (s[pos]'hp).toNat = c := ⟨_, rfl⟩
        rw [hc] at HST hg'
        have hbw2 := Lib.below_iterAt hbw (k := w.heap.size) (Nat.le_refl _) s
        by_cases hasc : c < 128
        · have hnx : ∀ ty, (Instr.next (.pointer (some ⟨w.heap.size, 0, none⟩)) true ty).run Tryd.prog wr = .ok (.tuple #[.bool true, .int .i64 pos, .int .i32 c]) (wr.iterAt w.heap.size s (pos + 1)) := fun ty => by
            rw [Lib.run_next_ascii_at wr w.heap.size s pos ty hit hp (by rw [hc]; exact hasc), hc]
          have hit2 := Lib.iterAt_heap wr w.heap.size s pos (pos + 1) hit
          have HX := Lib.hid hnx
          clear hnx
          by_cases hd : 48 ≤ c ∧ c ≤ 57
          · obtain ⟨hd0, hd1⟩ := hd
            have hT := test_div m ((c : Int) - 48) (by omega) (by omega)
            by_cases hf : ¬ (m = 0 ∧ c = 48) ∧ -9223372036854775808 ≤ m * 10 - ((c : Int) - 48)
            · have ht : ¬ m < (-9223372036854775808 + ((c : Int) - 48)).tdiv 10 := fun e => by have := hT.1 e; omega
              have hE : parseV s.data.toList = endZ false (digsZ (s.data.toList.drop (pos + 1)) (m * 10 - ((c : Int) - 48))) := by
                rw [HG.out, HST.out, if_pos ⟨hd0, hd1, hf.1, hf.2⟩]
              have HE := Lib.hid hE
              obtain ⟨hf1, hf0⟩ := hf
              clear hE hT
              have hnx := HX.out
              by_cases hm0 : m = 0
              · have hmb : (m == 0) = true := by simpa using hm0
                have hcb : ((c : Int) - 48 == 0) = false := by rw [beq_eq_false_iff_ne]; omega
                have HM := Lib.hid hm0
                clear hm0 hf1
                go_wp2_with (go_at_call 62; refine (digit_yes _ _ (by omega) (by omega)).mono ?_; rintro e w' ⟨rfl, rfl⟩)
                go_roundw
                case rel => exact ⟨pos + 1, m * 10 - ((c : Int) - 48), by omega, hit2, hbw2 _, by omega, by omega, rfl, rfl, HE.out⟩
                case measure => simp only [World.iterPos, hit2, hit]; omega
              · have hmb : (m == 0) = false := by simpa using hm0
                clear hm0 hf1
                go_wp2_with (go_at_call 62; refine (digit_yes _ _ (by omega) (by omega)).mono ?_; rintro e w' ⟨rfl, rfl⟩)
                go_roundw
                case rel => exact ⟨pos + 1, m * 10 - ((c : Int) - 48), by omega, hit2, hbw2 _, by omega, by omega, rfl, rfl, HE.out⟩
                case measure => simp only [World.iterPos, hit2, hit]; omega
            · have hE : parseV s.data.toList = none := by
                rw [HG.out, HST.out, if_neg (by omega)]; rfl
              have HE := Lib.hid hE
              clear hE
              have hnx := HX.out
              by_cases hm0 : m = 0 ∧ c = 48
              · obtain ⟨hm0, hc48⟩ := hm0
                have hmb : (m == 0) = true := by simpa using hm0
                have hcb : ((c : Int) - 48 == 0) = true := by rw [beq_iff_eq]; omega
                have HM := Lib.hid hm0
                clear hm0 hf hT hc48
                go_wp2_with (go_at_call 62; refine (digit_yes _ _ (by omega) (by omega)).mono ?_; rintro e w' ⟨rfl, rfl⟩)
                go_ret2
                exact ⟨ret_two (by rw [HE.out]; rfl) (by rw [HE.out]; rfl), hbw2 _⟩
              · have ht : m < (-9223372036854775808 + ((c : Int) - 48)).tdiv 10 := hT.2 (by omega)
                have hcm : (m == 0) = false ∨ ((m == 0) = true ∧ ((c : Int) - 48 == 0) = false) := by
                  by_cases hz : m = 0
                  · right
                    exact ⟨by simpa using hz, by rw [beq_eq_false_iff_ne]; omega⟩
                  · left; simpa using hz
                clear hm0 hf hT
                rcases hcm with hmb | ⟨hmb, hcb⟩
                all_goals
                  go_wp2_with (go_at_call 62; refine (digit_yes _ _ (by omega) (by omega)).mono ?_; rintro e w' ⟨rfl, rfl⟩)
                  go_ret2
                  exact ⟨ret_two (by rw [HE.out]; rfl) (by rw [HE.out]; rfl), hbw2 _⟩
          · have hE : parseV s.data.toList = none := by
              rw [HG.out, HST.out, if_neg (by omega)]; rfl
            have HE := Lib.hid hE
            clear hE
            have hnx := HX.out
            go_wp2_with (go_at_call 62; refine (digit_no _ _ (by omega)).mono ?_; rintro e w' ⟨rfl, rfl⟩)
            go_ret2
            exact ⟨ret_two (by rw [HE.out]; rfl) (by rw [HE.out]; rfl), hbw2 _⟩
        · obtain ⟨r, hr⟩ : ∃ r : Nat, (Utf8.decode s pos).1 = r := ⟨_, rfl⟩
          obtain ⟨l, hl⟩ : ∃ l : Nat, (Utf8.decode s pos).2 = l := ⟨_, rfl⟩
          have hr128 : 128 ≤ r := by rw [← hr]; exact (decode_high s pos hp (by omega)).1
          have hnx : ∀ ty, (Instr.next (.pointer (some ⟨w.heap.size, 0, none⟩)) true ty).run Tryd.prog wr = .ok (.tuple #[.bool true, .int .i64 pos, .int .i32 r]) (wr.iterAt w.heap.size s (pos + l)) := fun ty => by
            rw [Lib.run_next_any_at wr w.heap.size s pos ty hit hp, hr, hl]
          have hE : parseV s.data.toList = none := by
            rw [HG.out, HST.out, if_neg (by omega)]; rfl
          have HE := Lib.hid hE
          clear hE hr hl
          have hr45 : ((r : Int) == 45) = false := by rw [beq_eq_false_iff_ne]; omega
          go_wp2_with (go_at_call 62; refine (digit_no _ _ (by omega)).mono ?_; rintro e w' ⟨rfl, rfl⟩)
          go_ret2
          exact ⟨ret_two (by rw [HE.out]; rfl) (by rw [HE.out]; rfl), hbw2 _⟩
    · have hnx : ∀ ty, (Instr.next (.pointer (some ⟨w.heap.size, 0, none⟩)) true ty).run Tryd.prog wr = _ := fun ty => Lib.run_next_end_at wr w.heap.size s pos ty hit hp
      have hpe : pos = s.size := by omega
      have e := HG.out
      rw [hpe, digsZ_end] at e
      clear hpe
      have HE := Lib.hid e
      clear e
      by_cases hm0 : m = 0
      · have hmb : (m == 0) = true := by simpa using hm0
        have HM := Lib.hid hm0
        clear hm0
        go_wp2
        go_ret2
        exact ⟨ret_two (by rw [HE.out, endZ, if_pos HM.out]; rfl) (by rw [HE.out, endZ, if_pos HM.out]; rfl), hbw⟩
      · have hmb : (m == 0) = false := by simpa using hm0
        have HM := Lib.hid hm0
        by_cases hL : m = -9223372036854775808
        · have hLb : (m == -9223372036854775808) = true := by simpa using hL
          have HL := Lib.hid hL
          clear hL hm0
          go_wp2
          go_ret2
          exact ⟨ret_two (by rw [HE.out, endZ, if_neg HM.out, if_neg (by decide), if_pos HL.out]; rfl) (by rw [HE.out, endZ, if_neg HM.out, if_neg (by decide), if_pos HL.out]; rfl), hbw⟩
        · have hLb : (m == -9223372036854775808) = false := by simpa using hL
          have HL := Lib.hid hL
          go_wp2
          go_ret2
          exact ⟨ret_two (by rw [HE.out, endZ, if_neg HM.out, if_neg (by decide), if_neg HL.out]; rfl) (by rw [HE.out, endZ, if_neg HM.out, if_neg (by decide), if_neg HL.out]; rfl), hbw⟩

set_option maxRecDepth 100000 in
set_option maxHeartbeats 2000000 in
theorem parse_minus_walk (s : ByteArray) (w : World) (hs : s.size ≤ 9223372036854775807) (h0 : 0 < s.size) (hm : (s[0]'h0).toNat = 45) :
    Calls Tryd.prog 38 #[.string s] w fun e w' => e = .returned (.tuple #[.int .i64 (valV (parseV s.data.toList)), .int .i64 (errV (parseV s.data.toList))]) ∧ Below w.heap.size w w' := by
  have hcons := (toList_cons s h0).2.2.2
  have he : (s[0]'h0) = 45 := UInt8.toNat_inj.1 (by rw [hm]; rfl)
  rw [he] at hcons
  have HR : Hid (parseV s.data.toList = endZ true (digsZ (s.data.toList.drop 1) 0)) := by
    unfold Hid
    rw [List.drop_one, parse_minus, ← hcons]
  have hne : ¬ s.toList = [48] := by
    rw [ByteArray.toList_eq, hcons]
    intro e
    cases e
  have hne2 : (s.toList == [48]) = false := by rw [beq_eq_false_iff_ne]; exact hne
  clear hcons he
  go_enter Tryd.func38, Tryd.ntmps38
  go_wp2
  go_loopw [4, 5, 6, 7, 8, 9] (fun b n _ _ _ _ wr => ∃ (pos : Nat) (m : Int), pos ≤ s.size ∧ wr.heap[w.heap.size]? = some (.stringIter s pos) ∧ Below w.heap.size w wr ∧ -9223372036854775808 ≤ m ∧ m ≤ 0 ∧ ((pos = 0 ∧ b = .bool false ∧ n = .int .i64 0) ∨ (1 ≤ pos ∧ b = .bool true ∧ n = .int .i64 m ∧ Hid (parseV s.data.toList = endZ true (digsZ (s.data.toList.drop pos) m))))) (fun _ _ _ _ _ _ wr => s.size - wr.iterPos w.heap.size)
  case atStart => exact ⟨0, 0, by omega, by simpa using World.iter_heap w s 0, (Below.refl _ w).alloc (Nat.le_refl _) _, by omega, by omega, Or.inl ⟨rfl, rfl, rfl⟩⟩
  case round =>
    obtain ⟨pos, m, hpos, hit, hbw, hm0, hm1, ⟨rfl, rfl, rfl⟩ | ⟨hpos1, rfl, rfl, HG⟩⟩ := hrel
    · have hnx : ∀ ty, (Instr.next (.pointer (some ⟨w.heap.size, 0, none⟩)) true ty).run Tryd.prog wr = .ok (.tuple #[.bool true, .int .i64 0, .int .i32 45]) (wr.iterAt w.heap.size s 1) := fun ty => by
        rw [Lib.run_next_ascii_at wr w.heap.size s 0 ty hit h0 (by rw [hm]; decide), hm]; rfl
      have hit2 := Lib.iterAt_heap wr w.heap.size s 0 1 hit
      have hbw2 := Lib.below_iterAt hbw (k := w.heap.size) (Nat.le_refl _) s
      go_wp2
      go_roundw
      case rel => exact ⟨1, 0, by omega, hit2, hbw2 _, by omega, by omega, Or.inr ⟨by omega, rfl, rfl, HR.out⟩⟩
      case measure => simp only [World.iterPos, hit2, hit]; omega
    · by_cases hp : pos < s.size
      · have hg : ((pos : Int) == 0) = false := by rw [beq_eq_false_iff_ne]; omega
        have HST := Lib.hid (digsZ_step s pos m hp)
        obtain ⟨c, hc⟩ : ∃ c : Nat, (s[pos]'hp).toNat = c := ⟨_, rfl⟩
        rw [hc] at HST
        have hbw2 := Lib.below_iterAt hbw (k := w.heap.size) (Nat.le_refl _) s
        by_cases hasc : c < 128
        · have hnx : ∀ ty, (Instr.next (.pointer (some ⟨w.heap.size, 0, none⟩)) true ty).run Tryd.prog wr = .ok (.tuple #[.bool true, .int .i64 pos, .int .i32 c]) (wr.iterAt w.heap.size s (pos + 1)) := fun ty => by
            rw [Lib.run_next_ascii_at wr w.heap.size s pos ty hit hp (by rw [hc]; exact hasc), hc]
          have hit2 := Lib.iterAt_heap wr w.heap.size s pos (pos + 1) hit
          have HX := Lib.hid hnx
          clear hnx
          by_cases hd : 48 ≤ c ∧ c ≤ 57
          · obtain ⟨hd0, hd1⟩ := hd
            have hT := test_div m ((c : Int) - 48) (by omega) (by omega)
            by_cases hf : ¬ (m = 0 ∧ c = 48) ∧ -9223372036854775808 ≤ m * 10 - ((c : Int) - 48)
            · have ht : ¬ m < (-9223372036854775808 + ((c : Int) - 48)).tdiv 10 := fun e => by have := hT.1 e; omega
              have hE : parseV s.data.toList = endZ true (digsZ (s.data.toList.drop (pos + 1)) (m * 10 - ((c : Int) - 48))) := by
                rw [HG.out, HST.out, if_pos ⟨hd0, hd1, hf.1, hf.2⟩]
              have HE := Lib.hid hE
              obtain ⟨hf1, hf0⟩ := hf
              clear hE hT
              have hnx := HX.out
              by_cases hm0 : m = 0
              · have hmb : (m == 0) = true := by simpa using hm0
                have hcb : ((c : Int) - 48 == 0) = false := by rw [beq_eq_false_iff_ne]; omega
                have HM := Lib.hid hm0
                clear hm0 hf1
                go_wp2_with (go_at_call 62; refine (digit_yes _ _ (by omega) (by omega)).mono ?_; rintro e w' ⟨rfl, rfl⟩)
                go_roundw
                case rel => exact ⟨pos + 1, m * 10 - ((c : Int) - 48), by omega, hit2, hbw2 _, by omega, by omega, Or.inr ⟨by omega, rfl, rfl, HE.out⟩⟩
                case measure => simp only [World.iterPos, hit2, hit]; omega
              · have hmb : (m == 0) = false := by simpa using hm0
                clear hm0 hf1
                go_wp2_with (go_at_call 62; refine (digit_yes _ _ (by omega) (by omega)).mono ?_; rintro e w' ⟨rfl, rfl⟩)
                go_roundw
                case rel => exact ⟨pos + 1, m * 10 - ((c : Int) - 48), by omega, hit2, hbw2 _, by omega, by omega, Or.inr ⟨by omega, rfl, rfl, HE.out⟩⟩
                case measure => simp only [World.iterPos, hit2, hit]; omega
            · have hE : parseV s.data.toList = none := by
                rw [HG.out, HST.out, if_neg (by omega)]; rfl
              have HE := Lib.hid hE
              clear hE
              have hnx := HX.out
              by_cases hm0 : m = 0 ∧ c = 48
              · obtain ⟨hm0, hc48⟩ := hm0
                have hmb : (m == 0) = true := by simpa using hm0
                have hcb : ((c : Int) - 48 == 0) = true := by rw [beq_iff_eq]; omega
                have HM := Lib.hid hm0
                clear hm0 hf hT hc48
                go_wp2_with (go_at_call 62; refine (digit_yes _ _ (by omega) (by omega)).mono ?_; rintro e w' ⟨rfl, rfl⟩)
                go_ret2
                exact ⟨ret_two (by rw [HE.out]; rfl) (by rw [HE.out]; rfl), hbw2 _⟩
              · have ht : m < (-9223372036854775808 + ((c : Int) - 48)).tdiv 10 := hT.2 (by omega)
                have hcm : (m == 0) = false ∨ ((m == 0) = true ∧ ((c : Int) - 48 == 0) = false) := by
                  by_cases hz : m = 0
                  · right
                    exact ⟨by simpa using hz, by rw [beq_eq_false_iff_ne]; omega⟩
                  · left; simpa using hz
                clear hm0 hf hT
                rcases hcm with hmb | ⟨hmb, hcb⟩
                all_goals
                  go_wp2_with (go_at_call 62; refine (digit_yes _ _ (by omega) (by omega)).mono ?_; rintro e w' ⟨rfl, rfl⟩)
                  go_ret2
                  exact ⟨ret_two (by rw [HE.out]; rfl) (by rw [HE.out]; rfl), hbw2 _⟩
          · have hE : parseV s.data.toList = none := by
              rw [HG.out, HST.out, if_neg (by omega)]; rfl
            have HE := Lib.hid hE
            clear hE
            have hnx := HX.out
            go_wp2_with (go_at_call 62; refine (digit_no _ _ (by omega)).mono ?_; rintro e w' ⟨rfl, rfl⟩)
            go_ret2
            exact ⟨ret_two (by rw [HE.out]; rfl) (by rw [HE.out]; rfl), hbw2 _⟩
        · obtain ⟨r, hr⟩ : ∃ r : Nat, (Utf8.decode s pos).1 = r := ⟨_, rfl⟩
          obtain ⟨l, hl⟩ : ∃ l : Nat, (Utf8.decode s pos).2 = l := ⟨_, rfl⟩
          have hr128 : 128 ≤ r := by rw [← hr]; exact (decode_high s pos hp (by omega)).1
          have hnx : ∀ ty, (Instr.next (.pointer (some ⟨w.heap.size, 0, none⟩)) true ty).run Tryd.prog wr = .ok (.tuple #[.bool true, .int .i64 pos, .int .i32 r]) (wr.iterAt w.heap.size s (pos + l)) := fun ty => by
            rw [Lib.run_next_any_at wr w.heap.size s pos ty hit hp, hr, hl]
          have hE : parseV s.data.toList = none := by
            rw [HG.out, HST.out, if_neg (by omega)]; rfl
          have HE := Lib.hid hE
          clear hE hr hl
          have hr45 : ((r : Int) == 45) = false := by rw [beq_eq_false_iff_ne]; omega
          go_wp2_with (go_at_call 62; refine (digit_no _ _ (by omega)).mono ?_; rintro e w' ⟨rfl, rfl⟩)
          go_ret2
          exact ⟨ret_two (by rw [HE.out]; rfl) (by rw [HE.out]; rfl), hbw2 _⟩
      · have hnx : ∀ ty, (Instr.next (.pointer (some ⟨w.heap.size, 0, none⟩)) true ty).run Tryd.prog wr = _ := fun ty => Lib.run_next_end_at wr w.heap.size s pos ty hit hp
        have hpe : pos = s.size := by omega
        have e := HG.out
        rw [hpe, digsZ_end] at e
        clear hpe
        have HE := Lib.hid e
        clear e
        by_cases hm0 : m = 0
        · have hmb : (m == 0) = true := by simpa using hm0
          have HM := Lib.hid hm0
          clear hm0
          go_wp2
          go_ret2
          exact ⟨ret_two (by rw [HE.out, endZ, if_pos HM.out]; rfl) (by rw [HE.out, endZ, if_pos HM.out]; rfl), hbw⟩
        · have hmb : (m == 0) = false := by simpa using hm0
          have HM := Lib.hid hm0
          go_wp2
          go_ret2
          exact ⟨ret_two (by rw [HE.out, endZ, if_neg HM.out]; rfl) (by rw [HE.out, endZ, if_neg HM.out]; rfl), hbw⟩

theorem parse_any (s : ByteArray) (w : World) (hs : s.size ≤ 9223372036854775807) :
    Calls Tryd.prog 38 #[.string s] w fun e w' => e = .returned (.tuple #[.int .i64 (valV (parseV s.data.toList)), .int .i64 (errV (parseV s.data.toList))]) ∧ Below w.heap.size w w' := by
  by_cases h48 : s.data.toList = [48]
  · exact parse_zero s w h48
  · by_cases h0 : 0 < s.size
    · by_cases hm : (s[0]'h0).toNat = 45
      · exact parse_minus_walk s w hs h0 hm
      · refine parse_plain_walk s w hs h48 ?_
        rw [(toList_cons s h0).2.2.2, List.head?_cons]
        intro e
        rw [Option.some.inj e] at hm
        exact hm rfl
    · refine parse_plain_walk s w hs h48 ?_
      rw [(toList_nil s (by omega)).2.2]
      exact fun e => by cases e

end Go.Proofs.YtcbiiioglklpoaaDoor
