/-
  The walks of Parse and of the document's own Parse. Conditions: the text is a text (no longer than the model lets any text be). The walks of package number's digit. Condition: the argument is a number of its kind. The walk of package number's Parse: it answers what the document's own Parse answers (parseV). Conditions: the text is a text (no longer than the model lets any text be).
-/
import Derived.Test.YtbldahkgilkclaaDoorRet
import Derived.Test.YtbldahkgilkclaaDoorNumM
import Derived.Lib.Hide
import Derived.Lib.OthersKept
import Derived.Lib.VarintMem
import Derived.Laws.RangeAny
namespace Go.Proofs.YtbldahkgilkclaaDoor
open Go.RowKit

theorem toList_nil (s : ByteArray) (h : s.size = 0) : s.toList = [] ∧ s.toList.isEmpty = true ∧ s.data.toList = [] := by
  have : s = ByteArray.empty := by
    apply ByteArray.ext
    exact Array.eq_empty_of_size_eq_zero h
  subst this
  refine ⟨by rw [ByteArray.toList_eq]; rfl, by rw [ByteArray.toList_eq]; rfl, rfl⟩
theorem toList_cons (s : ByteArray) (h : 0 < s.size) : ¬ s.toList = [] ∧ s.toList.isEmpty = false ∧ (!s.toList.isEmpty) = true ∧ s.data.toList = (s[0]'h) :: s.data.toList.tail := by
  have hl : s.data.toList.length = s.size := Array.length_toList
  have e : ¬ s.toList = [] := by
    rw [ByteArray.toList_eq]
    intro e
    rw [e] at hl
    exact absurd hl (by show ¬ 0 = s.size; omega)
  have e2 : s.toList.isEmpty = false := by
    cases hx : s.toList with
    | nil => exact absurd hx e
    | cons _ _ => rfl
  refine ⟨e, e2, by rw [e2]; rfl, ?_⟩
  cases hd : s.data.toList with
  | nil => rw [hd] at hl; exact absurd hl (by show ¬ 0 = s.size; omega)
  | cons c r =>
    have : s[0]'h = s.data.toList[0]'(by rw [hl]; exact h) := rfl
    rw [this]
    simp only [hd, List.getElem_cons_zero, List.tail_cons]

theorem digs_step (t : ByteArray) (k : Nat) (n : Int) (h : k < t.size) :
    digs (t.data.toList.drop k) n = if 48 ≤ (t[k]'h).toNat ∧ (t[k]'h).toNat ≤ 57 ∧ -9223372036854775808 ≤ n * 10 - (((t[k]'h).toNat : Int) - 48) then digs (t.data.toList.drop (k + 1)) (n * 10 - (((t[k]'h).toNat : Int) - 48)) else none := by
  have hl : k < t.data.toList.length := by rw [Array.length_toList]; exact h
  rw [List.drop_eq_getElem_cons hl, digs]
  rfl
theorem digs_end (t : ByteArray) (n : Int) : digs (t.data.toList.drop t.size) n = some n := by
  rw [List.drop_eq_nil_of_le (by rw [Array.length_toList]; exact Nat.le_refl _)]
  rfl

set_option maxRecDepth 100000 in
set_option maxHeartbeats 400000 in
theorem digit_yes (r : Int) (w : World) (h0 : 48 ≤ r) (h1 : r ≤ 57) :
    Calls Tryd.prog 66 #[.int .i32 r] w fun e w' => e = .returned (.tuple #[.int .i64 (r - 48), .bool true]) ∧ w = w' := by
  go_enter Tryd.func66, Tryd.ntmps66
  go_wp2
  go_ret2
  exact ⟨rfl, rfl⟩

set_option maxRecDepth 100000 in
set_option maxHeartbeats 400000 in
theorem digit_no (r : Int) (w : World) (h : r < 48 ∨ 57 < r) :
    Calls Tryd.prog 66 #[.int .i32 r] w fun e w' => e = .returned (.tuple #[.int .i64 0, .bool false]) ∧ w = w' := by
  rcases h with h | h
  · go_enter Tryd.func66, Tryd.ntmps66
    go_wp2
    go_ret2
    exact ⟨rfl, rfl⟩
  · have h' : ¬ r < 48 := by omega
    go_enter Tryd.func66, Tryd.ntmps66
    go_wp2
    go_ret2
    exact ⟨rfl, rfl⟩

theorem digsZ_step (t : ByteArray) (k : Nat) (n : Int) (h : k < t.size) :
    digsZ (t.data.toList.drop k) n = if 48 ≤ (t[k]'h).toNat ∧ (t[k]'h).toNat ≤ 57 ∧ ¬ (n = 0 ∧ (t[k]'h).toNat = 48) ∧ -9223372036854775808 ≤ n * 10 - (((t[k]'h).toNat : Int) - 48) then digsZ (t.data.toList.drop (k + 1)) (n * 10 - (((t[k]'h).toNat : Int) - 48)) else none := by
  have hl : k < t.data.toList.length := by rw [Array.length_toList]; exact h
  rw [List.drop_eq_getElem_cons hl, digsZ]
  rfl
theorem digsZ_end (t : ByteArray) (n : Int) : digsZ (t.data.toList.drop t.size) n = some n := by
  rw [List.drop_eq_nil_of_le (by rw [Array.length_toList]; exact Nat.le_refl _)]
  rfl

set_option maxRecDepth 100000 in
set_option maxHeartbeats 400000 in
theorem parse_zero (s : ByteArray) (w : World) (hs : s.data.toList = [48]) :
    Calls Tryd.prog 52 #[.string s] w fun e w' => e = .returned (.tuple #[.int .i64 (valV (parseV s.data.toList)), .int .i64 (errV (parseV s.data.toList))]) ∧ Below w.heap.size w w' := by
  have hz : s = ⟨#[48]⟩ := by
    apply ByteArray.ext
    apply Array.ext'
    rw [hs]
  subst hz
  have HE : Hid (parseV [48] = some 0) := by unfold Hid; decide
  go_enter Tryd.func52, Tryd.ntmps52
  go_wp2
  go_ret2
  exact ⟨ret_two (by rw [HE.out]; rfl) (by rw [HE.out]; rfl), Below.refl _ _⟩

set_option maxRecDepth 100000 in
set_option maxHeartbeats 2000000 in
theorem parse_plain_walk (s : ByteArray) (w : World) (hs : s.size ≤ 9223372036854775807) (h48 : s.data.toList ≠ [48]) (hm : s.data.toList.head? ≠ some 45) :
    Calls Tryd.prog 52 #[.string s] w fun e w' => e = .returned (.tuple #[.int .i64 (valV (parseV s.data.toList)), .int .i64 (errV (parseV s.data.toList))]) ∧ Below w.heap.size w w' := by
  have HR := Lib.hid (parse_plain s.data.toList h48 hm).symm
  have hne : ¬ s.toList = [48] := by rw [ByteArray.toList_eq]; exact h48
  have hne2 : (s.toList == [48]) = false := by rw [beq_eq_false_iff_ne]; exact hne
  have HNM : Hid (∀ h : 0 < s.size, (s[0]'h).toNat ≠ 45) := by
    intro h e
    apply hm
    rw [(toList_cons s h).2.2.2, List.head?_cons]
    congr 1
    exact UInt8.toNat_inj.1 (by rw [e]; rfl)
  clear h48 hm
  go_enter Tryd.func52, Tryd.ntmps52
  go_wp2
  go_loopw [4, 5, 6, 7, 8, 9] (fun b n _ _ _ _ wr => ∃ (pos : Nat) (m : Int), pos ≤ s.size ∧ wr.heap[w.heap.size]? = some (.stringIter s pos) ∧ Below w.heap.size w wr ∧ -9223372036854775808 ≤ m ∧ m ≤ 0 ∧ b = .bool false ∧ n = .int .i64 m ∧ Hid (parseV s.data.toList = endZ false (digsZ (s.data.toList.drop pos) m))) (fun _ _ _ _ _ _ wr => s.size - wr.iterPos w.heap.size)
  case atStart => exact ⟨0, 0, by omega, by simpa using World.iter_heap w s 0, (Below.refl _ w).alloc (Nat.le_refl _) _, by omega, by omega, rfl, rfl, HR.out⟩
  case round =>
    obtain ⟨pos, m, hpos, hit, hbw, hm0, hm1, rfl, rfl, HG⟩ := hrel
    by_cases hp : pos < s.size
    · have hg45 : pos = 0 → (s[pos]'hp).toNat ≠ 45 := by
        rintro rfl
        exact HNM.out hp
      have hg : ((pos : Int) == 0) = false ∨ (((pos : Int) == 0) = true ∧ ((((s[pos]'hp).toNat : Nat) : Int) == 45) = false) := by
        by_cases hz : pos = 0
        · exact Or.inr ⟨by rw [beq_iff_eq]; omega, by rw [beq_eq_false_iff_ne]; have := hg45 hz; omega⟩
        · exact Or.inl (by rw [beq_eq_false_iff_ne]; omega)
      clear hg45
      rcases hg with hg | ⟨hg, hg'⟩
      · have HST := Lib.hid (digsZ_step s pos m hp)
        obtain ⟨c, hc⟩ : ∃ c : Nat, (s[pos]'hp).toNat = c := ⟨_, rfl⟩
        rw [hc] at HST
        have hbw2 := Lib.below_iterAt hbw (k := w.heap.size) (Nat.le_refl _) s
        by_cases hasc : c < 128
        · have hnx : ∀ ty, (Instr.next (.pointer (some ⟨w.heap.size, 0, none⟩)) true ty).run Tryd.prog wr = .ok (.tuple #[.bool true, .int .i64 pos, .int .i32 c]) (wr.iterAt w.heap.size s (pos + 1)) := fun ty => by
            rw [Lib.run_next_ascii_at wr w.heap.size s pos ty hit hp (by rw [hc]; exact hasc), hc]
          have hit2 := Lib.iterAt_heap wr w.heap.size s pos (pos + 1) hit
          have HX := Lib.hid hnx
          clear hnx
          by_cases hd : 48 ≤ c ∧ c ≤ 57
          · obtain ⟨hd0, hd1⟩ := hd
            have hT := test_div m ((c : Int) - 48) (by omega) (by omega)
            by_cases hf : ¬ (m = 0 ∧ c = 48) ∧ -9223372036854775808 ≤ m * 10 - ((c : Int) - 48)
            · have ht : ¬ m < (-9223372036854775808 + ((c : Int) - 48)).tdiv 10 := fun e => by have := hT.1 e; omega
              have hE : parseV s.data.toList = endZ false (digsZ (s.data.toList.drop (pos + 1)) (m * 10 - ((c : Int) - 48))) := by
                rw [HG.out, HST.out, if_pos ⟨hd0, hd1, hf.1, hf.2⟩]
              have HE := Lib.hid hE
              obtain ⟨hf1, hf0⟩ := hf
              clear hE hT
              have hnx := HX.out
              by_cases hm0 : m = 0
              · have hmb : (m == 0) = true := by simpa using hm0
                have hcb : ((c : Int) - 48 == 0) = false := by rw [beq_eq_false_iff_ne]; omega
                have HM := Lib.hid hm0
                clear hm0 hf1
                go_wp2_with (go_at_call 66; refine (digit_yes _ _ (by omega) (by omega)).mono ?_; rintro e w' ⟨rfl, rfl⟩)
                go_roundw
                case rel => exact ⟨pos + 1, m * 10 - ((c : Int) - 48), by omega, hit2, hbw2 _, by omega, by omega, rfl, rfl, HE.out⟩
                case measure => simp only [World.iterPos, hit2, hit]; omega
              · have hmb : (m == 0) = false := by simpa using hm0
                clear hm0 hf1
                go_wp2_with (go_at_call 66; refine (digit_yes _ _ (by omega) (by omega)).mono ?_; rintro e w' ⟨rfl, rfl⟩)
                go_roundw
                case rel => exact ⟨pos + 1, m * 10 - ((c : Int) - 48), by omega, hit2, hbw2 _, by omega, by omega, rfl, rfl, HE.out⟩
                case measure => simp only [World.iterPos, hit2, hit]; omega
            · have hE : parseV s.data.toList = none := by
                rw [HG.out, HST.out, if_neg (by omega)]; rfl
              have HE := Lib.hid hE
              clear hE
              have hnx := HX.out
              by_cases hm0 : m = 0 ∧ c = 48
              · obtain ⟨hm0, hc48⟩ := hm0
                have hmb : (m == 0) = true := by simpa using hm0
                have hcb : ((c : Int) - 48 == 0) = true := by rw [beq_iff_eq]; omega
                have HM := Lib.hid hm0
                clear hm0 hf hT hc48
                go_wp2_with (go_at_call 66; refine (digit_yes _ _ (by omega) (by omega)).mono ?_; rintro e w' ⟨rfl, rfl⟩)
                go_ret2
                exact ⟨ret_two (by rw [HE.out]; rfl) (by rw [HE.out]; rfl), hbw2 _⟩
              · have ht : m < (-9223372036854775808 + ((c : Int) - 48)).tdiv 10 := hT.2 (by omega)
                have hcm : (m == 0) = false ∨ ((m == 0) = true ∧ ((c : Int) - 48 == 0) = false) := by
                  by_cases hz : m = 0
                  · right
                    exact ⟨by simpa using hz, by rw [beq_eq_false_iff_ne]; omega⟩
                  · left; simpa using hz
                clear hm0 hf hT
                rcases hcm with hmb | ⟨hmb, hcb⟩
                all_goals
                  go_wp2_with (go_at_call 66; refine (digit_yes _ _ (by omega) (by omega)).mono ?_; rintro e w' ⟨rfl, rfl⟩)
                  go_ret2
                  exact ⟨ret_two (by rw [HE.out]; rfl) (by rw [HE.out]; rfl), hbw2 _⟩
          · have hE : parseV s.data.toList = none := by
              rw [HG.out, HST.out, if_neg (by omega)]; rfl
            have HE := Lib.hid hE
            clear hE
            have hnx := HX.out
            go_wp2_with (go_at_call 66; refine (digit_no _ _ (by omega)).mono ?_; rintro e w' ⟨rfl, rfl⟩)
            go_ret2
            exact ⟨ret_two (by rw [HE.out]; rfl) (by rw [HE.out]; rfl), hbw2 _⟩
        · obtain ⟨r, hr⟩ : ∃ r : Nat, (Utf8.decode s pos).1 = r := ⟨_, rfl⟩
          obtain ⟨l, hl⟩ : ∃ l : Nat, (Utf8.decode s pos).2 = l := ⟨_, rfl⟩
          have hr128 : 128 ≤ r := by rw [← hr]; exact (decode_high s pos hp (by omega)).1
          have hnx : ∀ ty, (Instr.next (.pointer (some ⟨w.heap.size, 0, none⟩)) true ty).run Tryd.prog wr = .ok (.tuple #[.bool true, .int .i64 pos, .int .i32 r]) (wr.iterAt w.heap.size s (pos + l)) := fun ty => by
            rw [Lib.run_next_any_at wr w.heap.size s pos ty hit hp, hr, hl]
          have hE : parseV s.data.toList = none := by
            rw [HG.out, HST.out, if_neg (by omega)]; rfl
          have HE := Lib.hid hE
          clear hE hr hl
          have hr45 : ((r : Int) == 45) = false := by rw [beq_eq_false_iff_ne]; omega
          go_wp2_with (go_at_call 66; refine (digit_no _ _ (by omega)).mono ?_; rintro e w' ⟨rfl, rfl⟩)
          go_ret2
          exact ⟨ret_two (by rw [HE.out]; rfl) (by rw [HE.out]; rfl), hbw2 _⟩
      · have HST := Lib.hid (digsZ_step s pos m hp)
        obtain ⟨c, hc⟩ : ∃ c : Nat, (s[pos]'hp).toNat = c := ⟨_, rfl⟩
        rw [hc] at HST hg'
        have hbw2 := Lib.below_iterAt hbw (k := w.heap.size) (Nat.le_refl _) s
        by_cases hasc : c < 128
        · have hnx : ∀ ty, (Instr.next (.pointer (some ⟨w.heap.size, 0, none⟩)) true ty).run Tryd.prog wr = .ok (.tuple #[.bool true, .int .i64 pos, .int .i32 c]) (wr.iterAt w.heap.size s (pos + 1)) := fun ty => by
            rw [Lib.run_next_ascii_at wr w.heap.size s pos ty hit hp (by rw [hc]; exact hasc), hc]
          have hit2 := Lib.iterAt_heap wr w.heap.size s pos (pos + 1) hit
          have HX := Lib.hid hnx
          clear hnx
          by_cases hd : 48 ≤ c ∧ c ≤ 57
          · obtain ⟨hd0, hd1⟩ := hd
            have hT := test_div m ((c : Int) - 48) (by omega) (by omega)
            by_cases hf : ¬ (m = 0 ∧ c = 48) ∧ -9223372036854775808 ≤ m * 10 - ((c : Int) - 48)
            · have ht : ¬ m < (-9223372036854775808 + ((c : Int) - 48)).tdiv 10 := fun e => by have := hT.1 e; omega
              have hE : parseV s.data.toList = endZ false (digsZ (s.data.toList.drop (pos + 1)) (m * 10 - ((c : Int) - 48))) := by
                rw [HG.out, HST.out, if_pos ⟨hd0, hd1, hf.1, hf.2⟩]
              have HE := Lib.hid hE
              obtain ⟨hf1, hf0⟩ := hf
              clear hE hT
              have hnx := HX.out
              by_cases hm0 : m = 0
              · have hmb : (m == 0) = true := by simpa using hm0
                have hcb : ((c : Int) - 48 == 0) = false := by rw [beq_eq_false_iff_ne]; omega
                have HM := Lib.hid hm0
                clear hm0 hf1
                go_wp2_with (go_at_call 66; refine (digit_yes _ _ (by omega) (by omega)).mono ?_; rintro e w' ⟨rfl, rfl⟩)
                go_roundw
                case rel => exact ⟨pos + 1, m * 10 - ((c : Int) - 48), by omega, hit2, hbw2 _, by omega, by omega, rfl, rfl, HE.out⟩
                case measure => simp only [World.iterPos, hit2, hit]; omega
              · have hmb : (m == 0) = false := by simpa using hm0
                clear hm0 hf1
                go_wp2_with (go_at_call 66; refine (digit_yes _ _ (by omega) (by omega)).mono ?_; rintro e w' ⟨rfl, rfl⟩)
                go_roundw
                case rel => exact ⟨pos + 1, m * 10 - ((c : Int) - 48), by omega, hit2, hbw2 _, by omega, by omega, rfl, rfl, HE.out⟩
                case measure => simp only [World.iterPos, hit2, hit]; omega
            · have hE : parseV s.data.toList = none := by
                rw [HG.out, HST.out, if_neg (by omega)]; rfl
              have HE := Lib.hid hE
              clear hE
              have hnx := HX.out
              by_cases hm0 : m = 0 ∧ c = 48
              · obtain ⟨hm0, hc48⟩ := hm0
                have hmb : (m == 0) = true := by simpa using hm0
                have hcb : ((c : Int) - 48 == 0) = true := by rw [beq_iff_eq]; omega
                have HM := Lib.hid hm0
                clear hm0 hf hT hc48
                go_wp2_with (go_at_call 66; refine (digit_yes _ _ (by omega) (by omega)).mono ?_; rintro e w' ⟨rfl, rfl⟩)
                go_ret2
                exact ⟨ret_two (by rw [HE.out]; rfl) (by rw [HE.out]; rfl), hbw2 _⟩
              · have ht : m < (-9223372036854775808 + ((c : Int) - 48)).tdiv 10 := hT.2 (by omega)
                have hcm : (m == 0) = false ∨ ((m == 0) = true ∧ ((c : Int) - 48 == 0) = false) := by
                  by_cases hz : m = 0
                  · right
                    exact ⟨by simpa using hz, by rw [beq_eq_false_iff_ne]; omega⟩
                  · left; simpa using hz
                clear hm0 hf hT
                rcases hcm with hmb | ⟨hmb, hcb⟩
                all_goals
                  go_wp2_with (go_at_call 66; refine (digit_yes _ _ (by omega) (by omega)).mono ?_; rintro e w' ⟨rfl, rfl⟩)
                  go_ret2
                  exact ⟨ret_two (by rw [HE.out]; rfl) (by rw [HE.out]; rfl), hbw2 _⟩
          · have hE : parseV s.data.toList = none := by
              rw [HG.out, HST.out, if_neg (by omega)]; rfl
            have HE := Lib.hid hE
            clear hE
            have hnx := HX.out
            go_wp2_with (go_at_call 66; refine (digit_no _ _ (by omega)).mono ?_; rintro e w' ⟨rfl, rfl⟩)
            go_ret2
            exact ⟨ret_two (by rw [HE.out]; rfl) (by rw [HE.out]; rfl), hbw2 _⟩
        · obtain ⟨r, hr⟩ : ∃ r : Nat, (Utf8.decode s pos).1 = r := ⟨_, rfl⟩
          obtain ⟨l, hl⟩ : ∃ l : Nat, (Utf8.decode s pos).2 = l := ⟨_, rfl⟩
          have hr128 : 128 ≤ r := by rw [← hr]; exact (decode_high s pos hp (by omega)).1
          have hnx : ∀ ty, (Instr.next (.pointer (some ⟨w.heap.size, 0, none⟩)) true ty).run Tryd.prog wr = .ok (.tuple #[.bool true, .int .i64 pos, .int .i32 r]) (wr.iterAt w.heap.size s (pos + l)) := fun ty => by
            rw [Lib.run_next_any_at wr w.heap.size s pos ty hit hp, hr, hl]
          have hE : parseV s.data.toList = none := by
            rw [HG.out, HST.out, if_neg (by omega)]; rfl
          have HE := Lib.hid hE
          clear hE hr hl
          have hr45 : ((r : Int) == 45) = false := by rw [beq_eq_false_iff_ne]; omega
          go_wp2_with (go_at_call 66; refine (digit_no _ _ (by omega)).mono ?_; rintro e w' ⟨rfl, rfl⟩)
          go_ret2
          exact ⟨ret_two (by rw [HE.out]; rfl) (by rw [HE.out]; rfl), hbw2 _⟩
    · have hnx : ∀ ty, (Instr.next (.pointer (some ⟨w.heap.size, 0, none⟩)) true ty).run Tryd.prog wr = _ := fun ty => Lib.run_next_end_at wr w.heap.size s pos ty hit hp
      have hpe : pos = s.size := by omega
      have e := HG.out
      rw [hpe, digsZ_end] at e
      clear hpe
      have HE := Lib.hid e
      clear e
      by_cases hm0 : m = 0
      · have hmb : (m == 0) = true := by simpa using hm0
        have HM := Lib.hid hm0
        clear hm0
        go_wp2
        go_ret2
        exact ⟨ret_two (by rw [HE.out, endZ, if_pos HM.out]; rfl) (by rw [HE.out, endZ, if_pos HM.out]; rfl), hbw⟩
      · have hmb : (m == 0) = false := by simpa using hm0
        have HM := Lib.hid hm0
        by_cases hL : m = -9223372036854775808
        · have hLb : (m == -9223372036854775808) = true := by simpa using hL
          have HL := Lib.hid hL
          clear hL hm0
          go_wp2
          go_ret2
          exact ⟨ret_two (by rw [HE.out, endZ, if_neg HM.out, if_neg (by decide), if_pos HL.out]; rfl) (by rw [HE.out, endZ, if_neg HM.out, if_neg (by decide), if_pos HL.out]; rfl), hbw⟩
        · have hLb : (m == -9223372036854775808) = false := by simpa using hL
          have HL := Lib.hid hL
          go_wp2
          go_ret2
          exact ⟨ret_two (by rw [HE.out, endZ, if_neg HM.out, if_neg (by decide), if_neg HL.out]; rfl) (by rw [HE.out, endZ, if_neg HM.out, if_neg (by decide), if_neg HL.out]; rfl), hbw⟩

set_option maxRecDepth 100000 in
set_option maxHeartbeats 2000000 in
theorem parse_minus_walk (s : ByteArray) (w : World) (hs : s.size ≤ 9223372036854775807) (h0 : 0 < s.size) (hm : (s[0]'h0).toNat = 45) :
    Calls Tryd.prog 52 #[.string s] w fun e w' => e = .returned (.tuple #[.int .i64 (valV (parseV s.data.toList)), .int .i64 (errV (parseV s.data.toList))]) ∧ Below w.heap.size w w' := by
  have hcons := (toList_cons s h0).2.2.2
  have he : (s[0]'h0) = 45 := UInt8.toNat_inj.1 (by rw [hm]; rfl)
  rw [he] at hcons
  have HR : Hid (parseV s.data.toList = endZ true (digsZ (s.data.toList.drop 1) 0)) := by
    unfold Hid
    rw [List.drop_one, parse_minus, ← hcons]
  have hne : ¬ s.toList = [48] := by
    rw [ByteArray.toList_eq, hcons]
    intro e
    cases e
  have hne2 : (s.toList == [48]) = false := by rw [beq_eq_false_iff_ne]; exact hne
  clear hcons he
  go_enter Tryd.func52, Tryd.ntmps52
  go_wp2
  go_loopw [4, 5, 6, 7, 8, 9] (fun b n _ _ _ _ wr => ∃ (pos : Nat) (m : Int), pos ≤ s.size ∧ wr.heap[w.heap.size]? = some (.stringIter s pos) ∧ Below w.heap.size w wr ∧ -9223372036854775808 ≤ m ∧ m ≤ 0 ∧ ((pos = 0 ∧ b = .bool false ∧ n = .int .i64 0) ∨ (1 ≤ pos ∧ b = .bool true ∧ n = .int .i64 m ∧ Hid (parseV s.data.toList = endZ true (digsZ (s.data.toList.drop pos) m))))) (fun _ _ _ _ _ _ wr => s.size - wr.iterPos w.heap.size)
  case atStart => exact ⟨0, 0, by omega, by simpa using World.iter_heap w s 0, (Below.refl _ w).alloc (Nat.le_refl _) _, by omega, by omega, Or.inl ⟨rfl, rfl, rfl⟩⟩
  case round =>
    obtain ⟨pos, m, hpos, hit, hbw, hm0, hm1, ⟨rfl, rfl, rfl⟩ | ⟨hpos1, rfl, rfl, HG⟩⟩ := hrel
    · have hnx : ∀ ty, (Instr.next (.pointer (some ⟨w.heap.size, 0, none⟩)) true ty).run Tryd.prog wr = .ok (.tuple #[.bool true, .int .i64 0, .int .i32 45]) (wr.iterAt w.heap.size s 1) := fun ty => by
        rw [Lib.run_next_ascii_at wr w.heap.size s 0 ty hit h0 (by rw [hm]; decide), hm]; rfl
      have hit2 := Lib.iterAt_heap wr w.heap.size s 0 1 hit
      have hbw2 := Lib.below_iterAt hbw (k := w.heap.size) (Nat.le_refl _) s
      go_wp2
      go_roundw
      case rel => exact ⟨1, 0, by omega, hit2, hbw2 _, by omega, by omega, Or.inr ⟨by omega, rfl, rfl, HR.out⟩⟩
      case measure => simp only [World.iterPos, hit2, hit]; omega
    · by_cases hp : pos < s.size
      · have hg : ((pos : Int) == 0) = false := by rw [beq_eq_false_iff_ne]; omega
        have HST := Lib.hid (digsZ_step s pos m hp)
        obtain ⟨c, hc⟩ : ∃ c : Nat, (s[pos]'hp).toNat = c := ⟨_, rfl⟩
        rw [hc] at HST
        have hbw2 := Lib.below_iterAt hbw (k := w.heap.size) (Nat.le_refl _) s
        by_cases hasc : c < 128
        · have hnx : ∀ ty, (Instr.next (.pointer (some ⟨w.heap.size, 0, none⟩)) true ty).run Tryd.prog wr = .ok (.tuple #[.bool true, .int .i64 pos, .int .i32 c]) (wr.iterAt w.heap.size s (pos + 1)) := fun ty => by
            rw [Lib.run_next_ascii_at wr w.heap.size s pos ty hit hp (by rw [hc]; exact hasc), hc]
          have hit2 := Lib.iterAt_heap wr w.heap.size s pos (pos + 1) hit
          have HX := Lib.hid hnx
          clear hnx
          by_cases hd : 48 ≤ c ∧ c ≤ 57
          · obtain ⟨hd0, hd1⟩ := hd
            have hT := test_div m ((c : Int) - 48) (by omega) (by omega)
            by_cases hf : ¬ (m = 0 ∧ c = 48) ∧ -9223372036854775808 ≤ m * 10 - ((c : Int) - 48)
            · have ht : ¬ m < (-9223372036854775808 + ((c : Int) - 48)).tdiv 10 := fun e => by have := hT.1 e; omega
              have hE : parseV s.data.toList = endZ true (digsZ (s.data.toList.drop (pos + 1)) (m * 10 - ((c : Int) - 48))) := by
                rw [HG.out, HST.out, if_pos ⟨hd0, hd1, hf.1, hf.2⟩]
              have HE := Lib.hid hE
              obtain ⟨hf1, hf0⟩ := hf
              clear hE hT
              have hnx := HX.out
              by_cases hm0 : m = 0
              · have hmb : (m == 0) = true := by simpa using hm0
                have hcb : ((c : Int) - 48 == 0) = false := by rw [beq_eq_false_iff_ne]; omega
                have HM := Lib.hid hm0
                clear hm0 hf1
                go_wp2_with (go_at_call 66; refine (digit_yes _ _ (by omega) (by omega)).mono ?_; rintro e w' ⟨rfl, rfl⟩)
                go_roundw
                case rel => exact ⟨pos + 1, m * 10 - ((c : Int) - 48), by omega, hit2, hbw2 _, by omega, by omega, Or.inr ⟨by omega, rfl, rfl, HE.out⟩⟩
                case measure => simp only [World.iterPos, hit2, hit]; omega
              · have hmb : (m == 0) = false := by simpa using hm0
                clear hm0 hf1
                go_wp2_with (go_at_call 66; refine (digit_yes _ _ (by omega) (by omega)).mono ?_; rintro e w' ⟨rfl, rfl⟩)
                go_roundw
                case rel => exact ⟨pos + 1, m * 10 - ((c : Int) - 48), by omega, hit2, hbw2 _, by omega, by omega, Or.inr ⟨by omega, rfl, rfl, HE.out⟩⟩
                case measure => simp only [World.iterPos, hit2, hit]; omega
            · have hE : parseV s.data.toList = none := by
                rw [HG.out, HST.out, if_neg (by omega)]; rfl
              have HE := Lib.hid hE
              clear hE
              have hnx := HX.out
              by_cases hm0 : m = 0 ∧ c = 48
              · obtain ⟨hm0, hc48⟩ := hm0
                have hmb : (m == 0) = true := by simpa using hm0
                have hcb : ((c : Int) - 48 == 0) = true := by rw [beq_iff_eq]; omega
                have HM := Lib.hid hm0
                clear hm0 hf hT hc48
                go_wp2_with (go_at_call 66; refine (digit_yes _ _ (by omega) (by omega)).mono ?_; rintro e w' ⟨rfl, rfl⟩)
                go_ret2
                exact ⟨ret_two (by rw [HE.out]; rfl) (by rw [HE.out]; rfl), hbw2 _⟩
              · have ht : m < (-9223372036854775808 + ((c : Int) - 48)).tdiv 10 := hT.2 (by omega)
                have hcm : (m == 0) = false ∨ ((m == 0) = true ∧ ((c : Int) - 48 == 0) = false) := by
                  by_cases hz : m = 0
                  · right
                    exact ⟨by simpa using hz, by rw [beq_eq_false_iff_ne]; omega⟩
                  · left; simpa using hz
                clear hm0 hf hT
                rcases hcm with hmb | ⟨hmb, hcb⟩
                all_goals
                  go_wp2_with (go_at_call 66; refine (digit_yes _ _ (by omega) (by omega)).mono ?_; rintro e w' ⟨rfl, rfl⟩)
                  go_ret2
                  exact ⟨ret_two (by rw [HE.out]; rfl) (by rw [HE.out]; rfl), hbw2 _⟩
          · have hE : parseV s.data.toList = none := by
              rw [HG.out, HST.out, if_neg (by omega)]; rfl
            have HE := Lib.hid hE
            clear hE
            have hnx := HX.out
            go_wp2_with (go_at_call 66; refine (digit_no _ _ (by omega)).mono ?_; rintro e w' ⟨rfl, rfl⟩)
            go_ret2
            exact ⟨ret_two (by rw [HE.out]; rfl) (by rw [HE.out]; rfl), hbw2 _⟩
        · obtain ⟨r, hr⟩ : ∃ r : Nat, (Utf8.decode s pos).1 = r := ⟨_, rfl⟩
          obtain ⟨l, hl⟩ : ∃ l : Nat, (Utf8.decode s pos).2 = l := ⟨_, rfl⟩
          have hr128 : 128 ≤ r := by rw [← hr]; exact (decode_high s pos hp (by omega)).1
          have hnx : ∀ ty, (Instr.next (.pointer (some ⟨w.heap.size, 0, none⟩)) true ty).run Tryd.prog wr = .ok (.tuple #[.bool true, .int .i64 pos, .int .i32 r]) (wr.iterAt w.heap.size s (pos + l)) := fun ty => by
            rw [Lib.run_next_any_at wr w.heap.size s pos ty hit hp, hr, hl]
          have hE : parseV s.data.toList = none := by
            rw [HG.out, HST.out, if_neg (by omega)]; rfl
          have HE := Lib.hid hE
          clear hE hr hl
          have hr45 : ((r : Int) == 45) = false := by rw [beq_eq_false_iff_ne]; omega
          go_wp2_with (go_at_call 66; refine (digit_no _ _ (by omega)).mono ?_; rintro e w' ⟨rfl, rfl⟩)
          go_ret2
          exact ⟨ret_two (by rw [HE.out]; rfl) (by rw [HE.out]; rfl), hbw2 _⟩
      · have hnx : ∀ ty, (Instr.next (.pointer (some ⟨w.heap.size, 0, none⟩)) true ty).run Tryd.prog wr = _ := fun ty => Lib.run_next_end_at wr w.heap.size s pos ty hit hp
        have hpe : pos = s.size := by omega
        have e := HG.out
        rw [hpe, digsZ_end] at e
        clear hpe
        have HE := Lib.hid e
        clear e
        by_cases hm0 : m = 0
        · have hmb : (m == 0) = true := by simpa using hm0
          have HM := Lib.hid hm0
          clear hm0
          go_wp2
          go_ret2
          exact ⟨ret_two (by rw [HE.out, endZ, if_pos HM.out]; rfl) (by rw [HE.out, endZ, if_pos HM.out]; rfl), hbw⟩
        · have hmb : (m == 0) = false := by simpa using hm0
          have HM := Lib.hid hm0
          go_wp2
          go_ret2
          exact ⟨ret_two (by rw [HE.out, endZ, if_neg HM.out]; rfl) (by rw [HE.out, endZ, if_neg HM.out]; rfl), hbw⟩

theorem parse_any (s : ByteArray) (w : World) (hs : s.size ≤ 9223372036854775807) :
    Calls Tryd.prog 52 #[.string s] w fun e w' => e = .returned (.tuple #[.int .i64 (valV (parseV s.data.toList)), .int .i64 (errV (parseV s.data.toList))]) ∧ Below w.heap.size w w' := by
  by_cases h48 : s.data.toList = [48]
  · exact parse_zero s w h48
  · by_cases h0 : 0 < s.size
    · by_cases hm : (s[0]'h0).toNat = 45
      · exact parse_minus_walk s w hs h0 hm
      · refine parse_plain_walk s w hs h48 ?_
        rw [(toList_cons s h0).2.2.2, List.head?_cons]
        intro e
        rw [Option.some.inj e] at hm
        exact hm rfl
    · refine parse_plain_walk s w hs h48 ?_
      rw [(toList_nil s (by omega)).2.2]
      exact fun e => by cases e

end Go.Proofs.YtbldahkgilkclaaDoor
