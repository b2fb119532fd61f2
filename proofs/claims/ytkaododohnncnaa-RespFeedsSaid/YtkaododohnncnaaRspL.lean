/-
  The walks of the document's own answers for a line's words: blank, digit, escape. Conditions: the text is a text.
-/
import Derived.Test.YtkaododohnncnaaRspC
import Derived.Deep.QuietTactic
import Derived.BigQuiet
namespace Go.Proofs.Ytkaododohnncnaa
open Go.RowKit

set_option maxHeartbeats 400000 in
theorem rblank_yes (c : Int) (w : World) (h : (9 ≤ c ∧ c ≤ 13) ∨ c = 32) :
    Calls Try.prog 30 #[.int .u8 c] w fun e w' => e = .returned (.bool true) ∧ w = w' := by
  rcases h with ⟨h1, h2⟩ | rfl
  all_goals
    go_enter Try.func30, Try.ntmps30
    go_wp2
    go_ret
    exact ⟨rfl, rfl⟩
set_option maxHeartbeats 400000 in
theorem rblank_no (c : Int) (w : World) (h : ¬ ((9 ≤ c ∧ c ≤ 13) ∨ c = 32)) :
    Calls Try.prog 30 #[.int .u8 c] w fun e w' => e = .returned (.bool false) ∧ w = w' := by
  have h3 : (c == 32) = false := by rw [beq_eq_false_iff_ne]; omega
  by_cases h1 : 9 ≤ c
  · have h2 : ¬ c ≤ 13 := by omega
    clear h
    go_enter Try.func30, Try.ntmps30
    go_wp2
    go_ret
    exact ⟨rfl, rfl⟩
  · clear h
    go_enter Try.func30, Try.ntmps30
    go_wp2
    go_ret
    exact ⟨rfl, rfl⟩

set_option maxHeartbeats 400000 in
theorem rdigit_any (c : UInt8) (w : World) :
    Calls Try.prog 53 #[.int .u8 (c.toNat : Int)] w fun e w' => e = .returned (.int .i64 (hexI c)) ∧ w = w' := by
  obtain ⟨x, hx⟩ : ∃ x : Nat, c.toNat = x := ⟨_, rfl⟩
  have hh : hexI c = if 48 ≤ x ∧ x ≤ 57 then (x : Int) - 48 else if 97 ≤ x ∧ x ≤ 102 then (x : Int) - 97 + 10 else if 65 ≤ x ∧ x ≤ 70 then (x : Int) - 65 + 10 else -1 := by
    unfold hexI hexS
    rw [hx]
    by_cases a : 48 ≤ x ∧ x ≤ 57
    · rw [if_pos a, if_pos a]; simp only; omega
    · rw [if_neg a, if_neg a]
      by_cases b : 97 ≤ x ∧ x ≤ 102
      · rw [if_pos b, if_pos b]; simp only; omega
      · rw [if_neg b, if_neg b]
        by_cases d : 65 ≤ x ∧ x ≤ 70
        · rw [if_pos d, if_pos d]; simp only; omega
        · rw [if_neg d, if_neg d]
  have HH := Lib.hid hh
  have h255 : x < 256 := by rw [← hx]; exact UInt8.toNat_lt c
  rw [hx]
  clear hh hx
  by_cases a1 : 48 ≤ x <;> by_cases a2 : x ≤ 57 <;> by_cases b1 : 97 ≤ x <;> by_cases b2 : x ≤ 102 <;> by_cases d1 : 65 ≤ x <;> by_cases d2 : x ≤ 70
  all_goals try (exfalso; omega)
  all_goals
    go_enter Try.func53, Try.ntmps53
    go_wp2
  all_goals go_ret
  all_goals exact ⟨ret_one (by rw [HH.out]; (repeat' split) <;> omega), rfl⟩

set_option maxHeartbeats 1000000 in
theorem resc_end (s : ByteArray) (at_ : Nat) (w : World) (hs : s.size ≤ 4611686018427387904) (h : s.size ≤ at_ + 1) (hat : at_ < s.size) :
    Calls Try.prog 48 #[.string s, .int .i64 at_] w fun e w' => e = .returned (.tuple #[.int .u8 (((92 : UInt8)).toNat : Int), .int .i64 1]) ∧ Below w.heap.size w w' := by
  go_enter Try.func48, Try.ntmps48
  go_wp2
  go_ret2
  exact ⟨rfl, Below.refl _ _⟩

set_option maxHeartbeats 2000000 in
theorem resc_other (s : ByteArray) (at_ : Nat) (w : World) (hs : s.size ≤ 4611686018427387904) (h1 : at_ + 1 < s.size) (h120 : (s[at_ + 1]'h1) ≠ 120) :
    Calls Try.prog 48 #[.string s, .int .i64 at_] w fun e w' => e = .returned (.tuple #[.int .u8 ((escD (s[at_ + 1]'h1)).toNat : Int), .int .i64 2]) ∧ Below w.heap.size w w' := by
  obtain ⟨c, hc⟩ : ∃ c : UInt8, (s[at_ + 1]'h1) = c := ⟨_, rfl⟩
  rw [hc]
  rw [hc] at h120
  rcases escD_cases c with ⟨e, he⟩ | ⟨e, he⟩ | ⟨e, he⟩ | ⟨e, he⟩ | ⟨e, he⟩ | ⟨e1, e2, e3, e4, e5, he⟩
  rotate_left 5
  · obtain ⟨x, hx⟩ : ∃ x : Nat, c.toNat = x := ⟨_, rfl⟩
    have g1 : ((x : Int) == 110) = false := neI hx e1
    have g2 : ((x : Int) == 114) = false := neI hx e2
    have g3 : ((x : Int) == 116) = false := neI hx e3
    have g4 : ((x : Int) == 98) = false := neI hx e4
    have g5 : ((x : Int) == 97) = false := neI hx e5
    have g6 : ((x : Int) == 120) = false := neI hx h120
    clear h120
    rw [he, hx]
    clear he e1 e2 e3 e4 e5
    go_enter Try.func48, Try.ntmps48
    go_wp2
    go_ret2
    exact ⟨rfl, Below.refl _ _⟩
  all_goals
    clear h120
    rw [he]
    clear he
    subst e
    go_enter Try.func48, Try.ntmps48
    go_wp2
    go_ret2
    exact ⟨rfl, Below.refl _ _⟩

set_option maxHeartbeats 1000000 in
theorem resc_xshort (s : ByteArray) (at_ : Nat) (w : World) (hs : s.size ≤ 4611686018427387904) (h1 : at_ + 1 < s.size) (h120 : (s[at_ + 1]'h1) = 120) (h3 : s.size ≤ at_ + 3) :
    Calls Try.prog 48 #[.string s, .int .i64 at_] w fun e w' => e = .returned (.tuple #[.int .u8 ((escD 120).toNat : Int), .int .i64 2]) ∧ Below w.heap.size w w' := by
  go_enter Try.func48, Try.ntmps48
  go_wp2
  go_ret2
  exact ⟨rfl, Below.refl _ _⟩

set_option maxHeartbeats 1000000 in
theorem resc_xa (s : ByteArray) (at_ : Nat) (w : World) (hs : s.size ≤ 4611686018427387904) (h1 : at_ + 1 < s.size) (h120 : (s[at_ + 1]'h1) = 120) (h2 : at_ + 2 < s.size) (h3 : at_ + 3 < s.size) (ha : hexI (s[at_ + 2]'h2) < 0) :
    Calls Try.prog 48 #[.string s, .int .i64 at_] w fun e w' => e = .returned (.tuple #[.int .u8 ((escD 120).toNat : Int), .int .i64 2]) ∧ Below w.heap.size w w' := by
  go_enter Try.func48, Try.ntmps48
  go_wp2_with (go_at_call 53; refine (rdigit_any _ _).mono ?_; rintro e w' ⟨rfl, rfl⟩)
  go_ret2
  exact ⟨rfl, Below.refl _ _⟩

set_option maxHeartbeats 1000000 in
theorem resc_xb (s : ByteArray) (at_ : Nat) (w : World) (hs : s.size ≤ 4611686018427387904) (h1 : at_ + 1 < s.size) (h120 : (s[at_ + 1]'h1) = 120) (h2 : at_ + 2 < s.size) (h3 : at_ + 3 < s.size) (ha : 0 ≤ hexI (s[at_ + 2]'h2)) (hb : hexI (s[at_ + 3]'h3) < 0) :
    Calls Try.prog 48 #[.string s, .int .i64 at_] w fun e w' => e = .returned (.tuple #[.int .u8 ((escD 120).toNat : Int), .int .i64 2]) ∧ Below w.heap.size w w' := by
  go_enter Try.func48, Try.ntmps48
  go_wp2_with (go_at_call 53; refine (rdigit_any _ _).mono ?_; rintro e w' ⟨rfl, rfl⟩)
  go_ret2
  exact ⟨rfl, Below.refl _ _⟩

set_option maxHeartbeats 1000000 in
theorem resc_hex (s : ByteArray) (at_ : Nat) (x y : Nat) (w : World) (hs : s.size ≤ 4611686018427387904) (h1 : at_ + 1 < s.size) (h120 : (s[at_ + 1]'h1) = 120) (h2 : at_ + 2 < s.size) (h3 : at_ + 3 < s.size) (ha : hexI (s[at_ + 2]'h2) = (x : Int)) (hb : hexI (s[at_ + 3]'h3) = (y : Int)) (hx : x < 16) (hy : y < 16) :
    Calls Try.prog 48 #[.string s, .int .i64 at_] w fun e w' => e = .returned (.tuple #[.int .u8 ((UInt8.ofNat (x * 16 + y)).toNat : Int), .int .i64 4]) ∧ Below w.heap.size w w' := by
  have HV : Hid (((UInt8.ofNat (x * 16 + y)).toNat : Int) = (x : Int) * 16 + (y : Int)) := by unfold Hid; rw [UInt8.toNat_ofNat']; omega
  go_enter Try.func48, Try.ntmps48
  go_wp2_with (go_at_call 53; refine (rdigit_any _ _).mono ?_; rintro e w' ⟨rfl, rfl⟩)
  go_quiet ((go_at_call 53; exact Calls.quiet_of_same ((rdigit_any _ _).mono fun _ _ h => ⟨h.1, h.2.symm⟩)))
  go_wp2
  go_ret2
  exact ⟨ret_two HV.out.symm rfl, below_drewN (Below.refl _ _) _⟩

theorem rescape_any (s : ByteArray) (at_ : Nat) (w : World) (hs : s.size ≤ 4611686018427387904) (hat : at_ < s.size) :
    Calls Try.prog 48 #[.string s, .int .i64 at_] w fun e w' => e = .returned (.tuple #[.int .u8 (((escS (s.data.toList.drop (at_ + 1))).1).toNat : Int), .int .i64 ((escS (s.data.toList.drop (at_ + 1))).2 : Nat)]) ∧ Below w.heap.size w w' := by
  by_cases h1 : at_ + 1 < s.size
  · rw [drop_at s (at_ + 1) h1]
    by_cases h120 : (s[at_ + 1]'h1) = 120
    · by_cases h3 : at_ + 3 < s.size
      · have h2 : at_ + 2 < s.size := by omega
        rw [h120, drop_at s (at_ + 1 + 1) h2, drop_at s (at_ + 1 + 1 + 1) h3]
        cases ha : hexS (s[at_ + 2]'h2) with
        | none =>
          rw [escS_hexa _ _ _ ha]
          exact resc_xa s at_ w hs h1 h120 h2 h3 (by unfold hexI; rw [ha]; decide)
        | some x =>
          cases hb : hexS (s[at_ + 3]'h3) with
          | none =>
            rw [escS_hexb _ _ _ x ha hb]
            exact resc_xb s at_ w hs h1 h120 h2 h3 (by unfold hexI; rw [ha]; simp) (by unfold hexI; rw [hb]; decide)
          | some y =>
            rw [escS_hex _ _ _ x y ha hb]
            exact resc_hex s at_ x y w hs h1 h120 h2 h3 (by unfold hexI; rw [ha]) (by unfold hexI; rw [hb]) (hexS_lt ha) (hexS_lt hb)
      · rw [h120, escS_short _ (by rw [List.length_drop, Array.length_toList]; show s.size - _ < 2; omega)]
        exact resc_xshort s at_ w hs h1 h120 (by omega)
    · rw [escS_other _ _ h120]
      exact resc_other s at_ w hs h1 h120
  · rw [List.drop_eq_nil_of_le (by rw [Array.length_toList]; show s.size ≤ _; omega)]
    exact resc_end s at_ w hs (by omega) hat

end Go.Proofs.Ytkaododohnncnaa
