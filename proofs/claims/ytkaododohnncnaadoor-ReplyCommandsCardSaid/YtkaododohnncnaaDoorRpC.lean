/-
  The walks of package resp's escapes: hexOr, escaped. Conditions: what is left of the bytes lies in memory as a slice that reads as them.
-/
import Derived.Test.YtkaododohnncnaaDoorRpB
namespace Go.Proofs.YtkaododohnncnaaDoor
open Go.RowKit

theorem hex_or (x y : Nat) (hx : x < 16) (hy : y < 16) : ((UInt8.ofNat (x * 16 + y)).toNat : Int) = (x : Int) * 16 + (y : Int) := by
  rw [UInt8.toNat_ofNat']; omega

theorem bits_or_fin : ∀ p q : Fin 16, bits BinOp.or .u8 ((p.val : Int) * 16) (q.val : Int) = (p.val : Int) * 16 + (q.val : Int) := by decide
theorem bits_or16 (p q : Nat) (hp : p < 16) (hq : q < 16) : bits BinOp.or .u8 ((p : Int) * 16) (q : Int) = (p : Int) * 16 + (q : Int) := bits_or_fin ⟨p, hp⟩ ⟨q, hq⟩

set_option maxRecDepth 100000 in
set_option maxHeartbeats 1000000 in
theorem phexOr_short (B b : Nat) (v : Value) (c : Int) (l : List UInt8) (w : World) (hc : w.cell? ⟨B, 0, none⟩ = some v) (hl : LeftV w b v l) (h : l.length < 2) :
    Calls Tryd.prog 133 #[.pointer (some ⟨B, 0, none⟩), .int .u8 c] w fun e w' => e = .returned (.int .u8 c) ∧ w = w' := by
  obtain ⟨o, cap, rfl, h1, h2, h3⟩ := hl
  have H3 := Lib.hid h3
  clear h3
  go_enter Tryd.func133, Tryd.ntmps133
  go_wp2
  go_ret
  exact ⟨rfl, rfl⟩

set_option maxRecDepth 100000 in
set_option maxHeartbeats 2000000 in
theorem phexOr_no (B b : Nat) (v : Value) (c : Int) (x y : UInt8) (r : List UInt8) (w : World) (hc : w.cell? ⟨B, 0, none⟩ = some v) (hl : LeftV w b v (x :: y :: r)) (h : hexS x = none ∨ hexS y = none) :
    Calls Tryd.prog 133 #[.pointer (some ⟨B, 0, none⟩), .int .u8 c] w fun e w' => e = .returned (.int .u8 c) ∧ w = w' := by
  obtain ⟨o, cap, rfl, h1, h2, h3⟩ := hl
  have hx := h3 0 (by simp)
  have hy := h3 1 (by simp)
  simp only [Nat.add_zero, List.getD_cons_zero, List.getD_cons_succ] at hx hy
  clear h3
  rw [List.length_cons, List.length_cons] at h1 hc
  have hX : hexV x = (match hexS x with | some x => .tuple #[.int .u8 (x : Int), .bool true] | none => .tuple #[.int .u8 0, .bool false]) := rfl
  have hY : hexV y = (match hexS y with | some x => .tuple #[.int .u8 (x : Int), .bool true] | none => .tuple #[.int .u8 0, .bool false]) := rfl
  cases h4 : hexS x with
  | none =>
    rw [h4] at hX
    cases h5 : hexS y with
    | none =>
      rw [h5] at hY
      clear h4 h5 h
      go_enter Tryd.func133, Tryd.ntmps133
      go_wp2_with (go_at_call 135; refine (phex_any _ _).mono ?_; rintro e w' ⟨rfl, rfl⟩; first | rw [hX] | rw [hY])
      go_ret
      exact ⟨rfl, rfl⟩
    | some q =>
      rw [h5] at hY
      clear h4 h5 h
      go_enter Tryd.func133, Tryd.ntmps133
      go_wp2_with (go_at_call 135; refine (phex_any _ _).mono ?_; rintro e w' ⟨rfl, rfl⟩; first | rw [hX] | rw [hY])
      go_ret
      exact ⟨rfl, rfl⟩
  | some p =>
    rw [h4] at hX
    have h5 : hexS y = none := by
      rcases h with h | h
      · rw [h4] at h; cases h
      · exact h
    rw [h5] at hY
    clear h4 h5 h
    go_enter Tryd.func133, Tryd.ntmps133
    go_wp2_with (go_at_call 135; refine (phex_any _ _).mono ?_; rintro e w' ⟨rfl, rfl⟩; first | rw [hX] | rw [hY])
    go_ret
    exact ⟨rfl, rfl⟩

set_option maxRecDepth 100000 in
set_option maxHeartbeats 2000000 in
theorem phexOr_yes (B b : Nat) (v : Value) (c : Int) (x y : UInt8) (p q : Nat) (r : List UInt8) (w : World) (hB : B < w.heap.size) (hc : w.cell? ⟨B, 0, none⟩ = some v) (hf : w.frozen? ⟨B, 0, none⟩ = false) (hl : LeftV w b v (x :: y :: r)) (h4 : hexS x = some p) (h5 : hexS y = some q) :
    Calls Tryd.prog 133 #[.pointer (some ⟨B, 0, none⟩), .int .u8 c] w fun e w' => ∃ v', e = .returned (.int .u8 ((UInt8.ofNat (p * 16 + q)).toNat : Int)) ∧ LeftV w b v' r ∧ Put w ⟨B, 0, none⟩ v' w' := by
  obtain ⟨o, cap, rfl, h1, h2, h3⟩ := hl
  have hx := h3 0 (by simp)
  have hy := h3 1 (by simp)
  have H3 := Lib.hid h3
  simp only [Nat.add_zero, List.getD_cons_zero, List.getD_cons_succ] at hx hy
  clear h3
  rw [List.length_cons, List.length_cons] at h1 hc
  have hp := hexS_lt h4
  have hq := hexS_lt h5
  have hX : hexV x = .tuple #[.int .u8 (p : Int), .bool true] := by unfold hexV; rw [h4]
  have hY : hexV y = .tuple #[.int .u8 (q : Int), .bool true] := by unfold hexV; rw [h5]
  have HV := Lib.hid (hex_or p q hp hq)
  clear h4 h5
  rcases Nat.lt_or_ge 2 cap with hnc | hnc
  · go_enter Tryd.func133, Tryd.ntmps133
    go_wp2_with (go_at_call 135; refine (phex_any _ _).mono ?_; rintro e w' ⟨rfl, rfl⟩; first | rw [hX] | rw [hY])
    go_ret
    refine ⟨_, ret_one ?_, leftv (l := r) (by simpa using H3.out.cut 2) rfl (by omega) (by omega), Put.set w _ hB⟩
    rw [HV.out]
    exact bits_or16 p q hp hq
  · obtain rfl : cap = 2 := by omega
    obtain rfl : r = [] := List.length_eq_zero_iff.1 (by omega)
    go_enter Tryd.func133, Tryd.ntmps133
    go_wp2_with (go_at_call 135; refine (phex_any _ _).mono ?_; rintro e w' ⟨rfl, rfl⟩; first | rw [hX] | rw [hY])
    go_ret
    refine ⟨_, ret_one ?_, leftv (l := []) (bytes_nil _ _ _) rfl (by omega) (by omega), Put.set w _ hB⟩
    rw [HV.out]
    exact bits_or16 p q hp hq

/-- What escaped tells. -/
def EscPost (w : World) (B b : Nat) (r : List UInt8) (e : Ending) (w' : World) : Prop :=
  ∃ v', e = .returned (.int .u8 ((escS r).1.toNat : Int)) ∧ LeftV w b v' ((92 :: r).drop (escS r).2) ∧ Put w ⟨B, 0, none⟩ v' w'

set_option maxRecDepth 100000 in
set_option maxHeartbeats 1000000 in
theorem pesc_end (B b : Nat) (v : Value) (w : World) (hc : w.cell? ⟨B, 0, none⟩ = some v) (hl : LeftV w b v []) :
    Calls Tryd.prog 129 #[.pointer (some ⟨B, 0, none⟩)] w fun e w' => Thrown (perrB ++ unbL) e ∧ w = w' := by
  go_enter Tryd.func129, Tryd.ntmps129
  go_wp2_with fail
  refine (pnext_end B b v _ hc hl).mono ?_
  rintro e w' ⟨rfl, rfl⟩
  go_wp2
  exact ⟨rfl, rfl, rfl⟩

set_option maxRecDepth 100000 in
set_option maxHeartbeats 4000000 in
theorem pesc_plain (B b : Nat) (v : Value) (c : UInt8) (r : List UInt8) (w : World) (hB : B < w.heap.size) (hb : b < w.heap.size) (hn : b ≠ B) (hc : w.cell? ⟨B, 0, none⟩ = some v) (hf : w.frozen? ⟨B, 0, none⟩ = false) (hl : LeftV w b v (c :: r)) (h120 : c ≠ 120) :
    Calls Tryd.prog 129 #[.pointer (some ⟨B, 0, none⟩)] w (EscPost w B b (c :: r)) := by
  unfold EscPost
  rw [escS_other c r h120]
  rcases escD_cases c with ⟨e, he⟩ | ⟨e, he⟩ | ⟨e, he⟩ | ⟨e, he⟩ | ⟨e, he⟩ | ⟨e1, e2, e3, e4, e5, he⟩
  rotate_left 5
  · have hnx := pnext_ok B b v c r w hB hb hn hc hf hl
    obtain ⟨x, hx⟩ : ∃ x : Nat, c.toNat = x := ⟨_, rfl⟩
    have g1 : ((x : Int) == 110) = false := neI hx e1
    have g2 : ((x : Int) == 114) = false := neI hx e2
    have g3 : ((x : Int) == 116) = false := neI hx e3
    have g4 : ((x : Int) == 98) = false := neI hx e4
    have g5 : ((x : Int) == 97) = false := neI hx e5
    have g6 : ((x : Int) == 120) = false := neI hx h120
    rw [hx] at hnx
    have HNX := Lib.hid hnx
    clear h120 hnx
    rw [he, hx]
    clear he e1 e2 e3 e4 e5
    go_enter Tryd.func129, Tryd.ntmps129
    go_wp2_with fail
    refine HNX.out.mono ?_
    rintro e w' ⟨v', rfl, hv, hp⟩
    go_wp2
    go_ret
    exact ⟨_, rfl, hv, hp⟩
  all_goals
    have HNX := Lib.hid (pnext_ok B b v c r w hB hb hn hc hf hl)
    clear h120
    rw [he]
    clear he
    subst e
    go_enter Tryd.func129, Tryd.ntmps129
    go_wp2_with fail
    refine HNX.out.mono ?_
    rintro e w' ⟨v', rfl, hv, hp⟩
    go_wp2
    go_ret
    exact ⟨_, rfl, hv, hp⟩

set_option maxRecDepth 100000 in
set_option maxHeartbeats 2000000 in
theorem pesc_x (B b : Nat) (v : Value) (r : List UInt8) (w : World) (hB : B < w.heap.size) (hb : b < w.heap.size) (hn : b ≠ B) (hc : w.cell? ⟨B, 0, none⟩ = some v) (hf : w.frozen? ⟨B, 0, none⟩ = false) (hl : LeftV w b v (120 :: r)) :
    Calls Tryd.prog 129 #[.pointer (some ⟨B, 0, none⟩)] w (EscPost w B b (120 :: r)) := by
  unfold EscPost
  have HNX := Lib.hid (pnext_ok B b v 120 r w hB hb hn hc hf hl)
  by_cases h2 : r.length < 2
  · rw [escS_short r h2]
    go_enter Tryd.func129, Tryd.ntmps129
    go_wp2_with fail
    refine HNX.out.mono ?_
    rintro e w' ⟨v', rfl, hv, hp⟩
    go_wp2_with fail
    refine (phexOr_short B b v' 120 r w' (hp.cell hc) (hv.put hp hb hn) h2).mono ?_
    rintro e w2 ⟨rfl, rfl⟩
    go_wp2
    go_ret
    exact ⟨_, rfl, hv, hp⟩
  · obtain ⟨x, y, r', rfl⟩ : ∃ x y r', r = x :: y :: r' := by
      match r, h2 with
      | x :: y :: r', _ => exact ⟨x, y, r', rfl⟩
      | [], h => exact absurd (by simp) h
      | [_], h => exact absurd (by simp) h
    cases h4 : hexS x with
    | none =>
      rw [escS_hexa x y r' h4]
      go_enter Tryd.func129, Tryd.ntmps129
      go_wp2_with fail
      refine HNX.out.mono ?_
      rintro e w' ⟨v', rfl, hv, hp⟩
      go_wp2_with fail
      refine (phexOr_no B b v' 120 x y r' w' (hp.cell hc) (hv.put hp hb hn) (Or.inl h4)).mono ?_
      rintro e w2 ⟨rfl, rfl⟩
      go_wp2
      go_ret
      exact ⟨_, rfl, hv, hp⟩
    | some p =>
      cases h5 : hexS y with
      | none =>
        rw [escS_hexb x y r' p h4 h5]
        go_enter Tryd.func129, Tryd.ntmps129
        go_wp2_with fail
        refine HNX.out.mono ?_
        rintro e w' ⟨v', rfl, hv, hp⟩
        go_wp2_with fail
        refine (phexOr_no B b v' 120 x y r' w' (hp.cell hc) (hv.put hp hb hn) (Or.inr h5)).mono ?_
        rintro e w2 ⟨rfl, rfl⟩
        go_wp2
        go_ret
        exact ⟨_, rfl, hv, hp⟩
      | some q =>
        rw [escS_hex x y r' p q h4 h5]
        go_enter Tryd.func129, Tryd.ntmps129
        go_wp2_with fail
        refine HNX.out.mono ?_
        rintro e w' ⟨v', rfl, hv, hp⟩
        go_wp2_with fail
        refine (phexOr_yes B b v' 120 x y p q r' w' (Nat.lt_of_lt_of_le hB hp.size) (hp.cell hc) ((hp.frozen hB).trans hf) (hv.put hp hb hn) h4 h5).mono ?_
        rintro e w2 ⟨v2, rfl, hv2, hp2⟩
        go_wp2
        go_ret
        exact ⟨_, rfl, hv2.back hp hb hn, hp.trans hp2⟩

theorem pesc_any (B b : Nat) (v : Value) (c : UInt8) (r : List UInt8) (w : World) (hB : B < w.heap.size) (hb : b < w.heap.size) (hn : b ≠ B) (hc : w.cell? ⟨B, 0, none⟩ = some v) (hf : w.frozen? ⟨B, 0, none⟩ = false) (hl : LeftV w b v (c :: r)) :
    Calls Tryd.prog 129 #[.pointer (some ⟨B, 0, none⟩)] w (EscPost w B b (c :: r)) := by
  by_cases h : c = 120
  · subst h
    exact pesc_x B b v r w hB hb hn hc hf hl
  · exact pesc_plain B b v c r w hB hb hn hc hf hl h

end Go.Proofs.YtkaododohnncnaaDoor
