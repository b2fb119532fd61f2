/-
  The walks of package resp's smallest methods: isBlank, hexDigit, take, next, ended, passBlanks. Conditions: what is left of the bytes lies in memory as a slice that reads as them.
-/
import Derived.Test.YtkaododohnncnaaDoorRpA
namespace Go.Proofs.YtkaododohnncnaaDoor
open Go.RowKit

theorem leftv {w : World} {b o k c : Nat} {l : List UInt8} (h : BytesAt w b o l) (hk : k = l.length) (hc : k ≤ c) (hb : c ≤ 9223372036854775807) : LeftV w b (.slice (some ⟨b, o, none⟩) k c) l :=
  ⟨o, c, by rw [hk], by omega, hb, h⟩
theorem bytes_nil (w : World) (b o : Nat) : BytesAt w b o [] := fun j hj => by simp at hj

theorem ret_bool {a b : Bool} (h : a = b) : Ending.returned (.bool a) = .returned (.bool b) := by rw [h]

set_option maxRecDepth 100000 in
set_option maxHeartbeats 1000000 in
theorem pblank_any (c : UInt8) (w : World) :
    Calls Tryd.prog 111 #[.int .u8 (c.toNat : Int)] w fun e w' => e = .returned (.bool (blankS c)) ∧ w = w' := by
  obtain ⟨x, hx⟩ : ∃ x : Nat, c.toNat = x := ⟨_, rfl⟩
  have HB : Hid (blankS c = ((9 ≤ x && x ≤ 13) || x == 32)) := by unfold Hid blankS; rw [hx]
  rw [hx]
  clear hx
  by_cases h1 : x = 32
  · subst h1
    go_enter Tryd.func111, Tryd.ntmps111
    go_wp2
    go_ret
    exact ⟨ret_bool (by rw [HB.out]; rfl), rfl⟩
  · have g1 : ((x : Int) == 32) = false := by rw [beq_eq_false_iff_ne]; omega
    by_cases h2 : 9 ≤ x
    · by_cases h3 : x ≤ 13
      · go_enter Tryd.func111, Tryd.ntmps111
        go_wp2
        go_ret
        exact ⟨ret_bool (by rw [HB.out, Bool.eq_iff_iff]; simp; omega), rfl⟩
      · go_enter Tryd.func111, Tryd.ntmps111
        go_wp2
        go_ret
        exact ⟨ret_bool (by rw [HB.out, Bool.eq_iff_iff]; simp; omega), rfl⟩
    · go_enter Tryd.func111, Tryd.ntmps111
      go_wp2
      go_ret
      exact ⟨ret_bool (by rw [HB.out]; simp [h2, h1]), rfl⟩

/-- What hexDigit tells. -/
def hexV (c : UInt8) : Value := match hexS c with | some x => .tuple #[.int .u8 (x : Int), .bool true] | none => .tuple #[.int .u8 0, .bool false]

set_option maxRecDepth 100000 in
set_option maxHeartbeats 2000000 in
theorem phex_any (c : UInt8) (w : World) :
    Calls Tryd.prog 135 #[.int .u8 (c.toNat : Int)] w fun e w' => e = .returned (hexV c) ∧ w = w' := by
  obtain ⟨x, hx⟩ : ∃ x : Nat, c.toNat = x := ⟨_, rfl⟩
  have hh : hexV c = if 48 ≤ x ∧ x ≤ 57 then .tuple #[.int .u8 ((x : Int) - 48), .bool true] else if 97 ≤ x ∧ x ≤ 102 then .tuple #[.int .u8 ((x : Int) - 97 + 10), .bool true] else if 65 ≤ x ∧ x ≤ 70 then .tuple #[.int .u8 ((x : Int) - 65 + 10), .bool true] else .tuple #[.int .u8 0, .bool false] := by
    unfold hexV hexS
    rw [hx]
    by_cases a : 48 ≤ x ∧ x ≤ 57
    · rw [if_pos a, if_pos a]; exact congrArg (fun z : Int => Value.tuple #[.int .u8 z, .bool true]) (by omega)
    · rw [if_neg a, if_neg a]
      by_cases b : 97 ≤ x ∧ x ≤ 102
      · rw [if_pos b, if_pos b]; exact congrArg (fun z : Int => Value.tuple #[.int .u8 z, .bool true]) (by omega)
      · rw [if_neg b, if_neg b]
        by_cases d : 65 ≤ x ∧ x ≤ 70
        · rw [if_pos d, if_pos d]; exact congrArg (fun z : Int => Value.tuple #[.int .u8 z, .bool true]) (by omega)
        · rw [if_neg d, if_neg d]
  have HH := Lib.hid hh
  have h255 : x < 256 := by rw [← hx]; exact UInt8.toNat_lt c
  rw [hx]
  clear hh hx
  by_cases a1 : 48 ≤ x <;> by_cases a2 : x ≤ 57 <;> by_cases b1 : 97 ≤ x <;> by_cases b2 : x ≤ 102 <;> by_cases d1 : 65 ≤ x <;> by_cases d2 : x ≤ 70
  all_goals try (exfalso; omega)
  all_goals
    go_enter Tryd.func135, Tryd.ntmps135
    go_wp2
  all_goals go_ret2
  all_goals exact ⟨by rw [HH.out]; (repeat' split) <;> (first | rfl | (exfalso; omega)), rfl⟩

set_option maxRecDepth 100000 in
set_option maxHeartbeats 1000000 in
theorem ptake_no (B b n : Nat) (v : Value) (l : List UInt8) (w : World) (hc : w.cell? ⟨B, 0, none⟩ = some v) (hl : LeftV w b v l) (h : l.length < n) :
    Calls Tryd.prog 108 #[.pointer (some ⟨B, 0, none⟩), .int .i64 n] w fun e w' => e = .returned (.tuple #[.slice none 0 0, .bool false]) ∧ w = w' := by
  obtain ⟨o, cap, rfl, h1, h2, h3⟩ := hl
  have H3 := Lib.hid h3
  clear h3
  go_enter Tryd.func108, Tryd.ntmps108
  go_wp2
  go_ret2
  exact ⟨rfl, rfl⟩

set_option maxRecDepth 100000 in
set_option maxHeartbeats 1000000 in
theorem ptake_ok (B b n : Nat) (v : Value) (l : List UInt8) (w : World) (hB : B < w.heap.size) (hc : w.cell? ⟨B, 0, none⟩ = some v) (hf : w.frozen? ⟨B, 0, none⟩ = false) (hl : LeftV w b v l) (h : n ≤ l.length) :
    Calls Tryd.prog 108 #[.pointer (some ⟨B, 0, none⟩), .int .i64 n] w fun e w' => ∃ t v', e = .returned (.tuple #[t, .bool true]) ∧ LeftV w b t (l.take n) ∧ LeftV w b v' (l.drop n) ∧ Put w ⟨B, 0, none⟩ v' w' := by
  obtain ⟨o, cap, rfl, h1, h2, h3⟩ := hl
  have H3 := Lib.hid h3
  clear h3
  rcases Nat.lt_or_ge n cap with hnc | hnc
  · go_enter Tryd.func108, Tryd.ntmps108
    go_wp2
    go_ret2
    exact ⟨_, _, rfl, leftv (H3.out.take n) (by rw [List.length_take]; omega) (by omega) (by omega), leftv (H3.out.cut n) (by rw [List.length_drop]) (by omega) (by omega), Put.set w _ hB⟩
  · obtain rfl : n = cap := by omega
    have hln : l.length = n := by omega
    go_enter Tryd.func108, Tryd.ntmps108
    go_wp2
    go_ret2
    exact ⟨_, _, rfl, leftv (H3.out.take n) (by rw [List.length_take]; omega) (by omega) (by omega), leftv (l := l.drop n) (by rw [List.drop_eq_nil_of_le (by omega)]; exact bytes_nil _ _ _) (by rw [List.length_drop]; omega) (by omega) (by omega), Put.set w _ hB⟩

/-- How long a slice is that a cell holds. -/
def lenAt (w : World) (p : Addr) : Nat := match w.cell? p with | some (.slice _ n _) => n | _ => 0
theorem lenAt_slice {w : World} {p : Addr} {A : Option Addr} {n c : Nat} (h : w.cell? p = some (.slice A n c)) : lenAt w p = n := by unfold lenAt; rw [h]

/-- What reading panics with. -/
def faultV (f : List UInt8) : Value := .iface 91 (.string ⟨f.toArray⟩)
def Thrown (f : List UInt8) (e : Ending) : Prop := e = .panicked [{ v := faultV f, recovered := false }]

set_option maxRecDepth 100000 in
set_option maxHeartbeats 1000000 in
theorem pnext_end (B b : Nat) (v : Value) (w : World) (hc : w.cell? ⟨B, 0, none⟩ = some v) (hl : LeftV w b v []) :
    Calls Tryd.prog 112 #[.pointer (some ⟨B, 0, none⟩)] w fun e w' => Thrown (perrB ++ unbL) e ∧ w = w' := by
  have hm := fun W => ptake_no B b 1 v [] W
  go_enter Tryd.func112, Tryd.ntmps112
  go_wp2_with fail
  refine (ptake_no B b 1 v [] _ hc hl (by decide)).mono ?_
  rintro e w' ⟨rfl, rfl⟩
  go_wp2
  exact ⟨rfl, rfl, rfl⟩

set_option maxRecDepth 100000 in
set_option maxHeartbeats 1000000 in
theorem pnext_ok (B b : Nat) (v : Value) (c : UInt8) (r : List UInt8) (w : World) (hB : B < w.heap.size) (hb : b < w.heap.size) (hn : b ≠ B) (hc : w.cell? ⟨B, 0, none⟩ = some v) (hf : w.frozen? ⟨B, 0, none⟩ = false) (hl : LeftV w b v (c :: r)) :
    Calls Tryd.prog 112 #[.pointer (some ⟨B, 0, none⟩)] w fun e w' => ∃ v', e = .returned (.int .u8 (c.toNat : Int)) ∧ LeftV w b v' r ∧ Put w ⟨B, 0, none⟩ v' w' := by
  go_enter Tryd.func112, Tryd.ntmps112
  go_wp2_with fail
  refine (ptake_ok B b 1 v (c :: r) _ hB hc hf hl (by simp)).mono ?_
  rintro e w' ⟨t, v', rfl, ht, hv, hp⟩
  obtain ⟨o, cap, rfl, h1, h2, h3⟩ := ht.put hp hb hn
  have hcell := h3 0 (by simp)
  have hl1 : (List.take 1 (c :: r)).length = 1 := by simp
  rw [hl1] at h1 ⊢
  simp only [List.take_succ_cons, List.take_zero, Nat.add_zero, List.getD_cons_zero] at hcell
  clear h3 hl1 ht
  go_wp2
  go_ret
  exact ⟨_, rfl, hv, hp⟩

set_option maxRecDepth 100000 in
set_option maxHeartbeats 1000000 in
theorem pended_bad (B b : Nat) (v u : Value) (c : UInt8) (r : List UInt8) (w : World) (hc : w.cell? ⟨B, 0, none⟩ = some v) (hl : LeftV w b v (c :: r)) (h : blankS c = false) :
    Calls Tryd.prog 128 #[.pointer (some ⟨B, 0, none⟩), u] w fun e w' => Thrown (perrB ++ unbL) e ∧ w = w' := by
  obtain ⟨o, cap, rfl, h1, h2, h3⟩ := hl
  have hcell := h3 0 (by simp)
  simp only [Nat.add_zero, List.getD_cons_zero] at hcell
  clear h3
  rw [List.length_cons] at h1 hc
  go_enter Tryd.func128, Tryd.ntmps128
  go_wp2_with (go_at_call 111; refine (pblank_any _ _).mono ?_; rintro e w' ⟨rfl, rfl⟩; rw [h])
  exact ⟨rfl, rfl, rfl⟩
set_option maxRecDepth 100000 in
set_option maxHeartbeats 1000000 in
theorem pended_blank (B b : Nat) (v u : Value) (c : UInt8) (r : List UInt8) (w : World) (hc : w.cell? ⟨B, 0, none⟩ = some v) (hl : LeftV w b v (c :: r)) (h : blankS c = true) :
    Calls Tryd.prog 128 #[.pointer (some ⟨B, 0, none⟩), u] w fun e w' => e = .returned u ∧ w = w' := by
  obtain ⟨o, cap, rfl, h1, h2, h3⟩ := hl
  have hcell := h3 0 (by simp)
  simp only [Nat.add_zero, List.getD_cons_zero] at hcell
  clear h3
  rw [List.length_cons] at h1 hc
  go_enter Tryd.func128, Tryd.ntmps128
  go_wp2_with (go_at_call 111; refine (pblank_any _ _).mono ?_; rintro e w' ⟨rfl, rfl⟩; rw [h])
  go_ret
  exact ⟨rfl, rfl⟩
set_option maxRecDepth 100000 in
set_option maxHeartbeats 1000000 in
theorem pended_end (B b : Nat) (v u : Value) (w : World) (hc : w.cell? ⟨B, 0, none⟩ = some v) (hl : LeftV w b v []) :
    Calls Tryd.prog 128 #[.pointer (some ⟨B, 0, none⟩), u] w fun e w' => e = .returned u ∧ w = w' := by
  obtain ⟨o, cap, rfl, h1, h2, h3⟩ := hl
  rw [List.length_nil] at hc
  go_enter Tryd.func128, Tryd.ntmps128
  go_wp2
  go_ret
  exact ⟨rfl, rfl⟩

set_option maxRecDepth 100000 in
set_option maxHeartbeats 1000000 in
theorem ppass_any (B b : Nat) (v : Value) (l : List UInt8) (w : World) (hB : B < w.heap.size) (hb : b < w.heap.size) (hn : b ≠ B) (hc : w.cell? ⟨B, 0, none⟩ = some v) (hf : w.frozen? ⟨B, 0, none⟩ = false) (hl : LeftV w b v l) :
    Calls Tryd.prog 93 #[.pointer (some ⟨B, 0, none⟩)] w fun e w' => ∃ v', e = .returned (.tuple #[]) ∧ LeftV w b v' (l.dropWhile blankS) ∧ Put w ⟨B, 0, none⟩ v' w' := by
  obtain ⟨L, hL⟩ : ∃ L, l.dropWhile blankS = L := ⟨_, rfl⟩
  rw [hL]
  go_enter Tryd.func93, Tryd.ntmps93
  go_wp2
  go_loopw [] (fun wr => ∃ v r, Put w ⟨B, 0, none⟩ v wr ∧ LeftV w b v r ∧ Hid (r.dropWhile blankS = L)) (fun wr => lenAt wr ⟨B, 0, none⟩)
  case atStart => exact ⟨v, l, Put.refl hc hB, hl, hL⟩
  case round =>
    obtain ⟨v, r, hp, hv, HR⟩ := hrel
    have hcv := hp.cell hc
    have hfv := (hp.frozen (q := ⟨B, 0, none⟩) hB).trans hf
    have HV := Lib.hid hv
    obtain ⟨o, cap, rfl, h1, h2, h3⟩ := hv
    match r with
    | [] =>
      rw [List.length_nil] at hcv
      go_wp2
      go_end0
      exact ⟨_, rfl, by rw [← HR.out]; exact HV.out, hp⟩
    | c :: r =>
      have hcell := (h3.put hp hb hn) 0 (by simp)
      simp only [Nat.add_zero, List.getD_cons_zero] at hcell
      have H3 := Lib.hid h3
      clear h3
      rw [List.length_cons] at h1 hcv
      cases hbl : blankS c with
      | false =>
        go_wp2_with (go_at_call 111; refine (pblank_any _ _).mono ?_; rintro e w' ⟨rfl, rfl⟩; rw [hbl])
        go_end0
        exact ⟨_, rfl, by rw [← HR.out, List.dropWhile_cons, hbl]; exact HV.out, hp⟩
      | true =>
        rcases Nat.lt_or_ge 1 cap with hnc | hnc
        · go_wp2_with (go_at_call 111; refine (pblank_any _ _).mono ?_; rintro e w' ⟨rfl, rfl⟩; rw [hbl])
          go_roundw
          case rel => exact ⟨_, r, hp.set2 _, leftv (l := r) (by simpa using H3.out.cut 1) rfl (by omega) (by omega), by rw [← HR.out, List.dropWhile_cons, hbl]; rfl⟩
          case measure => rw [lenAt_slice ((hp.set2 _).cell hc), lenAt_slice hcv]; omega
        · obtain rfl : cap = 1 := by omega
          obtain rfl : r = [] := List.length_eq_zero_iff.1 (by omega)
          go_wp2_with (go_at_call 111; refine (pblank_any _ _).mono ?_; rintro e w' ⟨rfl, rfl⟩; rw [hbl])
          go_roundw
          case rel => exact ⟨_, [], hp.set2 _, leftv (l := []) (bytes_nil _ _ _) rfl (by omega) (by omega), by rw [← HR.out, List.dropWhile_cons, hbl]; rfl⟩
          case measure => rw [lenAt_slice ((hp.set2 _).cell hc), lenAt_slice hcv]; omega

end Go.Proofs.YtkaododohnncnaaDoor
