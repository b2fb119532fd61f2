/-
  RingPieces: the statements' pieces at a ring: its walk. Condition: the ring lies in memory as typed.
-/
import Derived.Test.YtbecjaamheibmaaRbQ
namespace Go.Proofs.Ytbecjaamheibmaa
open Go.RowKit

/-- What pieces tells. -/
def PcTold (w : World) (Z : Tx) (P : Nat → Prop) (e : Ending) (w' : World) : Prop := ∃ A k c J, e = .returned (.tuple #[.slice A k c, .int .i64 ((J : Nat) : Int), .bool true]) ∧ P J ∧ ByAt w' A k c Z ∧ Below w.heap.size w w'

theorem allocs_bx (w : World) (p : Nat) (o t : Int) : Bx8 (allocs w (pcBoxes (some ⟨p, 0, none⟩) o t)) w.heap.size p o t :=
  ⟨allocs_row _ w 0 _ _ rfl, allocs_row _ w 1 _ _ rfl, allocs_row _ w 2 _ _ rfl, allocs_row _ w 3 _ _ rfl, allocs_row _ w 4 _ _ rfl, allocs_row _ w 5 _ _ rfl, allocs_row _ w 6 _ _ rfl, allocs_row _ w 7 _ _ rfl⟩

set_option maxRecDepth 100000 in
set_option maxHeartbeats 8000000 in
theorem pieces_gen {p : Nat} (w : World) (o m : Int) (Z : Tx) (P : Nat → Prop)
    (hc : Calls Try.prog 42 #[.func (.func 38) #[] #[.pointer (some ⟨w.heap.size + 4, 0, none⟩), .pointer (some ⟨w.heap.size, 0, none⟩), .pointer (some ⟨w.heap.size + 2, 0, none⟩), .pointer (some ⟨w.heap.size + 1, 0, none⟩), .pointer (some ⟨w.heap.size + 3, 0, none⟩)], .pointer (some ⟨w.heap.size + 5, 0, none⟩), .pointer (some ⟨w.heap.size + 6, 0, none⟩), .pointer (some ⟨w.heap.size + 7, 0, none⟩)] (allocs w (pcBoxes (some ⟨p, 0, none⟩) o m)) fun e w' => e = .returned (.tuple #[]) ∧ ∃ J, P J ∧ ItTo (allocs w (pcBoxes (some ⟨p, 0, none⟩) o m)) w.heap.size o m Z J w') :
    Calls Try.prog 20 #[.pointer (some ⟨p, 0, none⟩), .int .i64 o, .int .i64 m] w (PcTold w Z P) := by
  have hne : ∀ X c, (binOp .eql 77 (.func (.func 42) #[] c) .nilFunc).run Try.prog X = .ok (.bool false) X := fun _ _ => rfl
  obtain ⟨w2, hw2⟩ : ∃ w2, allocs w (pcBoxes (some ⟨p, 0, none⟩) o m) = w2 := ⟨_, rfl⟩
  have hb2 : Below w.heap.size w w2 := by rw [← hw2]; exact allocs_below _ w
  rw [hw2] at hc
  obtain ⟨M, hM⟩ : ∃ M, w.heap.size = M := ⟨_, rfl⟩
  have HP1 : Hid (Calls Try.prog 42 #[.func (.func 38) #[] #[.pointer (some ⟨M + 1 + 1 + 1 + 1, 0, none⟩), .pointer (some ⟨M, 0, none⟩), .pointer (some ⟨M + 1 + 1, 0, none⟩), .pointer (some ⟨M + 1, 0, none⟩), .pointer (some ⟨M + 1 + 1 + 1, 0, none⟩)], .pointer (some ⟨M + 1 + 1 + 1 + 1 + 1, 0, none⟩), .pointer (some ⟨M + 1 + 1 + 1 + 1 + 1 + 1, 0, none⟩), .pointer (some ⟨M + 1 + 1 + 1 + 1 + 1 + 2, 0, none⟩)] w2 fun e w' => e = .returned (.tuple #[]) ∧ ∃ J, P J ∧ ItTo w2 M o m Z J w') := by
    rw [← hM]
    exact hc
  have HW2 : Hid (∀ w', w' = (((((((((w.alloc (.cells #[.int .i64 o] 3)).alloc (.cells #[.int .i64 m] 3)).alloc (.cells #[.slice none 0 0] 33)).alloc (.cells #[.int .i64 0] 3)).alloc (.cells #[.bool true] 4)).alloc (.cells #[.pointer (some ⟨p, 0, none⟩)] 24)).alloc (.cells #[.int .i64 o] 3)).alloc (.cells #[.int .i64 m] 3))) → w' = w2) := fun w' h => h.trans hw2
  have HB2 := Lib.hid hb2
  have HM := Lib.hid hM
  clear hw2 hb2 hM hc
  go_enter Try.func20, Try.ntmps20
  go_wp2_with fail
  refine (pieces_fn _ (some ⟨p, 0, none⟩) o m).mono ?_
  rintro e w3 ⟨rfl, hw3⟩
  obtain rfl := HW2.out w3 hw3
  clear hw3
  go_wp2_with (rw [HM.out])
  refine HP1.out.mono ?_
  rintro e w4 ⟨rfl, J, hJ, B, ⟨h0, h1, ⟨A, c, h2, h3⟩, h4, h5, h6⟩, hbw⟩
  have k2 : w4.cell? ⟨M + 1 + 1, 0, none⟩ = some (.slice A Z.length c) := h2.cell (i := 0) (by omega)
  have k3 : w4.cell? ⟨M + 1 + 1 + 1, 0, none⟩ = some (.int .i64 (J : Int)) := h4.cell (i := 0) (by omega)
  have k4 : w4.cell? ⟨M + 1 + 1 + 1 + 1, 0, none⟩ = some (.bool true) := h5.cell (i := 0) (by omega)
  have HY : Hid (∀ q, ByAt (w4.drewN q) A Z.length c Z) := fun q => (SlAt.own h3).below (below_drewN _ w4 q)
  have HJ := Lib.hid hJ
  have HBW : Hid (Below w.heap.size w w4) := HB2.out.trans (by rw [HM.out]; exact hbw)
  clear h0 h1 h2 h3 h4 h5 h6 hbw hJ
  obtain ⟨k, hk⟩ : ∃ k, Z.length = k := ⟨_, rfl⟩
  rw [hk] at k2 HY
  clear hk
  go_wp2_with fail
  go_quiet (fail)
  go_wp2
  go_ret3
  exact ⟨A, k, c, J, rfl, HJ.out, HY.out _, HBW.out.trans (below_drewN _ _ _)⟩

theorem pieces_no {base p s : Nat} {F : Nat → Prop} {h : Hst} {X : Tx} (w : World) (H : RgOn w base F p s h X) (o m : Int) (o1 : -9223372036854775808 ≤ o) (o2 : o ≤ 9223372036854775807) (hno : frmE s h X o ≠ 0 ∨ m < 1) :
    Calls Try.prog 20 #[.pointer (some ⟨p, 0, none⟩), .int .i64 o, .int .i64 m] w (PcTold w [] (· = 0)) := by
  refine pieces_gen w o m [] (· = 0) ?_
  refine (iter_no _ (allocs_bx w p o m) (from_any _ (H.below (allocs_below _ w)) o o1 o2) hno _).mono ?_
  rintro e w' ⟨rfl, h⟩
  exact ⟨rfl, 0, rfl, h⟩

theorem pieces_yes {base p s : Nat} {F : Nat → Prop} {h : Hst} {X : Tx} (w : World) (H : RgOn w base F p s h X) (o : Int) (m : Nat) (o1 : -9223372036854775808 ≤ o) (o2 : o ≤ 9223372036854775807) (hm0 : 0 < m) (hm1 : m ≤ 9223372036854775807) (he : frmE s h X o = 0) (hY : (frmX s h X o).length / 1000 ≤ m) :
    Calls Try.prog 20 #[.pointer (some ⟨p, 0, none⟩), .int .i64 o, .int .i64 m] w (PcTold w (frmX s h X o) (Cnt (frmX s h X o).length m)) := by
  have hh : hasB s h X o = true := by
    cases hq : hasB s h X o with
    | true => rfl
    | false =>
      have := (frm_no hq).2
      rw [he] at this
      exact absurd this (by omega)
  have hbd : frstO s h X ≤ o ∧ o ≤ h.off := of_decide_eq_true hh
  have hb2 := frst_bd H
  have hl : (frmX s h X o).length ≤ 16777216 := by
    rw [(frm_yes hh).1, List.length_drop]
    have := H.s2
    have := H.xo
    unfold frstO at hbd
    omega
  have hof := H.o2
  have q := from_any _ (H.below (allocs_below (pcBoxes (some ⟨p, 0, none⟩) o m) w)) o o1 o2
  rw [he] at q
  refine pieces_gen w o m _ _ ?_
  exact iter_yes _ (allocs_bx w p o m) q hm0 hm1 hl hY (by omega) (by omega)

end Go.Proofs.Ytbecjaamheibmaa
