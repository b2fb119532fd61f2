/-
  The walks of what package reply reads byte by byte: next, take, end. Conditions: what is left lies in memory as a slice that reads as its bytes.
-/
import Derived.Test.YtbldahkgilkclaaDoorRyA
import Derived.Deep.QuietTactic
import Derived.BigQuiet
namespace Go.Proofs.YtbldahkgilkclaaDoor
open Go.RowKit

set_option maxRecDepth 100000 in
set_option maxHeartbeats 1000000 in
theorem ynext_ok (B b : Nat) (v : Value) (c : UInt8) (r : List UInt8) (w : World) (hc : w.cell? ⟨B, 0, none⟩ = some v) (hl : LeftV w b v (c :: r)) :
    Calls Tryd.prog 37 #[.pointer (some ⟨B, 0, none⟩)] w fun e w' => e = .returned (.int .u8 (c.toNat : Int)) ∧ w = w' := by
  obtain ⟨o, cap, rfl, h1, h2, h3⟩ := hl
  have hcell := h3 0 (by simp)
  simp only [Nat.add_zero, List.getD_cons_zero] at hcell
  clear h3
  rw [List.length_cons] at h1 hc
  go_enter Tryd.func37, Tryd.ntmps37
  go_wp2
  go_ret
  exact ⟨rfl, rfl⟩

set_option maxRecDepth 100000 in
set_option maxHeartbeats 2000000 in
theorem ytake_ok (B b : Nat) (n : Nat) (v : Value) (l : List UInt8) (w : World) (hB : B < w.heap.size) (hc : w.cell? ⟨B, 0, none⟩ = some v) (hf : w.frozen? ⟨B, 0, none⟩ = false) (hl : LeftV w b v l) (hn : n ≤ l.length) :
    Calls Tryd.prog 39 #[.pointer (some ⟨B, 0, none⟩), .int .i64 n] w fun e w' => ∃ t v', e = .returned t ∧ LeftV w b t (l.take n) ∧ LeftV w b v' (l.drop n) ∧ Put w ⟨B, 0, none⟩ v' w' := by
  obtain ⟨o, cap, rfl, h1, h2, h3⟩ := hl
  have H3 := Lib.hid h3
  clear h3
  have hmin : min (n : Int) (l.length : Int) = (n : Int) := by omega
  rcases Nat.lt_or_ge n cap with hnc | hnc
  · go_enter Tryd.func39, Tryd.ntmps39
    go_wp2
    go_region
    all_goals
      go_wp2
      go_ret
      exact ⟨_, _, rfl, leftv (H3.out.take n) (by rw [List.length_take]; omega) (by omega) (by omega), leftv (H3.out.cut n) (by rw [List.length_drop]) (by omega) (by omega), Put.after (Below.refl _ _).drew (Put.set _ _ hB) hB⟩
  · obtain rfl : n = cap := by omega
    have hln : l.length = n := by omega
    go_enter Tryd.func39, Tryd.ntmps39
    go_wp2
    go_region
    all_goals
      go_wp2
      go_ret
      exact ⟨_, _, rfl, leftv (H3.out.take n) (by rw [List.length_take]; omega) (by omega) (by omega), leftv (l := l.drop n) (by rw [List.drop_eq_nil_of_le (by omega)]; exact bytes_nil _ _ _) (by rw [List.length_drop]; omega) (by omega) (by omega), Put.after (Below.refl _ _).drew (Put.set _ _ hB) hB⟩

set_option maxRecDepth 100000 in
set_option maxHeartbeats 4000000 in
theorem yend_ok (B b : Nat) (v : Value) (r : List UInt8) (w : World) (hB : B < w.heap.size) (hb : b < w.heap.size) (hn : b ≠ B) (hc : w.cell? ⟨B, 0, none⟩ = some v) (hf : w.frozen? ⟨B, 0, none⟩ = false) (hl : LeftV w b v (13 :: 10 :: r)) :
    Calls Tryd.prog 51 #[.pointer (some ⟨B, 0, none⟩)] w fun e w' => e = .returned (.tuple #[]) ∧ ∃ v', LeftV w b v' r ∧ Put w ⟨B, 0, none⟩ v' w' := by
  go_enter Tryd.func51, Tryd.ntmps51
  go_wp2
  go_loopw [2, 3] (fun _ i wr => ∃ (k : Nat) (v : Value), i = .int .i64 k ∧ k ≤ 2 ∧ Put w ⟨B, 0, none⟩ v wr ∧ LeftV w b v ((13 :: 10 :: r).drop k)) (fun _ i _ => 2 - (intOf i).toNat)
  case atStart => exact ⟨0, v, rfl, by omega, Put.refl hc hB, hl⟩
  case round =>
    obtain ⟨k, v, rfl, hk, hp, hv⟩ := hrel
    have hcv := hp.cell hc
    have hfv := (hp.frozen (q := ⟨B, 0, none⟩) hB).trans hf
    have hzr := hp.size
    have HP := Lib.hid hp
    have HV := Lib.hid hv
    have hvr := hv.put hp hb hn
    have HVR := Lib.hid hvr
    have HCV := Lib.hid hcv
    have HFV := Lib.hid hfv
    clear hp hv hvr hcv hfv
    obtain rfl | rfl | rfl : k = 0 ∨ k = 1 ∨ k = 2 := by omega
    · have HN := Lib.hid (fun q => (ynext_ok B b v 13 (10 :: r) (wr.drewN q) HCV.out HVR.out))
      have HT := Lib.hid (fun q => ytake_ok B b 1 v (13 :: (10 :: r)) (wr.drewN q) (by show B < wr.heap.size; omega) HCV.out HFV.out HVR.out (by simp))
      go_wp2
      go_quiet ((go_at_call 37; exact Calls.quiet_of_same ((HN.out _).mono fun _ _ h => ⟨h.1, h.2.symm⟩)))
      go_wp2_with fail
      refine (HT.out _).mono ?_
      rintro e w2 ⟨t, v', rfl, _, hv2, hp2⟩
      have HP2 := Lib.hid (HP.out.trans (Put.after (below_drewN (Below.refl _ _) nq) hp2 (by show B < wr.heap.size; omega)))
      have HV2 := Lib.hid (LeftV.back (show LeftV wr b v' _ from hv2) HP.out hb hn)
      clear hv2 hp2
      go_wp2
      go_roundw
      case rel => exact ⟨1, v', by go_num, by omega, HP2.out, HV2.out⟩
      case measure => simp only [intOf]; omega
    · have HN := Lib.hid (fun q => (ynext_ok B b v 10 r (wr.drewN q) HCV.out HVR.out))
      have HT := Lib.hid (fun q => ytake_ok B b 1 v (10 :: r) (wr.drewN q) (by show B < wr.heap.size; omega) HCV.out HFV.out HVR.out (by simp))
      go_wp2
      go_quiet ((go_at_call 37; exact Calls.quiet_of_same ((HN.out _).mono fun _ _ h => ⟨h.1, h.2.symm⟩)))
      go_wp2_with fail
      refine (HT.out _).mono ?_
      rintro e w2 ⟨t, v', rfl, _, hv2, hp2⟩
      have HP2 := Lib.hid (HP.out.trans (Put.after (below_drewN (Below.refl _ _) nq) hp2 (by show B < wr.heap.size; omega)))
      have HV2 := Lib.hid (LeftV.back (show LeftV wr b v' _ from hv2) HP.out hb hn)
      clear hv2 hp2
      go_wp2
      go_roundw
      case rel => exact ⟨2, v', by go_num, by omega, HP2.out, HV2.out⟩
      case measure => simp only [intOf]; omega
    · go_wp2
      go_end0
      exact ⟨rfl, v, HV.out, HP.out⟩

end Go.Proofs.YtbldahkgilkclaaDoor
