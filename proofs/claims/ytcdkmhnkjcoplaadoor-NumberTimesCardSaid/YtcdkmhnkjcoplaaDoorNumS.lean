/-
  The walks of Sum and of the document's own Sum. Conditions: the numbers are numbers of 64 bits, in a slice that reads as them.
-/
import Derived.Test.YtcdkmhnkjcoplaaDoorNumA
import Derived.Lib.Hide
namespace Go.Proofs.YtcdkmhnkjcoplaaDoor
open Go.RowKit

def out64 (n : Int) : Bool := decide (n < -9223372036854775808 ∨ 9223372036854775807 < n)
/-- The sum of some behind n, or that one on the way is too far. -/
def sumGo : List Int → Int → Int × Int
  | [], n => (n, 0)
  | m :: l, n => if out64 (n + m) then (0, 11) else sumGo l (n + m)

theorem sumGo_step (zs : List Int) (k : Nat) (n : Int) (h : k < zs.length) : sumGo (zs.drop k) n = if out64 (n + zs.getD k 0) then (0, 11) else sumGo (zs.drop (k + 1)) (n + zs.getD k 0) := by
  rw [List.drop_eq_getElem_cons h, sumGo]
  simp [List.getD, h]
theorem sumGo_end (zs : List Int) (n : Int) : sumGo (zs.drop zs.length) n = (n, 0) := by simp [sumGo]

set_option maxHeartbeats 1000000 in
theorem sum_cells (b off len cap : Nat) (zs : List Int) (w : World) (hz : len = zs.length) (hbig : len ≤ 9223372036854775807) (hr : ∀ j, -9223372036854775808 ≤ zs.getD j 0 ∧ zs.getD j 0 ≤ 9223372036854775807)
    (hc : ∀ j, j < len → w.cell? ⟨b, off + j, none⟩ = some (.int .i64 (zs.getD j 0))) :
    Calls Tryd.prog 15 #[.slice (some ⟨b, off, none⟩) len cap] w fun e w' => e = .returned (.tuple #[.int .i64 (sumGo zs 0).1, .int .i64 (sumGo zs 0).2]) ∧ w = w' := by
  have HZ := Lib.hid hz
  have HR := Lib.hid hr
  have HC := Lib.hid hc
  clear hz hr hc
  obtain ⟨r, hr⟩ : ∃ r, sumGo zs 0 = r := ⟨_, rfl⟩
  have HS := Lib.hid hr
  rw [hr]
  clear hr
  go_enter Tryd.func15, Tryd.ntmps15
  go_wp2
  go_loop [4, 9] (fun n i => ∃ (k : Nat) (t : Int), k ≤ len ∧ i = .int .i64 k ∧ n = .int .i64 t ∧ -9223372036854775808 ≤ t ∧ t ≤ 9223372036854775807 ∧ Hid (sumGo (zs.drop k) t = r)) (fun _ i => len - (intOf i).toNat)
  case atStart => exact ⟨0, 0, by omega, rfl, rfl, by omega, by omega, HS.out⟩
  case round =>
    obtain ⟨k, t, hk, rfl, rfl, ht0, ht1, HG⟩ := hrel
    by_cases hlt : k < len
    · have hcell := HC.out k hlt
      have hz := HR.out k
      have HST := Lib.hid (sumGo_step zs k t (by rw [← HZ.out]; exact hlt))
      generalize zs.getD k 0 = z at hcell hz HST
      obtain ⟨hz0, hz1⟩ := hz
      clear HR HC HZ HS
      by_cases hp : 0 < z <;> by_cases hm : z < 0 <;> by_cases hg : 9223372036854775807 < t + z <;> by_cases hh : t + z < -9223372036854775808
      all_goals try (exfalso; omega)
      all_goals go_wp2
      all_goals first
        | (go_ret2
           have e := HST.out
           rw [HG.out, if_pos (by unfold out64; simp; omega)] at e
           exact ⟨ret_two (by rw [e]) (by rw [e]), rfl⟩)
        | (go_round
           case rel =>
             refine ⟨k + 1, t + z, by omega, by go_num, rfl, by omega, by omega, ?_⟩
             have e := HST.out
             rw [HG.out, if_neg (by unfold out64; simp; omega)] at e
             exact e.symm
           case measure => simp [intOf]; omega)
    · have : k = len := by omega
      subst this
      have e := HG.out
      rw [HZ.out, sumGo_end] at e
      have HE := Lib.hid e
      clear e HZ HC HR
      go_wp2
      go_ret2
      exact ⟨ret_two (by rw [← HE.out]) (by rw [← HE.out]), rfl⟩

set_option maxHeartbeats 1000000 in
theorem refSum_cells (b off len cap : Nat) (zs : List Int) (w : World) (hz : len = zs.length) (hbig : len ≤ 9223372036854775807) (hr : ∀ j, -9223372036854775808 ≤ zs.getD j 0 ∧ zs.getD j 0 ≤ 9223372036854775807)
    (hc : ∀ j, j < len → w.cell? ⟨b, off + j, none⟩ = some (.int .i64 (zs.getD j 0))) :
    Calls Tryd.prog 16 #[.slice (some ⟨b, off, none⟩) len cap] w fun e w' => e = .returned (.tuple #[.int .i64 (sumGo zs 0).1, .int .i64 (sumGo zs 0).2]) ∧ w = w' := by
  have HZ := Lib.hid hz
  have HR := Lib.hid hr
  have HC := Lib.hid hc
  clear hz hr hc
  obtain ⟨r, hr⟩ : ∃ r, sumGo zs 0 = r := ⟨_, rfl⟩
  have HS := Lib.hid hr
  rw [hr]
  clear hr
  go_enter Tryd.func16, Tryd.ntmps16
  go_wp2
  go_loop [4, 5] (fun n i => ∃ (k : Nat) (t : Int), k ≤ len ∧ i = .int .i64 k ∧ n = .int .i64 t ∧ -9223372036854775808 ≤ t ∧ t ≤ 9223372036854775807 ∧ Hid (sumGo (zs.drop k) t = r)) (fun _ i => len - (intOf i).toNat)
  case atStart => exact ⟨0, 0, by omega, rfl, rfl, by omega, by omega, HS.out⟩
  case round =>
    obtain ⟨k, t, hk, rfl, rfl, ht0, ht1, HG⟩ := hrel
    by_cases hlt : k < len
    · have hcell := HC.out k hlt
      have hz := HR.out k
      have HST := Lib.hid (sumGo_step zs k t (by rw [← HZ.out]; exact hlt))
      generalize zs.getD k 0 = z at hcell hz HST
      obtain ⟨hz0, hz1⟩ := hz
      clear HR HC HZ HS
      by_cases hg : t + z < -9223372036854775808 ∨ 9223372036854775807 < t + z
      · have ha : addI t z = (0, 11) := by unfold addI; rw [if_pos hg]
        have HA := Lib.hid ha
        clear ha
        go_wp2_with (go_at_call 28; refine (refAdd_any _ _ _ (by omega) (by omega) (by omega) (by omega)).mono ?_; rintro e w' ⟨rfl, rfl⟩; rw [HA.out])
        go_ret2
        have e := HST.out
        rw [HG.out, if_pos (by unfold out64; simpa using hg)] at e
        exact ⟨ret_two (by rw [e]) (by rw [e]), rfl⟩
      · have ha : addI t z = (t + z, 0) := by unfold addI; rw [if_neg hg]
        have HA := Lib.hid ha
        clear ha
        go_wp2_with (go_at_call 28; refine (refAdd_any _ _ _ (by omega) (by omega) (by omega) (by omega)).mono ?_; rintro e w' ⟨rfl, rfl⟩; rw [HA.out])
        go_round
        case rel =>
          refine ⟨k + 1, t + z, by omega, by go_num, rfl, by omega, by omega, ?_⟩
          have e := HST.out
          rw [HG.out, if_neg (by unfold out64; simpa using hg)] at e
          exact e.symm
        case measure => simp [intOf]; omega
    · have : k = len := by omega
      subst this
      have e := HG.out
      rw [HZ.out, sumGo_end] at e
      have HE := Lib.hid e
      clear e HZ HC HR
      go_wp2
      go_ret2
      exact ⟨ret_two (by rw [← HE.out]) (by rw [← HE.out]), rfl⟩

set_option maxHeartbeats 400000 in
theorem sum_empty (a : Option Addr) (cap : Nat) (w : World) :
    Calls Tryd.prog 15 #[.slice a 0 cap] w fun e w' => e = .returned (.tuple #[.int .i64 0, .int .i64 0]) ∧ w = w' := by
  go_enter Tryd.func15, Tryd.ntmps15
  go_wp2
  go_loop [4, 9] (fun n i => i = .int .i64 0 ∧ n = .int .i64 0) (fun _ _ => 0)
  case atStart => exact ⟨rfl, rfl⟩
  case round =>
    obtain ⟨rfl, rfl⟩ := hrel
    go_wp2
    go_ret2
    exact ⟨rfl, rfl⟩
set_option maxHeartbeats 400000 in
theorem refSum_empty (a : Option Addr) (cap : Nat) (w : World) :
    Calls Tryd.prog 16 #[.slice a 0 cap] w fun e w' => e = .returned (.tuple #[.int .i64 0, .int .i64 0]) ∧ w = w' := by
  go_enter Tryd.func16, Tryd.ntmps16
  go_wp2
  go_loop [4, 5] (fun n i => i = .int .i64 0 ∧ n = .int .i64 0) (fun _ _ => 0)
  case atStart => exact ⟨rfl, rfl⟩
  case round =>
    obtain ⟨rfl, rfl⟩ := hrel
    go_wp2
    go_ret2
    exact ⟨rfl, rfl⟩

end Go.Proofs.YtcdkmhnkjcoplaaDoor
