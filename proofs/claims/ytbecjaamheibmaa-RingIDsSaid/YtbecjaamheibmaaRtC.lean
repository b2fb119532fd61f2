/-
  The document's Text: its walk. No condition.
-/
import Derived.Test.YtbecjaamheibmaaRtB
namespace Go.Proofs.Ytbecjaamheibmaa
open Go.RowKit

/-- The digits of an ID from place i on (from the right: those that have been written). -/
def txtF (n i : Nat) : Nat → UInt8 := fun j => if i ≤ j then hexC (hexD n j) else 0

theorem hexD_last (n i : Nat) : hexD n i = n / 16 ^ (15 - i) % 16 := rfl
theorem txtF_set {n i : Nat} : (fun j => if j = i then byV (hexC (hexD n i)) else byF (txtF n (i + 1)) j) = byF (txtF n i) := by
  funext j
  unfold byF txtF
  by_cases e : j = i
  · rw [if_pos e, e, if_pos (Nat.le_refl _)]
  · rw [if_neg e]
    by_cases q : i ≤ j
    · rw [if_pos q, if_pos (by omega)]
    · rw [if_neg q, if_neg (by omega)]

set_option maxRecDepth 100000 in
set_option maxHeartbeats 8000000 in
theorem rtext_any (n : Nat) (w : World) (hn : n ≤ 18446744073709551615) :
    Calls Try.prog 24 #[.int .u64 n] w fun e w' => e = .returned (.string ⟨(textX n).toArray⟩) ∧ Below w.heap.size w w' := by
  have hmk := make_by 16 (by omega) w
  obtain ⟨w0, hw0⟩ : ∃ w0, w.alloc (.cells (madeCells #[.int .u8 0] 16) 5) = w0 := ⟨_, rfl⟩
  have hb0 : Below w.heap.size w w0 := by rw [← hw0]; exact (Below.refl _ _).alloc (Nat.le_refl _) _
  have hr0 : w0.rowIs w.heap.size 5 16 (byF (txtF n 16)) := by
    rw [← hw0]
    exact (World.rowIs_made w (.int .u8 0) 16 5).congr (fun i hi => by
      unfold byF txtF
      rw [if_neg (by omega)]
      rfl)
  rw [hw0] at hmk
  obtain ⟨M, hM⟩ : ∃ M, w.heap.size = M := ⟨_, rfl⟩
  rw [hM] at hmk hb0 hr0 ⊢
  have hmk2 : (Instr.makeSlice 33 (.int .i64 16) (.int .i64 16)).run Try.prog w = .ok (.slice (some ⟨M, 0, none⟩) 16 16) w0 := hmk
  have HR0 := Lib.hid hr0
  have HB0 := Lib.hid hb0
  have HM := Lib.hid hM
  clear hmk hr0 hb0 hM hw0
  go_enter Try.func24, Try.ntmps24
  go_wp2_with fail
  go_loopw [0, 4] (fun nv iv wr => ∃ (i : Nat), iv = .int .i64 ((i : Int) - 1) ∧ i ≤ 16 ∧ nv = .int .u64 ((n / 16 ^ (16 - i) : Nat) : Int) ∧ wr.rowIs M 5 16 (byF (txtF n i)) ∧ Below M w wr) (fun _ iv _ => (intOf iv + 1).toNat)
  case atStart => exact ⟨16, rfl, by omega, by simp, HR0.out, HB0.out⟩
  case round =>
    obtain ⟨i, rfl, hi, rfl, hr, hb⟩ := hrel
    have HR := Lib.hid hr
    have HB := Lib.hid hb
    clear hr hb
    obtain ⟨D, hD⟩ : ∃ D, n / 16 ^ (16 - i) = D := ⟨_, rfl⟩
    rw [hD]
    have hDn : D ≤ n := by rw [← hD]; exact Nat.div_le_self _ _
    by_cases hlt : 0 < i
    · obtain ⟨i', rfl⟩ : ∃ i', i = i' + 1 := ⟨i - 1, by omega⟩
      have hz : ((i' + 1 : Nat) : Int) - 1 = (i' : Int) := by omega
      rw [hz]
      obtain ⟨d, hd⟩ : ∃ d, hexD n i' = d := ⟨_, rfl⟩
      have hdD : d = D % 16 := by rw [← hd, hexD_last n i', show 15 - i' = 16 - (i' + 1) by omega, hD]
      have htm : Int.tmod (D : Int) 16 = (d : Int) := by rw [hdD]; rfl
      have hd16 : d < 16 := by omega
      have hd0 : (0 : Int) ≤ (d : Int) := by omega
      have hd16I : (d : Int) < 16 := by omega
      obtain ⟨u, hu0⟩ : ∃ u, hexC d = u := ⟨_, rfl⟩
      have hu := hexC_at hd16 (show d < 16 from hd16)
      rw [hu0] at hu
      have ec : wr.cell? ⟨M, i', none⟩ = some (byF (txtF n (i' + 1)) i') := HR.out.cell (i := i') (by omega)
      have ef := HR.out.frozen i'
      obtain ⟨old, hold⟩ : ∃ o, byF (txtF n (i' + 1)) i' = o := ⟨_, rfl⟩
      rw [hold] at ec
      obtain ⟨E, hE⟩ : ∃ E, D / 16 = E := ⟨_, rfl⟩
      have hdv : (D : Int) / 16 = (E : Int) := by rw [← hE]; rfl
      have HE : Hid (n / 16 ^ (16 - i') = E) := by
        unfold Hid
        rw [← hE, ← hD, Nat.div_div_eq_div_mul, ← Nat.pow_succ, show (16 - (i' + 1)).succ = 16 - i' from by omega]
      have HSET : Hid ((wr.setCell ⟨M, i', none⟩ (.int .u8 (u.toNat : Int))).rowIs M 5 16 (byF (txtF n i'))) := by
        unfold Hid
        have := HR.out.set i' (.int .u8 (u.toNat : Int))
        rw [← txtF_set, hd, hu0]
        exact this
      have hi0 : (0 : Int) ≤ (i' : Int) := by omega
      have hi16 : (i' : Int) < 16 := by omega
      clear hD hd hdD hu0 hz hold hE
      go_wp2
      go_roundw
      case rel => exact ⟨i', rfl, by omega, by rw [HE.out], HSET.out, HB.out.setCell (p := ⟨M, i', none⟩) (Nat.le_refl _) _⟩
      case measure => simp only [intOf]; omega
    · obtain rfl : i = 0 := by omega
      have hz : ((0 : Nat) : Int) - 1 = -1 := by omega
      rw [hz]
      have HBY : Hid (ByAt wr (some ⟨M, 0, none⟩) 16 16 (textX n)) := by
        refine ByAt.of_row HR.out (Nat.le_refl _) (by omega) (textX_len n) (fun j hj => ?_)
        unfold txtF
        rw [if_pos (Nat.zero_le _), List.getD_eq_getElem?_getD, textX_get hj]
        rfl
      have hcv := conv_by HBY.out
      clear hD hz
      go_wp2
      go_ret
      exact ⟨rfl, HB.out⟩

end Go.Proofs.Ytbecjaamheibmaa
