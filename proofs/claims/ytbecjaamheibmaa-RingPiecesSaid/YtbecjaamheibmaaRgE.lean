/-
  Package ring's last bytes: the walk of tail. Condition: the ring lies in memory as typed.
-/
import Derived.Test.YtbecjaamheibmaaRgD
namespace Go.Proofs.Ytbecjaamheibmaa
open Go.RowKit

set_option maxRecDepth 100000 in
set_option maxHeartbeats 8000000 in
theorem tail_any {base p s k : Nat} {F : Nat → Prop} {h : Hst} {X : Tx} (w : World) (H : LsOn w base F p s h X.length X.length X) (hs : 0 < s) (hs2 : s ≤ 16777216) (hk : k ≤ X.length) (hks : k ≤ s) (ha : X.length ≤ 2251799813685248) :
    Calls Try.prog 35 #[.pointer (some ⟨p, 5, none⟩), .int .i64 k] w fun e w' => e = .returned (.slice (some ⟨w.heap.size, 0, none⟩) k k) ∧ ByAt w' (some ⟨w.heap.size, 0, none⟩) k k (X.drop (X.length - k)) ∧ Below w.heap.size w w' := by
  obtain ⟨M, hM⟩ : ∃ M, w.heap.size = M := ⟨_, rfl⟩
  obtain ⟨wa, hwa⟩ : ∃ wa, w.alloc (.cells (madeCells #[.int .u8 0] k) 5) = wa := ⟨_, rfl⟩
  obtain ⟨A0, hA0⟩ : ∃ A0, some (⟨M, 0, none⟩ : Addr) = A0 := ⟨_, rfl⟩
  have hba : Below M w wa := by rw [← hwa, ← hM]; exact (Below.refl _ _).alloc (Nat.le_refl _) _
  have hra : wa.rowIs M 5 k (byF fun _ => 0) := by rw [← hwa, ← hM]; exact World.rowIs_made w (.int .u8 0) k 5
  have hmk : (Instr.makeSlice 33 (.int .i64 (k : Int)) (.int .i64 (k : Int))).run Try.prog w = .ok (.slice A0 k k) wa := by
    rw [make_by k (by omega) w, hwa, ← hA0, hM]
  obtain ⟨al, hal⟩ : ∃ al, X.length = al := ⟨_, rfl⟩
  obtain ⟨hF, hFp, _, g, m, S, hp, hg, hroom, hsl⟩ := H
  rw [hal] at hp hroom hk ha
  rw [hM] at hF
  have hgM : 0 < m → g < M ∧ g ≠ M := fun h0 => by have := (hF g (hg h0).1).2; omega
  have hpM : p < M := (hF p hFp).2
  have c5 : wa.cell? ⟨p, 5, none⟩ = some (.int .i64 s) := (hba.cell (p := ⟨p, 5, none⟩) hpM).trans (hp.cell (i := 5) (by omega))
  have c6 : wa.cell? ⟨p, 6, none⟩ = some (.int .i64 al) := (hba.cell (p := ⟨p, 6, none⟩) hpM).trans (hp.cell (i := 6) (by omega))
  have c7 : wa.cell? ⟨p, 7, none⟩ = some (slV g m m) := (hba.cell (p := ⟨p, 7, none⟩) hpM).trans (hp.cell (i := 7) (by omega))
  obtain ⟨A7, cc, hA7, hA71, hA72⟩ := slV_form g m m
  rw [hA7] at c7
  have hmc : m = cc := by
    by_cases h0 : 0 < m
    · exact (hA71 h0).2.symm
    · have := (hA72 (by omega)).2; omega
  subst hmc
  obtain ⟨q, hq⟩ : ∃ q, (al - k) % s = q := ⟨_, rfl⟩
  obtain ⟨mq, hmq⟩ : ∃ mq, m - q = mq := ⟨_, rfl⟩
  obtain ⟨D, hD⟩ : ∃ D, (if m = q then A7 else A7.map (fun x => x.add q)) = D := ⟨_, rfl⟩
  obtain ⟨n1, hn1⟩ : ∃ n1, min mq k = n1 := ⟨_, rfl⟩
  obtain ⟨k2, hk2⟩ : ∃ k2, k - n1 = k2 := ⟨_, rfl⟩
  obtain ⟨A3, hA3⟩ : ∃ A3, (if k = n1 then A0 else A0.map (fun x => x.add n1)) = A3 := ⟨_, rfl⟩
  have hqs : q < s := by rw [← hq]; exact Nat.mod_lt _ hs
  have hqa : q ≤ al - k := by rw [← hq]; exact Nat.mod_le _ _
  have hqm : q ≤ m := by rcases hroom.2 with e | e <;> omega
  have hms := hroom.1
  have hk2m : k2 ≤ m := by rcases hroom.2 with e | e <;> omega
  have hn1k : n1 ≤ k := by omega
  have HP : Hid (∀ nq, Calls Try.prog 41 #[.pointer (some ⟨p, 5, none⟩), .int .i64 k] (wa.drewN nq) fun e w' => e = .returned (.int .i64 q) ∧ ∃ n, w' = (wa.drewN nq).drewN n) := fun nq =>
    place_any p s al k q (wa.drewN nq) c5 c6 hs hs2 hk ha hq.symm
  have hSrc : ∀ X, Below M w X → 0 < m → X.rowIs g 5 m (byF S) := fun X hX h0 => (hg h0).2.2.of_block (hX.block g (hgM h0).1)
  have HCP : Hid (∀ nq, CpAt (wa.drewN nq) A0 D M 0 n1 (fun j => S (q + j))) := fun nq h0 => by
    obtain ⟨e1, e2⟩ := hA71 (by omega)
    refine ⟨hA0.symm, ⟨g, q, none⟩, ?_, fun j hj => ?_⟩
    · rw [← hD, if_neg (by omega), e1, Option.map_some, Go.WideShapes.add_plain, Nat.zero_add]
    · rw [Go.WideShapes.add_plain]
      exact (hSrc wa hba (by omega)).cell (i := q + j) (by omega)
  have HG2 : Hid (∀ nq, 0 < k → (wa.drewN nq).rowIs M 5 k (byF fun _ => 0)) := fun _ _ => hra
  have hfit : 0 + n1 ≤ k := by omega
  have hq0 : (0 : Int) ≤ (q : Int) := by omega
  have hqmI : (q : Int) ≤ (m : Int) := by omega
  have hn10 : (0 : Int) ≤ (n1 : Int) := by omega
  have hn1kI : (n1 : Int) ≤ (k : Int) := by omega
  have HN1 : Hid (n1 = Nat.min mq k) := hn1.symm
  have HQ := Lib.hid hq
  have HA71 := Lib.hid hA71
  have HA0 := Lib.hid hA0
  have HA7 := Lib.hid hA7
  have HG := Lib.hid hg
  have HGM := Lib.hid hgM
  have HSRC := Lib.hid hSrc
  have HF := Lib.hid hF
  have HPR := Lib.hid hp
  have HSL := Lib.hid hsl
  have HRO := Lib.hid hroom
  have HBA := Lib.hid hba
  have HM := Lib.hid hM
  have HAL := Lib.hid hal
  have HPC : Hid (∀ X, Below M w X → X.cell? ⟨p, 7, none⟩ = some (.slice A7 m m)) := fun X hX => (hX.cell (p := ⟨p, 7, none⟩) hpM).trans (by rw [hp.cell (i := 7) (by omega)]; show some (slV g m m) = _; rw [hA7])
  clear hq hn1 hA71 hA72 hg hF hp hsl hroom hA7 hgM hSrc hra hba hwa hM hA0 hal
  go_enter Try.func35, Try.ntmps35
  go_wp2_with fail
  go_region_law (first
    | (go_simp; go_at_call 41; refine Calls.mono (HP.out _) ?_; rintro e w3 ⟨rfl, n3, rfl⟩)
    | (with_reducible refine step_copy_by (o := ⟨some 18, _, _, _, _, _⟩) rfl (.tmp 9) (.tmp 17) 33 33 rfl 5 Try.underlying33 info_by1 A0 D k k mq mq rfl rfl M k 0 n1 5 (fun _ => 0) (fun j => S (q + j)) (HG2.out _) HN1.out (HCP.out _) hfit ?_; intro w3 hrow ho; have HROW := Lib.hid hrow; have HO := Lib.hid ho; clear hrow ho))
  all_goals
    have hb3 : Below M w w3 := HBA.out.trans ((Only.trans (Only.drewN _ wa _) HO.out).below (by rw [← HM.out]; exact HBA.out.size) (fun i hi e => by omega))
    have e7 := HPC.out w3 hb3
    have HCP4 : Hid (CpAt w3.drew A3 A7 M n1 k2 S) := fun h0 => by
      obtain ⟨e1, e2⟩ := HA71.out (by omega)
      refine ⟨?_, ⟨g, 0, none⟩, e1, fun j hj => ?_⟩
      · rw [← hA3, if_neg (by omega), ← HA0.out, Option.map_some, Go.WideShapes.add_plain, Nat.zero_add]
      · rw [Go.WideShapes.add_plain, Nat.zero_add]
        exact (HSRC.out w3 hb3 (by omega)).cell (i := j) (by omega)
    have HG4 : Hid (0 < k → w3.drew.rowIs M 5 k (byF (ovl (fun _ => 0) 0 n1 fun j => S (q + j)))) := fun h0 => HROW.out h0
    have HN4 : Hid (k2 = Nat.min m k2) := (Nat.min_eq_right hk2m).symm
    have hfit4 : n1 + k2 ≤ k := by omega
    have HB3 := Lib.hid hb3
    clear hb3
    go_wp2_with fail
    go_region_law (with_reducible refine step_copy_by (o := ⟨some 26, _, _, _, _, _⟩) rfl (.tmp 21) (.tmp 25) 33 33 rfl 5 Try.underlying33 info_by1 A3 A7 k2 k2 m m rfl rfl M k n1 k2 5 (ovl (fun _ => 0) 0 n1 fun j => S (q + j)) S HG4.out HN4.out HCP4.out hfit4 ?_; intro w4 hrow ho; have HROW4 := Lib.hid hrow; have HO4 := Lib.hid ho; clear hrow ho)
    all_goals
      have hb4 : Below M w w4 := HB3.out.trans ((Only.trans (Only.drewN _ w3 1) HO4.out).below (by have := HB3.out.size; rw [HM.out] at this; exact this) (fun i hi e => by omega))
      have HE : Hid (ByAt w4 (some ⟨M, 0, none⟩) k k (X.drop (X.length - k))) := by
        by_cases h0 : 0 < k
        · have hr4 := HROW4.out h0
          rw [← hk2] at hr4
          refine ByAt.of_row hr4 (Nat.le_refl _) (by omega) (by rw [List.length_drop, HAL.out]; omega) ?_
          exact HSL.out.tail hs (by have := HRO.out; exact ⟨this.1, by rw [HAL.out]; exact this.2⟩) (by rw [HAL.out]; exact hk) hks (by rw [HAL.out]; exact HQ.out.symm) (by rw [hmq]; exact HN1.out) _
        · obtain rfl : k = 0 := by omega
          rw [Nat.sub_zero, List.drop_length]
          exact ⟨rfl, Nat.le_refl _, by omega, (fun e => by cases e), fun h => absurd h (Nat.lt_irrefl 0)⟩
      have HB4 := Lib.hid hb4
      clear hb4
      go_wp2_with (rw [HM.out])
      go_ret
      exact ⟨by rw [HA0.out]; rfl, HE.out, by first | exact HB4.out | (rw [HM.out]; exact HB4.out)⟩

end Go.Proofs.Ytbecjaamheibmaa
