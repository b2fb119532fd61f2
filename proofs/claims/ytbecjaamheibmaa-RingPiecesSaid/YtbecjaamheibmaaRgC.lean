/-
  Package ring's last bytes: the walk of grow. Condition: the ring lies in memory as typed.
-/
import Derived.Test.YtbecjaamheibmaaRgB
import Derived.Deep.RegionHeld3
namespace Go.Proofs.Ytbecjaamheibmaa
open Go.RowKit

theorem info_by : (Try.prog.info? 5).map (fun i => (i.zero, i.size, i.bytes)) = some (some (.int .u8 0), 1, 1) := by kernel_rfl
theorem info_by1 : (Try.prog.info? 5).map (·.size) = some 1 := by kernel_rfl

/-- make([]byte, m). -/
theorem make_by (m : Nat) (hm : m ≤ 16777216) (w : World) : (Instr.makeSlice 33 (.int .i64 (m : Int)) (.int .i64 (m : Int))).run Try.prog w = .ok (.slice (some ⟨w.heap.size, 0, none⟩) m m) (w.alloc (.cells (madeCells #[.int .u8 0] m) 5)) := by
  obtain ⟨i0, hi, hy⟩ := Option.map_eq_some_iff.1 info_by
  simp only [Prod.mk.injEq] at hy
  obtain ⟨hy0, hy1, hy2⟩ := hy
  exact run_make_row 33 5 i0 (.int .u8 0) Try.underlying33 hi hy0 hy1 rfl .i64 .i64 m (by rw [hy2]; omega) (by omega) w

theorem max_nat (a b : Nat) : Builtin.max_ #[3, 3] 3 #[.int .i64 (a : Int), .int .i64 (b : Int)] = pure (.int .i64 ((max a b : Nat) : Int)) := by
  have e : (if a < b then (b : Int) else (a : Int)) = ((max a b : Nat) : Int) := by split <;> omega
  rw [← e]
  simp [Builtin.max_, Builtin.max2]
theorem min_nat (a b : Nat) : Builtin.min_ #[3, 3] 3 #[.int .i64 (a : Int), .int .i64 (b : Int)] = pure (.int .i64 ((min a b : Nat) : Int)) := by
  have e : (if b < a then (b : Int) else (a : Int)) = ((min a b : Nat) : Int) := by split <;> omega
  rw [← e]
  simp [Builtin.min_, Builtin.min2]

theorem slV_form (g m c : Nat) : ∃ A cc, slV g m c = .slice A m cc ∧ (0 < m → A = some ⟨g, 0, none⟩ ∧ cc = c) ∧ (m = 0 → A = none ∧ cc = 0) := by
  unfold slV
  by_cases h : m = 0
  · rw [if_pos h]
    exact ⟨none, 0, by rw [h], fun q => by omega, fun _ => ⟨rfl, rfl⟩⟩
  · rw [if_neg h]
    exact ⟨_, _, rfl, fun _ => ⟨rfl, rfl⟩, fun q => absurd q h⟩

/-- What grow leaves. -/
def Grown (w : World) (base : Nat) (F : Nat → Prop) (p s : Nat) (h : Hst) (al : Nat) (X : Tx) (w' : World) : Prop := ∃ F', LsOn w' base F' p s h al al X ∧ Chg F F' w w'

set_option maxRecDepth 100000 in
set_option maxHeartbeats 8000000 in
theorem grow_any {base p s al r : Nat} {F : Nat → Prop} {h : Hst} {X : Tx} (w : World) (H : LsOn w base F p s h al r X) (hs : 0 < s) (hs2 : s ≤ 16777216) (hra : r ≤ al) :
    Calls Try.prog 44 #[.pointer (some ⟨p, 5, none⟩)] w fun e w' => e = .returned (.tuple #[]) ∧ Grown w base F p s h al X w' := by
  have HH := Lib.hid H
  obtain ⟨hF, hFp, hXr, g, m, S, hp, hg, hroom, hsl⟩ := H
  have c5 : w.cell? ⟨p, 5, none⟩ = some (.int .i64 s) := hp.cell (i := 5) (by omega)
  have c6 : w.cell? ⟨p, 6, none⟩ = some (.int .i64 al) := hp.cell (i := 6) (by omega)
  have c7 : w.cell? ⟨p, 7, none⟩ = some (slV g m m) := hp.cell (i := 7) (by omega)
  have f7 := hp.frozen 7
  obtain ⟨A, cc, hA, hA1, hA2⟩ := slV_form g m m
  rw [hA] at c7
  obtain ⟨k, hk⟩ : ∃ k, min al s = k := ⟨_, rfl⟩
  have HC : Hid (∀ nq, Calls Try.prog 33 #[.pointer (some ⟨p, 5, none⟩)] (w.drewN nq) fun e w' => e = .returned (.int .i64 (k : Int)) ∧ ∃ n, w' = (w.drewN nq).drewN n) := fun nq => by
    rw [← hk]
    exact count_any p s al (w.drewN nq) c5 c6
  have hm : m ≤ s := hroom.1
  by_cases hle : k ≤ m
  · have HE : Hid (∀ n, Grown w base F p s h al X (w.drewN n)) := fun n => ⟨F, ⟨hF, hFp, by omega, g, m, S, hp, hg, ⟨hroom.1, by omega⟩, hsl⟩, Only.drewN F w n, fun _ h => Or.inl h⟩
    clear hA hA1 hA2 hk hp hg hF hroom hsl
    go_enter Try.func44, Try.ntmps44
    go_wp2_with fail
    go_quiet ((go_at_call 33; exact Calls.quiet_of (HC.out _)))
    go_wp2
    exact bodyPost_ret (v := .tuple #[]) (by simp [results, Try.results44, go_sem]) rfl ⟨rfl, HE.out _⟩
  · obtain ⟨mx, hmx⟩ : ∃ mx, max k (2 * m) = mx := ⟨_, rfl⟩
    obtain ⟨m', hm'⟩ : ∃ m', min s mx = m' := ⟨_, rfl⟩
    have hb1 : Builtin.max_ #[3, 3] 3 #[.int .i64 (k : Int), .int .i64 (2 * (m : Int))] = pure (.int .i64 (mx : Int)) := by
      rw [show 2 * (m : Int) = ((2 * m : Nat) : Int) by omega, max_nat, hmx]
    have hb2 : Builtin.min_ #[3, 3] 3 #[.int .i64 (s : Int), .int .i64 (mx : Int)] = pure (.int .i64 (m' : Int)) := by
      rw [min_nat, hm']
    have hms : m' ≤ 16777216 := by omega
    have hmk := make_by m' hms
    have hw2 : IntKind.i64.wrap (2 * (m : Int)) = 2 * (m : Int) := IntWalk.i64_in _ (by omega)
    have hlt : ¬ (k : Int) ≤ (m : Int) := by omega
    have HCL : Hid (∀ X, Below w.heap.size w X → X.cell? ⟨p, 5, none⟩ = some (.int .i64 s) ∧ X.cell? ⟨p, 7, none⟩ = some (.slice A m cc)) := fun X hX => ⟨(hX.cell (p := ⟨p, 5, none⟩) hp.lt).trans c5, (hX.cell (p := ⟨p, 7, none⟩) hp.lt).trans c7⟩
    have HK := Lib.hid hk
    have HMX := Lib.hid hmx
    have HM := Lib.hid hm'
    have HA1 := Lib.hid hA1
    have HF := Lib.hid hF
    have HSL := Lib.hid hsl
    have HRM : Hid (Room s X m) := ⟨hroom.1, hroom.2.elim Or.inl (fun e => Or.inr (by omega))⟩
    have hg0 := hg
    have hp0 := hp
    have hA0 := hA
    have hplt := hp.lt
    clear hA hA1 hA2 hk hp hg hF hroom hsl hmx hm'
    have HROW : Hid (∀ q, ((w.drewN q).alloc (.cells (madeCells #[.int .u8 0] m') 5)).rowIs w.heap.size 5 m' (byF fun _ => 0)) := fun q => World.rowIs_made (w.drewN q) (.int .u8 0) m' 5
    have HBL : Hid (∀ q, Below w.heap.size w ((w.drewN q).alloc (.cells (madeCells #[.int .u8 0] m') 5))) := fun q => (below_drewN _ _ _).alloc (Nat.le_refl _) _
    have HSRC : Hid (∀ q, CpAt ((w.drewN q).alloc (.cells (madeCells #[.int .u8 0] m') 5)) (some ⟨w.heap.size, 0, none⟩) A w.heap.size 0 m S) := fun q h0 => by
      obtain ⟨hFg, hne, hrow⟩ := hg0 h0
      refine ⟨rfl, _, (HA1.out h0).1, fun j hj => ?_⟩
      rw [Go.WideShapes.add_plain, Nat.zero_add]
      exact ((HBL.out q).cell (p := ⟨g, j, none⟩) hrow.lt).trans (hrow.cell hj)
    have HMN : Hid (m = Nat.min m m') := by unfold Hid; have := HK.out; have := HMX.out; have := HM.out; show m = min m m'; omega
    have hmm' : 0 + m ≤ m' := by have := HMN.out; have : m = min m m' := this; omega
    obtain ⟨M, hM0⟩ : ∃ M, w.heap.size = M := ⟨_, rfl⟩
    have hpM : p < M := by rw [← hM0]; exact hplt
    have HEND : Hid (∀ q w5, w5.rowIs M 5 m' (byF (ovl (fun _ => 0) 0 m S)) → Only (· = M) ((w.drewN q).alloc (.cells (madeCells #[.int .u8 0] m') 5)) w5 → w5.cell? ⟨p, 7, none⟩ = some (.slice A m cc) ∧ w5.frozen? ⟨p, 7, none⟩ = false ∧ Grown w base F p s h al X (w5.setCell ⟨p, 7, none⟩ (.slice (some ⟨M, 0, none⟩) m' m'))) := fun q w5 hrow ho => by
      have hb : Below w.heap.size w w5 := (HBL.out q).trans (ho.below (by simp) (fun k hk e => by omega))
      have hp5 := hp0.of_block (hb.block p hplt)
      have hm0 : 0 < m' := by have := HK.out; have := HMX.out; have := HM.out; omega
      refine ⟨(hp5.cell (i := 7) (by omega)).trans (by show some (slV g m m) = _; rw [hA0]), hp5.frozen 7, fun k => F k ∨ k = M, ⟨fun k hk => ?_, Or.inl hFp, by omega, M, m', _, (hp5.set 7 _).congr (fun i hi => ?_), fun _ => ⟨Or.inr rfl, by omega, hrow.setOther (a := ⟨p, 7, none⟩) (show M ≠ p by omega) _⟩, ?_, HSL.out.grow HRM.out hs _⟩, ?_, fun k hk => ?_⟩
      · rw [show (w5.setCell ⟨p, 7, none⟩ (.slice (some ⟨M, 0, none⟩) m' m')).heap.size = w5.heap.size by simp]
        have := hb.size
        have := hrow.lt
        rcases hk with hk | rfl
        · have := HF.out k hk
          omega
        · have := (HF.out p hFp).1
          omega
      · rw [slV_pos hm0]
        unfold rgV
        rcases (by omega : i = 0 ∨ i = 1 ∨ i = 2 ∨ i = 3 ∨ i = 4 ∨ i = 5 ∨ i = 6 ∨ i = 7) with rfl | rfl | rfl | rfl | rfl | rfl | rfl | rfl <;> rfl
      · have := HK.out; have := HMX.out; have := HM.out
        exact ⟨by omega, by omega⟩
      · exact (Only.of_below hb).set (q := ⟨p, 7, none⟩) hFp _
      · rcases hk with hk | hk
        · exact Or.inl hk
        · right; omega
    have hm0 : 0 < m' := by have := HK.out; have := HMX.out; have := HM.out; omega
    have HM00 := Lib.hid hm0
    have HM0 := Lib.hid hM0
    clear hm0 hg0 hp0 hA0 hplt hM0
    go_enter Try.func44, Try.ntmps44
    go_wp2_with fail
    go_quiet ((go_at_call 33; exact Calls.quiet_of (HC.out _)))
    go_wp2_with fail
    go_region_held3 (fun X => X.cell? ⟨p, 5, none⟩ = some (.int .i64 s) ∧ X.cell? ⟨p, 7, none⟩ = some (.slice A m cc)) (first | exact ⟨c5, c7⟩ | exact HCL.out _ ((below_drewN _ _ _).alloc (Nat.le_refl _) _)) ((go_at_call 33; refine Calls.mono (HC.out _) ?_; rintro e w2 ⟨rfl, n2, rfl⟩))
    go_wp2_with (refine wpList_copy_by (o := ⟨some 31, _, _, _, _, _⟩) rfl (.tmp 26) (.tmp 30) 33 33 rfl 5 Try.underlying33 info_by1 (some ⟨w.heap.size, 0, none⟩) A m' m' m cc rfl rfl w.heap.size m' 0 m 5 (fun _ => 0) S (fun _ => HROW.out _) HMN.out (HSRC.out _) hmm' ?_)
    intro w5 hrow ho
    obtain ⟨k7, f7', he⟩ := HEND.out _ w5 (by rw [← HM0.out]; exact hrow HM00.out) (by rw [← HM0.out]; exact ho.mono (fun i e => e.1))
    have HE := Lib.hid he
    clear hrow ho he
    go_wp2_with (rw [HM0.out])
    go_end0
    exact ⟨rfl, HE.out⟩

end Go.Proofs.Ytbecjaamheibmaa
