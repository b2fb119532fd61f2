/-
  Package skip: count, at, reach, before. Conditions: as typed.
-/
import Derived.Test.YtcbiiioglklpoaaDoorSkP
namespace Go.Proofs.YtcbiiioglklpoaaDoor
open Go.RowKit

theorem field_step0 (u v : Value) (w : World) : (Instr.field 123 (.agg #[u, v]) 0).run Tryd.prog w = .ok u w := by kernel_rfl
theorem field_step1 (u v : Value) (w : World) : (Instr.field 123 (.agg #[u, v]) 1).run Tryd.prog w = .ok v w := by kernel_rfl

set_option maxRecDepth 100000 in
set_option maxHeartbeats 4000000 in
theorem count_any {lv : Mb → Nat} {FA : FuncId} {c h p : Nat} {ns : List Nd} {S : Nat → Nat → Value} {V : Value} (w : World) (hl : ∀ m, 0 < lv m)
    (eA : ∀ args w, (callFunc FA args).run Tryd.prog w = .ok (.enter FA args) w) (hA : AheadIs FA #[V] w ns p) (hp : p ≤ ns.length) (hn : ns.length ≤ 1000000)
    (hc : w.cell? ⟨c, 1, none⟩ = some (.pointer (some ⟨h, 0, none⟩))) (hch : ChOn lv w h ns S) :
    Calls Tryd.prog 56 #[.pointer (some ⟨c, 0, none⟩), .func (.func FA) #[] #[V]] w fun e w' => e = .returned (.int .i64 (p : Nat)) ∧ Below w.heap.size w w' := by
  have HF := Lib.hid (find_any w eA hA hp hn hc hch)
  have HL := Lib.hid hl
  have HP := Lib.hid hp
  clear hA hch hc hn eA hl hp
  go_enter Tryd.func56, Tryd.ntmps56
  go_wp2_with fail
  refine HF.out.mono ?_
  rintro e w1 ⟨⟨f, rfl, htr⟩, hb⟩
  obtain ⟨k, b, q1, q2, q3, q4⟩ := htr 0 (by omega)
  obtain rfl := q2.low HL.out HP.out
  have HB := Lib.hid hb
  have hix := index_trail0 f
  have Q4 : f 1 = .int .i64 (k : Nat) := q4
  rw [Q4] at hix
  clear q1 q2 q3 q4 hb htr Q4
  have hfd := field_step1
  go_wp2
  go_ret
  exact ⟨rfl, HB.out⟩

set_option maxRecDepth 100000 in
set_option maxHeartbeats 4000000 in
theorem before_any (m : Mb) (w : World) :
    Calls Tryd.prog 57 #[.agg #[.string ⟨m.1.toArray⟩, .int .i64 m.2]] w fun e w' => e = .returned (.func (.func 75) #[] #[.pointer (some ⟨w.heap.size, 0, none⟩)]) ∧
      w'.rowIs w.heap.size 47 2 (mbF m) ∧ Below w.heap.size w w' := by
  go_enter Tryd.func57, Tryd.ntmps57
  go_wp2
  go_ret
  exact ⟨rfl, World.rowIs_alloc w _ _ (mbF m) (fun i hi => by
    have hi : i < 2 := hi
    rcases (by omega : i = 0 ∨ i = 1) with rfl | rfl <;> rfl), (Below.refl _ _).alloc (Nat.le_refl _) _⟩

/-- The node at a rank, as a pointer. -/
def nodeAt (ns : List Nd) (rank : Int) : Value := if 0 ≤ rank then ptrV ((ns[rank.toNat]?).map (·.1)) else .pointer none

theorem low_way {lv : Mb → Nat} {ns : List Nd} {p : Nat} (hl : ∀ m, 0 < lv m) : (p < ns.length → ∃ x, ns[p]? = some x ∧ fstAt lv 0 (ns.drop p) = some (1, x.1)) ∧ (¬ p < ns.length → fstAt lv 0 (ns.drop p) = none) := by
  constructor
  · intro h
    refine ⟨ns[p], List.getElem?_eq_getElem h, ?_⟩
    rw [List.drop_eq_getElem_cons h, fstAt_cons, if_pos (hl _)]
  · intro h
    rw [List.drop_of_length_le (by omega)]
    rfl

set_option maxRecDepth 100000 in
set_option maxHeartbeats 4000000 in
theorem at_any {lv : Mb → Nat} {c h : Nat} {ns : List Nd} {S : Nat → Nat → Value} (rank : Int) (w : World) (hl : ∀ m, 0 < lv m) (hn : ns.length ≤ 1000000)
    (hc : w.cell? ⟨c, 1, none⟩ = some (.pointer (some ⟨h, 0, none⟩))) (hch : ChOn lv w h ns S) :
    Calls Tryd.prog 58 #[.pointer (some ⟨c, 0, none⟩), .int .i64 rank] w fun e w' => e = .returned (nodeAt ns rank) ∧ Below w.heap.size w w' := by
  by_cases h0 : rank < 0
  · have e : nodeAt ns rank = .pointer none := by unfold nodeAt; rw [if_neg (by omega)]
    rw [e]
    clear hch hc
    go_enter Tryd.func58, Tryd.ntmps58
    go_wp2
    go_ret
    exact ⟨rfl, (Below.refl _ _).alloc (Nat.le_refl _) _⟩
  · have HCL := World.block_lt_of_cell? w _ hc
    obtain ⟨r, rfl⟩ : ∃ r : Nat, rank = r := ⟨rank.toNat, by omega⟩
    obtain ⟨wb, hwb⟩ : ∃ wb, w.alloc (.cells #[.int .i64 (r : Nat)] 3) = wb := ⟨_, rfl⟩
    have hbe : Below w.heap.size w wb := by rw [← hwb]; exact (Below.refl _ _).alloc (Nat.le_refl _) _
    have hB : wb.cell? ⟨w.heap.size, 0, none⟩ = some (.int .i64 (r : Nat)) := by
      rw [← hwb]
      have q := World.rowIs_alloc w #[.int .i64 (r : Nat)] 3 (fun _ => .int .i64 (r : Nat)) (fun i hi => by
        have hi : i < 1 := hi
        obtain rfl : i = 0 := by omega
        rfl)
      exact q.cell (i := 0) (by simp)
    obtain ⟨p, hp⟩ : ∃ p, min r ns.length = p := ⟨_, rfl⟩
    have hA : AheadIs 76 #[.pointer (some ⟨w.heap.size, 0, none⟩)] wb ns p := fun X k x hX hx => by
      have q := at_ahead (ns := ns) hB X k x hX hx
      have hk := (List.getElem?_eq_some_iff.1 hx).1
      have e : decide (k < p) = decide (k < r) := by
        by_cases h : k < r
        · rw [decide_eq_true h, decide_eq_true (by omega)]
        · rw [decide_eq_false h, decide_eq_false (by omega)]
      rw [e]
      exact q
    have HF := Lib.hid (find_any wb enter_a1 hA (by omega) hn ((hbe.cell (p := ⟨c, 1, none⟩) HCL).trans hc) (hch.below hbe))
    have HCH := Lib.hid (hch.below hbe)
    have HBE := Lib.hid hbe
    have HWB := Lib.hid hwb
    have HL := Lib.hid hl
    have HPP := Lib.hid hp
    obtain ⟨N, hN⟩ : ∃ N, nodeAt ns (r : Nat) = N := ⟨_, rfl⟩
    have HN : Hid (ptrV ((ns[r]?).map (·.1)) = N) := by unfold Hid; rw [← hN]; unfold nodeAt; rw [if_pos (by omega)]; rfl
    have hB' := hB
    rw [hN]
    clear hch hc hbe hwb hA hl hp hN
    go_enter Tryd.func58, Tryd.ntmps58
    go_wp2_with fail
    rw [HWB.out]
    refine HF.out.mono ?_
    rintro e w1 ⟨⟨f, rfl, htr⟩, hb⟩
    obtain ⟨k, b, q1, q2, q3, q4⟩ := htr 0 (by omega)
    obtain rfl := q2.low HL.out (by have := HPP.out; omega)
    have hix := index_trail0 f
    have Q3 : f 0 = .pointer (some ⟨b, 0, none⟩) := q3
    rw [Q3] at hix
    have hfd := field_step0
    have HB := Lib.hid (HBE.out.trans (hb.mono HBE.out.size))
    have HW1 := Lib.hid ((HCH.out.below hb).step q1 q2.2.1 (by omega))
    have q5 : ∃ T, w1.cell? ⟨b, 3, none⟩ = some (.pointer T) ∧ N = .pointer T := by
      have hlw := low_way (lv := lv) (ns := ns) (p := k) HL.out
      rcases HW1.out with ⟨h1, h2, _⟩ | ⟨d, x, h1, _, _, _, h5, _⟩
      · refine ⟨none, h2, ?_⟩
        have hnk : ¬ k < ns.length := fun e => by
          obtain ⟨x, _, hx⟩ := hlw.1 e
          rw [hx] at h1
          cases h1
        rw [← HN.out, List.getElem?_eq_none (by have := HPP.out; omega)]
        rfl
      · refine ⟨_, h5, ?_⟩
        have hk : k < ns.length := by
          refine Classical.byContradiction fun e => ?_
          rw [hlw.2 e] at h1
          cases h1
        obtain ⟨y, hy, hx⟩ := hlw.1 hk
        rw [hx] at h1
        simp only [Option.some.injEq, Prod.mk.injEq] at h1
        rw [← HN.out, show r = k from by have := HPP.out; omega, hy, ← h1.2]
        rfl
    obtain ⟨T, q5, rfl⟩ := q5
    clear q1 q2 q3 q4 hb htr Q3
    go_wp2
    go_ret
    exact ⟨rfl, HB.out⟩

set_option maxRecDepth 100000 in
set_option maxHeartbeats 4000000 in
theorem reach_any {lv : Mb → Nat} {c h : Nat} {ns : List Nd} {S : Nat → Nat → Value} {L : List Mb} (lo hi : Bd) (w : World) (hl : ∀ m, 0 < lv m) (hn : ns.length ≤ 1000000)
    (hc : w.cell? ⟨c, 1, none⟩ = some (.pointer (some ⟨h, 0, none⟩))) (hch : ChOn lv w h ns S) (hL : ns.map (·.2) = L) (ho : InOrd L) :
    Calls Tryd.prog 59 #[.pointer (some ⟨c, 0, none⟩), bdV lo, bdV hi] w fun e w' => e = .returned (.tuple #[.int .i64 (fromM lo L : Nat), .int .i64 (toM lo hi L : Nat)]) ∧ Below w.heap.size w w' := by
  have hlen : ns.length = L.length := by rw [← hL, List.length_map]
  obtain ⟨M, hM⟩ : ∃ M, w.heap.size = M := ⟨_, rfl⟩
  have HCL := World.block_lt_of_cell? w _ hc
  obtain ⟨wa, hwa⟩ : ∃ wa, (w.alloc (.cells #[.int .i64 lo.n, .bool lo.open_, .int .i64 lo.inf] 23)).alloc (.cells #[.int .i64 hi.n, .bool hi.open_, .int .i64 hi.inf] 23) = wa := ⟨_, rfl⟩
  have hr1 : wa.rowIs M 23 3 (bdF lo) := by
    rw [← hwa, ← hM]
    exact (World.rowIs_alloc w _ _ (bdF lo) (fun i hi => by
      have hi : i < 3 := hi
      rcases (by omega : i = 0 ∨ i = 1 ∨ i = 2) with rfl | rfl | rfl <;> rfl)).alloc _
  have hr2 : wa.rowIs (M + 1) 23 3 (bdF hi) := by
    rw [← hwa, ← hM]
    have q := World.rowIs_alloc (w.alloc (.cells #[.int .i64 lo.n, .bool lo.open_, .int .i64 lo.inf] 23)) #[.int .i64 hi.n, .bool hi.open_, .int .i64 hi.inf] 23 (bdF hi) (fun i hi => by
      have hi : i < 3 := hi
      rcases (by omega : i = 0 ∨ i = 1 ∨ i = 2) with rfl | rfl | rfl <;> rfl)
    have e : (w.alloc (.cells #[.int .i64 lo.n, .bool lo.open_, .int .i64 lo.inf] 23)).heap.size = w.heap.size + 1 := by simp
    rw [e] at q
    exact q
  have hbe : Below w.heap.size w wa := by rw [← hwa]; exact ((Below.refl _ _).alloc (Nat.le_refl _) _).alloc (by simp) _
  have HCT := Lib.hid (fun W hW => count_any W hl enter_r1 (reach1_ahead ((hch.below hbe).below (w' := W) hW) hL ho (hr1.of_block (hW.block M hr1.lt))) (Nat.le_trans (fromM_le lo hi L) (by rw [hlen]; exact toM_le lo hi L)) hn ((hW.cell (p := ⟨c, 1, none⟩) (by have h1 := hbe.size; have h2 : c < w.heap.size := HCL; show c < _; omega)).trans ((hbe.cell (p := ⟨c, 1, none⟩) HCL).trans hc)) ((hch.below hbe).below hW))
  have HCU := Lib.hid (fun W hW => count_any W hl enter_r2 (reach2_ahead ((hch.below hbe).below (w' := W) hW) hL ho (hr2.of_block (hW.block (M + 1) hr2.lt))) (by rw [hlen]; exact cntB_le _ _) hn ((hW.cell (p := ⟨c, 1, none⟩) (by have h1 := hbe.size; have h2 : c < w.heap.size := HCL; show c < _; omega)).trans ((hbe.cell (p := ⟨c, 1, none⟩) HCL).trans hc)) ((hch.below hbe).below hW))
  have HBE := Lib.hid hbe
  have HWA := Lib.hid hwa
  have hmx : max (fromM lo L : Int) (uptoM hi L : Int) = (toM lo hi L : Nat) := by unfold toM; omega
  obtain ⟨a, ha⟩ : ∃ a, fromM lo L = a := ⟨_, rfl⟩
  obtain ⟨b, hb⟩ : ∃ b, uptoM hi L = b := ⟨_, rfl⟩
  obtain ⟨t, ht⟩ : ∃ t, toM lo hi L = t := ⟨_, rfl⟩
  rw [ha] at HCT hmx ⊢
  rw [hb] at HCU hmx
  rw [ht] at hmx ⊢
  unfold bdV
  rw [hM] at HBE ⊢
  clear hch hc hL ho hr1 hr2 hbe hwa ha hb ht hl HCL hlen
  go_enter Tryd.func59, Tryd.ntmps59
  go_wp2_with fail
  rw [HWA.out]
  refine (HCT.out wa (Below.refl _ _)).mono ?_
  rintro e w1 ⟨rfl, hb1⟩
  have HB1 := Lib.hid hb1
  clear hb1
  go_wp2_with fail
  refine (HCU.out w1 HB1.out).mono ?_
  rintro e w2 ⟨rfl, hb2⟩
  have HB2 := Lib.hid (HBE.out.trans ((HB1.out.trans (hb2.mono HB1.out.size)).mono (by have := HBE.out.size; omega)))
  clear hb2
  go_wp2
  go_ret2
  exact ⟨rfl, HB2.out⟩

end Go.Proofs.YtcbiiioglklpoaaDoor
