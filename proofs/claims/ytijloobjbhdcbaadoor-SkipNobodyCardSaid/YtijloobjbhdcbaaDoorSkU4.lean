/-
  The statements' own from, and All, of a list that no call made. Condition: the table of math/bits lies where the program laid it.
-/
import Derived.Test.YtijloobjbhdcbaaDoorSkU3
import Derived.RangeFuncNested
import Derived.RangeFuncBound
import Derived.RangeFuncCalls
import Derived.RangeFuncLeaves
import Derived.RangeFuncFrom
import Derived.RangeFuncBox
import Derived.OwnWalkIn
import Derived.TacticsInMore
import Derived.LoopNIn
import Derived.LoopIn
namespace Go.Proofs.YtijloobjbhdcbaaDoor
open Go.RowKit

attribute [local go_sem] Oper.semAt_some

section
variable {w : World} {p : Option Addr}

set_option maxRecDepth 100000 in
set_option maxHeartbeats 8000000 in
theorem lawfrom_none (hV : NoL w (.pointer p)) (hz : TzB w) (rank : Int) : Calls Tryd.prog 36 #[.pointer p, .int .i64 rank, .bool false] w fun e w' => e = .returned (.tuple #[.slice none 0 0, .slice none 0 0]) ∧ Below w.heap.size w w' := by
  have hmf : ∀ (fn : Fn) (first cap : Array Value) (w : World), (Instr.makeFunc fn first cap).run Tryd.prog w = .ok (.func fn first cap) w := fun _ _ _ _ => rfl
  have hnl : ∀ (X : World) (a b : Array Value), (binOp .eql 100 (.func (.func 73) a b) .nilFunc).run Tryd.prog X = .ok (.bool false) X := fun _ _ _ => by first | rfl | kernel_rfl
  obtain ⟨M, hM⟩ : ∃ M, w.heap.size = M := ⟨_, rfl⟩
  obtain ⟨wa, hwa⟩ : ∃ wa, (w.alloc (.cells #[.slice none 0 0] 35)).alloc (.cells #[.slice none 0 0] 75) = wa := ⟨_, rfl⟩
  have ba : Below M w wa := by rw [← hwa, ← hM]; exact ((Below.refl _ _).alloc (Nat.le_refl _) _).alloc (by simp) _
  have sa : wa.heap.size = M + 2 := by rw [← hwa, ← hM]; simp
  have a0 : wa.cell? ⟨M, 0, none⟩ = some (.slice none 0 0) := by rw [← hwa, ← hM]; simp [go_sem]
  have a1 : wa.cell? ⟨M + 1, 0, none⟩ = some (.slice none 0 0) := by rw [← hwa, ← hM]; simp [go_sem]
  have hba : Below w.heap.size w wa := by rw [hM]; exact ba
  have HF := Lib.hid (from_mk p rank wa)
  have HN := Lib.hid (hV.below hba)
  have HZ := Lib.hid (hz.below hba)
  have HWA := Lib.hid hwa
  have HBA := Lib.hid ba
  have HSA := Lib.hid sa
  have HA0 := Lib.hid a0
  have HA1 := Lib.hid a1
  have HMh := Lib.hid hM
  rw [hM]
  clear hwa ba sa a0 a1 hba hV hz
  go_enter Tryd.func36, Tryd.ntmps36
  go_wp2_with fail
  rw [HWA.out]
  refine HF.out.mono ?_
  rintro e w1 ⟨rfl, h0, h1, hb⟩
  have HB := Lib.hid hb
  have H3 := Lib.hid (fun (Y : Value) => from3_none (b2 := wa.heap.size + 3) (b3 := wa.heap.size + 2) (Y := Y) (HN.out.below hb) (HZ.out.below hb) h0 h1)
  clear h0 h1 hb
  go_wp2_with fail
  refine (H3.out _).mono ?_
  rintro e w2 ⟨rfl, hb2⟩
  have hb3 := HB.out.trans (hb2.mono HB.out.size)
  have c0 : w2.cell? ⟨M, 0, none⟩ = some (.slice none 0 0) := (hb3.cell (p := ⟨M, 0, none⟩) (by have := HSA.out; show M < _; omega)).trans HA0.out
  have c1 : w2.cell? ⟨M + 1, 0, none⟩ = some (.slice none 0 0) := (hb3.cell (p := ⟨M + 1, 0, none⟩) (by have := HSA.out; show M + 1 < _; omega)).trans HA1.out
  have HB3 := Lib.hid (HBA.out.trans (hb3.mono (by have := HSA.out; omega)))
  clear hb2 hb3
  go_wp2_with fail
  go_region
  all_goals
    go_wp2
    go_ret2
    exact ⟨rfl, by first | exact HB3.out | exact HB3.out.drew⟩

theorem none_stops (n : Nat) {b0 b1 b2 b3 : Nat} {V : Value} {rank : Int} (W0 : World) (hV : NoL W0 V) (hz : TzB W0) (h0 : W0.cell? ⟨b0, 0, none⟩ = some V) (h1 : W0.cell? ⟨b1, 0, none⟩ = some (.int .i64 rank)) :
    SeqStopsK Fence.wide n Tryd.prog 73 #[.pointer (some ⟨b0, 0, none⟩), .pointer (some ⟨b1, 0, none⟩), .pointer (some ⟨b2, 0, none⟩), .pointer (some ⟨b3, 0, none⟩)] (fun _ : Empty => #[.int .i64 0, .int .i64 0]) (fun _ _ => True) (fun _ => True) (fun _ => False) 0 W0 := by
  intro l J Jx W hW hJ _ _ hI
  refine callsIn_wide.2 ((from3_none (b2 := b2) (b3 := b3) (Y := .func (.yield l) #[] #[]) (hV.below hW) (hz.below hW) ((hW.cell (p := ⟨b0, 0, none⟩) (World.block_lt_of_cell? W0 _ h0)).trans h0) ((hW.cell (p := ⟨b1, 0, none⟩) (World.block_lt_of_cell? W0 _ h1)).trans h1)).mono ?_)
  rintro e w' ⟨rfl, hb⟩
  exact ⟨⟨_, rfl⟩, .inl ⟨[], trivial, hJ [] W w' none hI ⟨hb.os, hb.tape, hb.output, hb.size, fun k hk _ => hb.block k hk⟩ (fun r e => by cases e)⟩⟩

set_option maxRecDepth 100000 in
set_option maxHeartbeats 16000000 in
theorem nall_any (hV : NoL w (.pointer p)) (hz : TzB w) : Calls Tryd.prog 23 #[.pointer p] w fun e w' => (∃ A c, e = .returned (.slice A 0 c)) ∧ Below w.heap.size w w' := by
  have HLEN := Lib.hid (nlen_any hV hz)
  have hmk : ∀ W : World, (Instr.makeSlice 35 (.int .i64 0) (.int .i64 0)).run Tryd.prog W = .ok (.slice (some ⟨W.heap.size, 0, none⟩) 0 0) (W.alloc (.cells (madeCells #[.string ⟨#[]⟩, .int .i64 0] (0 * 2)) 47)) := fun W => make_scored (n := 0) (by omega) W
  have HFR := Lib.hid (fun X => from_mk p 0 X)
  have HST := Lib.hid (fun (W : World) (hW : Below w.heap.size w W) (b0 b1 b2 b3 : Nat) (h0 : W.cell? ⟨b0, 0, none⟩ = some (.pointer p)) (h1 : W.cell? ⟨b1, 0, none⟩ = some (.int .i64 0)) => none_stops 9 (b2 := b2) (b3 := b3) W (hV.below hW) (hz.below hW) h0 h1)
  obtain ⟨M, hM⟩ : ∃ M, w.heap.size = M := ⟨_, rfl⟩
  have HMh := Lib.hid hM
  rw [hM] at HLEN HST ⊢
  clear hV hz
  refine (callsIn_wide (n := 10)).1 ?_
  refine callsIn_of_wp_marks Tryd.func23 rfl trivial ?_ rfl
  simp only [Tryd.ntmps23, List.size_toArray, List.length_cons, List.length_nil, Nat.reduceAdd, Nat.reduceSub, Array.replicate_succ, Array.replicate_zero, List.push_toArray, List.append_toArray, List.nil_append, List.cons_append]
  gi_wp2_with (first | (refine ⟨trivial, ?_⟩; gi_at_call 20; refine (callsIn_wide.2 HLEN.out).mono ?_; rintro e w1 ⟨rfl, hb1⟩) | (refine ⟨trivial, ?_⟩; gi_at_call 54; refine (callsIn_wide.2 (HFR.out _)).mono ?_; rintro e w2 ⟨rfl, h0, h1, hb2⟩))
  generalize hX1 : World.alloc (World.alloc w1 _) _ = X1 at hb2
  have hc0 : w2.cell? ⟨w1.heap.size + 1 + 1, 0, none⟩ = some (.pointer p) := by simpa using h0
  have hc1 : w2.cell? ⟨w1.heap.size + 1 + 1 + 1, 0, none⟩ = some (.int .i64 0) := by simpa using h1
  have sX : X1.heap.size = w1.heap.size + 2 := by rw [← hX1]; simp
  have bX : Below M w X1 := by rw [← hX1]; exact (hb1.alloc (by have := hb1.size; have := HMh.out; omega) _).alloc (by have := hb1.size; have := HMh.out; simp; omega) _
  have b2 : Below M w w2 := bX.trans (hb2.mono (by have := hb1.size; have := HMh.out; omega))
  have cX : X1.cell? ⟨w1.heap.size + 1, 0, none⟩ = some (.slice (some ⟨w1.heap.size, 0, none⟩) 0 0) := by rw [← hX1]; simp [go_sem]
  have c2 : w2.cell? ⟨w1.heap.size + 1, 0, none⟩ = some (.slice (some ⟨w1.heap.size, 0, none⟩) 0 0) := (hb2.cell (p := ⟨w1.heap.size + 1, 0, none⟩) (by show w1.heap.size + 1 < _; omega)).trans cX
  have l2 : w1.heap.size + 1 < w2.heap.size := by have := hb2.size; omega
  clear h0 h1 hX1 hb1 hb2 sX bX cX
  have hst := HST.out w2 b2 (w1.heap.size + 1 + 1) (w1.heap.size + 1 + 1 + 1) (w1.heap.size + 1 + 1 + 3) (w1.heap.size + 1 + 1 + 2) hc0 hc1
  clear HST HFR HLEN hc0 hc1
  refine wpIn_rangeFunc_ownF rfl (by omega) (gf := 73) (lb := #[.pointer (some ⟨w1.heap.size + 1 + 1, 0, none⟩), .pointer (some ⟨w1.heap.size + 1 + 1 + 1, 0, none⟩), .pointer (some ⟨w1.heap.size + 1 + 1 + 3, 0, none⟩), .pointer (some ⟨w1.heap.size + 1 + 1 + 2, 0, none⟩)]) rfl trivial (enters_of Tryd.func73 (by kernel_rfl) rfl)
    hst (fun _ _ => trivial) (fun _ _ _ _ _ _ _ _ => trivial) (Below.refl _ _) (fun _ => rfl)
    (fun _ W => Below w2.heap.size w2 W) (fun _ _ _ => False) (ownFrom_below (Nat.le_refl _) (Nat.le_refl _)) (fun _ _ _ _ _ hs _ _ => hs) (Below.refl _ _) (fun x => x.elim) ?assign ?body ?done ?stop
  case assign => intro l x; exact x.elim
  case body => intro l pre x; exact x.elim
  case done =>
    rintro D2 ys W hD2 _ hB hK
    have hcell := (hB.cell (p := ⟨w1.heap.size + 1, 0, none⟩) l2).trans c2
    gi_wp2
    refine ⟨by simp, .inl ⟨_, _, rfl, run_takeDeferred hK, ?_⟩⟩
    exact ⟨_, results_tmp rfl _ _ _, ⟨_, _, rfl⟩, (b2.trans (hB.mono (by have := b2.size; have := HMh.out; omega))).trans (belowK_b (w := w2) (by have := b2.size; have := HMh.out; omega) W D2 _ _ hD2 hK rfl rfl)⟩
  case stop =>
    rintro D2 c pre W _ _ h _
    exact h.elim

end

end Go.Proofs.YtijloobjbhdcbaaDoor
