/-
  List of a row that is nil. No condition.
-/
import Derived.Test.YtkjcoengijedeabGQmS
namespace Go.Proofs.Ytkjcoengijedeab
open Go.RowKit Go.Shelf

attribute [local go_sem] Oper.semAt_some

set_option maxRecDepth 100000 in
set_option maxHeartbeats 8000000 in
theorem all1S_nil_stops (n : Nat) (hn : 1 ≤ n) {Bn : Nat} (w : World) (hBn : w.cell? ⟨Bn, 0, none⟩ = some (.pointer none)) :
    SeqStopsK Fence.wide n Try.prog 50 #[.pointer (some ⟨Bn, 0, none⟩)] (fun x : ByteArray × Nat => #[.int .i64 x.2, .string x.1]) (KpDS (fun _ => False) Bn) (fun ys => ys = []) (fun _ => False) 0 w := by
  intro l J Jx W hW _ _ _ h0
  have hb := (hW.cell (p := ⟨Bn, 0, none⟩) (World.block_lt_of_cell? w _ hBn)).trans hBn
  have HJ := Lib.hid h0
  have HL := Lib.hid (lenS_nil W)
  clear hW h0 hBn
  refine callsIn_of_wp Try.func50 rfl trivial ?_ rfl
  simp only [Try.ntmps50, List.size_toArray, List.length_cons, List.length_nil, Nat.reduceAdd, Nat.reduceSub, Array.replicate_succ, Array.replicate_zero, List.push_toArray, List.append_toArray, List.nil_append, List.cons_append]
  gi_wp2_with (refine ⟨trivial, ?_⟩; gi_at_call 11; refine (callsIn_wide.2 HL.out).mono ?_; rintro e w' ⟨rfl, rfl⟩)
  gi_loopw [3, 4, 5, 8, 11] (fun _ _ _ iv _ wr => iv = .int .i64 0 ∧ wr = w') (fun _ _ _ _ _ _ => 0)
  case atStart => exact ⟨rfl, rfl⟩
  case round =>
    obtain ⟨rfl, rfl⟩ := hrel
    gi_wp2
    go_end0
    exact ⟨⟨_, rfl⟩, .inl ⟨_, rfl, HJ.out⟩⟩

set_option maxRecDepth 100000 in
set_option maxHeartbeats 16000000 in
theorem listS_nil (w : World) :
    Calls Try.prog 20 #[.pointer none] w fun e w' => ∃ v, e = .returned v ∧ w'.ownsRow w.heap.size 9 1 v 0 [] ∧ Below w.heap.size w w' := by
  have HLEN := Lib.hid (fun X (_ : Below w.heap.size w X) => lenS_nil X)
  have HST := Lib.hid (fun (Bn : Nat) (W : World) (hBn : W.cell? ⟨Bn, 0, none⟩ = some (.pointer none)) => all1S_nil_stops 9 (by omega) (Bn := Bn) W hBn)
  obtain ⟨ip, hip, hyp⟩ := Option.map_eq_some_iff.1 info_eltS
  simp only [Prod.mk.injEq] at hyp
  have HIP := Lib.hid hyp
  have HIQ := Lib.hid hip
  have HALL := Lib.hid (fun X => allS_mk none X)
  obtain ⟨k, hk⟩ : ∃ k, 0 = k := ⟨_, rfl⟩
  have HK := Lib.hid hk
  have hL : k ≤ 400000 := by omega
  rw [show (0 : Int) = (k : Int) by omega] at HLEN
  clear hyp hip hk
  refine (callsIn_wide (n := 10)).1 ?_
  refine callsIn_of_wp_marks Try.func20 rfl trivial ?_ rfl
  simp only [Try.ntmps20, List.size_toArray, List.length_cons, List.length_nil, Nat.reduceAdd, Nat.reduceSub, Array.replicate_succ, Array.replicate_zero, List.push_toArray, List.append_toArray, List.nil_append, List.cons_append]
  gi_wp2_with (first | (refine ⟨trivial, ?_⟩; gi_at_call 11; refine (callsIn_wide.2 (HLEN.out _ (Below.refl _ _))).mono ?_; rintro e w' ⟨rfl, rfl⟩) | (gi_at_make; refine wpListIn_make_own _ rfl _ _ 22 rfl w'.heap.size 9 ip _ 1 Try.underlying22 HIQ.out HIP.out.1 HIP.out.2.1 .i64 .i64 k k rfl rfl rfl (by rw [HIP.out.2.2]; omega) (by unfold maxLen; omega) (Nat.le_refl _) ?_; intro w1 hown1 hgr1) | (refine ⟨trivial, ?_⟩; gi_at_call 39; refine (callsIn_wide.2 (HALL.out _)).mono ?_; rintro e w2 ⟨rfl, rfl⟩))
  obtain ⟨B, hBe⟩ : ∃ B, w1.heap.size = B := ⟨_, rfl⟩
  have hn0 : w'.heap.size ≤ B := by rw [← hBe]; exact hgr1.size
  have hbx := Boxed.new w1 22 (.slice (some ⟨w'.heap.size, 0, none⟩) 0 k)
  rw [hBe] at hbx ⊢
  obtain ⟨wA, hwA⟩ : ∃ wA, w1.alloc (.cells #[.slice (some ⟨w'.heap.size, 0, none⟩) 0 k] 22) = wA := ⟨_, rfl⟩
  have hown2 := hown1.alloc (.cells #[.slice (some ⟨w'.heap.size, 0, none⟩) 0 k] 22)
  have hbA : Below w'.heap.size w' wA := by rw [← hwA]; exact ((Below.refl _ _).grown hgr1 (Nat.le_refl _) (fun k e => by cases e)).alloc (by have := hgr1.size; omega) _
  rw [hwA] at hbx hown2 ⊢
  have hszA : wA.heap.size = B + 1 := by rw [← hwA, ← hBe]; simp
  obtain ⟨wB, hwB⟩ : ∃ wB, wA.alloc (.cells #[.pointer none] 25) = wB := ⟨_, rfl⟩
  have hbn : wB.cell? ⟨B + 1, 0, none⟩ = some (.pointer none) := by rw [← hwB, ← hszA]; have q := heap_alloc_new wA (.cells #[.pointer none] 25); simp only [World.cell?, q]; rfl
  have hbq : Boxed wB (B + 1) 25 (.pointer none) := by rw [← hwB, ← hszA]; exact Boxed.new wA _ _
  have hbx2 := hbx.alloc (.cells #[.pointer none] 25)
  have hown3 := hown2.alloc (.cells #[.pointer none] 25)
  have hbB : Below w'.heap.size w' wB := by rw [← hwB]; exact hbA.alloc hbA.size _
  rw [hwB] at hbx2 hown3 ⊢
  have hszB : wB.heap.size = B + 2 := by rw [← hwB]; simp [hszA]
  clear hwA hwB hbx hown1 hown2 hbA hgr1 hBe
  refine wpIn_rangeFunc_ownF rfl (by omega) (gf := 50) (lb := #[.pointer (some ⟨B + 1, 0, none⟩)]) rfl trivial (enters_of Try.func50 (by kernel_rfl) rfl)
    (HST.out (B + 1) wB hbn) (fun h k => h.t k) (fun W l o o' hl h ho _ => KpDS.of_below (F := fun _ => False) (n := B + 2) ((Below.refl _ W).grown (grownBy_putObj' W l o') (by have := (Array.getElem?_eq_some_iff.1 h).1; omega) (fun k e => by cases e; omega)) (fun k hk => hk.elim) (by omega)) (Below.refl _ _) (fun _ => rfl)
    (fun pre W => (∃ v, Boxed W B 22 v ∧ W.ownsRow w'.heap.size 9 1 v pre.length (pre.map (fun x => (Value.string) x.1)) ∧ True) ∧ Below w'.heap.size w' W ∧ Boxed W (B + 1) 25 (.pointer none))
    (fun _ _ _ => False)
    (OwnFrom.and (Own.from (holdsRow_own w'.heap.size B 22 9 1 (fun (pre : List (ByteArray × Nat)) => pre.length) (fun pre => pre.map (fun x => (Value.string) x.1)) (fun _ _ => True)) _) (OwnFrom.and (ownFrom_below (Nat.le_refl _) (by omega)) ?own))
    (fun _ _ _ _ _ hs _ _ => hs)
    ⟨⟨_, hbx2, hown3, trivial⟩, hbB, hbq⟩
    (fun x => { tmps := #[.pointer none, undef, .slice none 0 0, .pointer (some ⟨B, 0, none⟩), undef, (Value.string) x.1, .pointer none, .int .i64 k, .slice (some ⟨w'.heap.size, 0, none⟩) 0 k, .pointer none, .func (.func 50) #[] #[.pointer (some ⟨B + 1, 0, none⟩)], .int .i64 x.2, (Value.string) x.1, undef, undef, undef, undef, undef], defers := [] }) ?assign ?body ?done ?stop
  case own =>
    intro s X Y row h hg hr
    exact h.kept hg (fun e => by
      obtain ⟨h1, _⟩ := hr (B + 1) e.symm
      omega)
  case assign =>
    intro l x W K hK
    gi_wp2
    exact hK
  case body =>
    rintro l pre x W _ hlt
    exact absurd hlt (Nat.not_lt_zero _)
  case done =>
    rintro D2 ys W hD2 rfl ⟨⟨v, hv, hrow, -⟩, hB, -⟩ hK
    have hcell := hv.cell
    gi_wp2
    refine ⟨by simp, .inl ⟨_, _, rfl, run_takeDeferred hK, ?_⟩⟩
    refine ⟨_, results_tmp rfl _ _ _, v, rfl, ?_, hB.trans (belowK_b (w := w') (Nat.le_refl _) W D2 _ _ (by omega) hK rfl rfl)⟩
    have q := ownsRow_putObj hrow (.deferred none) hK rfl
    exact q
  case stop =>
    rintro D2 c pre W _ _ h _
    exact h.elim

end Go.Proofs.Ytkjcoengijedeab
