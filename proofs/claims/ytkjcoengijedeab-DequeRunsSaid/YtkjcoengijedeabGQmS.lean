/-
  Package deque (values: string): the walk of List. Conditions: the row lies in memory as it reads.
-/
import Derived.Test.YtkjcoengijedeabGQkS
import Derived.RangeFuncFrom
import Derived.RangeFuncBox
namespace Go.Proofs.Ytkjcoengijedeab
open Go.RowKit Go.Shelf

attribute [local go_sem] Oper.semAt_some

set_option maxRecDepth 100000 in
set_option maxHeartbeats 8000000 in
theorem all1S_stops (n : Nat) (hn : 1 ≤ n) {Bn D M base : Nat} {F : Nat → Prop} {L : List ByteArray} (hM : M ≤ 400000) (hL : L.length ≤ 400000) (w : World) (hBn : w.cell? ⟨Bn, 0, none⟩ = some (.pointer (some ⟨D, 0, none⟩))) (hD : DqOn KDS w base F D M L) :
    SeqStopsK Fence.wide n Try.prog 50 #[.pointer (some ⟨Bn, 0, none⟩)] (fun x : ByteArray × Nat => #[.int .i64 x.2, (Value.string) x.1]) (KpDS F Bn) (fun ys => ys = L.zipIdx) (fun pre => pre <+: L.zipIdx) L.zipIdx.length w := fun l J Jx W hW hJ _ hY h0 =>
  all1S_in n hn l Bn D M base F L hM hL J Jx hY W ((hW.cell (p := ⟨Bn, 0, none⟩) (World.block_lt_of_cell? w _ hBn)).trans hBn) (hD.below hW) hJ h0

set_option maxRecDepth 100000 in
set_option maxHeartbeats 16000000 in
theorem listS_any {base D M : Nat} {F : Nat → Prop} {L : List ByteArray} (w : World) (hD : DqOn KDS w base F D M L) (hM : M ≤ 400000) (hL : L.length ≤ 400000) :
    Calls Try.prog 20 #[.pointer (some ⟨D, 0, none⟩)] w fun e w' => ∃ v, e = .returned v ∧ w'.ownsRow w.heap.size 9 1 v L.length (L.map (Value.string)) ∧ Below w.heap.size w w' := by
  have HLEN := Lib.hid (fun X (hX : Below w.heap.size w X) => lenS_any X (hD.below hX))
  have HST := Lib.hid (fun (Bn : Nat) (W : World) (hW : Below w.heap.size w W) (hBn : W.cell? ⟨Bn, 0, none⟩ = some (.pointer (some ⟨D, 0, none⟩))) => all1S_stops 9 (by omega) hM hL W hBn (hD.below hW))
  have HF := Lib.hid (fun k hk => (hD.1 k hk).2)
  obtain ⟨ip, hip, hyp⟩ := Option.map_eq_some_iff.1 info_eltS
  simp only [Prod.mk.injEq] at hyp
  have HIP := Lib.hid hyp
  have HIQ := Lib.hid hip
  have HALL := Lib.hid (fun X => allS_mk (some ⟨D, 0, none⟩) X)
  obtain ⟨k, hk⟩ : ∃ k, L.length = k := ⟨_, rfl⟩
  have HK := Lib.hid hk
  rw [hk] at HLEN hL
  clear hD hyp hip hk
  refine (callsIn_wide (n := 10)).1 ?_
  refine callsIn_of_wp_marks Try.func20 rfl trivial ?_ rfl
  simp only [Try.ntmps20, List.size_toArray, List.length_cons, List.length_nil, Nat.reduceAdd, Nat.reduceSub, Array.replicate_succ, Array.replicate_zero, List.push_toArray, List.append_toArray, List.nil_append, List.cons_append]
  gi_wp2_with (first | (refine ⟨trivial, ?_⟩; gi_at_call 11; refine (callsIn_wide.2 (HLEN.out _ (Below.refl _ _))).mono ?_; rintro e w' ⟨rfl, rfl⟩) | (gi_at_make; refine wpListIn_make_own _ rfl _ _ 22 rfl w'.heap.size 9 ip _ 1 Try.underlying22 HIQ.out HIP.out.1 HIP.out.2.1 .i64 .i64 k k rfl rfl rfl (by rw [HIP.out.2.2]; omega) (by unfold maxLen; omega) (Nat.le_refl _) ?_; intro w1 hown1 hgr1) | (refine ⟨trivial, ?_⟩; gi_at_call 39; refine (callsIn_wide.2 (HALL.out _)).mono ?_; rintro e w2 ⟨rfl, rfl⟩))
  obtain ⟨B, hBe⟩ : ∃ B, w1.heap.size = B := ⟨_, rfl⟩
  have hn0 : w'.heap.size ≤ B := by rw [← hBe]; exact hgr1.size
  have hbx := Boxed.new w1 22 (.slice (some ⟨w'.heap.size, 0, none⟩) 0 k)
  rw [hBe] at hbx ⊢
  obtain ⟨wA, hwA⟩ : ∃ wA, w1.alloc (.cells #[.slice (some ⟨w'.heap.size, 0, none⟩) 0 k] 22) = wA := ⟨_, rfl⟩
  have hown2 := hown1.alloc (.cells #[.slice (some ⟨w'.heap.size, 0, none⟩) 0 k] 22)
  have hbA : Below w'.heap.size w' wA := by rw [← hwA]; exact ((Below.refl _ _).grown hgr1 (Nat.le_refl _) (fun k e => by cases e)).alloc (by have := hgr1.size; omega) _
  rw [hwA] at hbx hown2 ⊢
  have hszA : wA.heap.size = B + 1 := by rw [← hwA, ← hBe]; simp
  obtain ⟨wB, hwB⟩ : ∃ wB, wA.alloc (.cells #[.pointer (some ⟨D, 0, none⟩)] 25) = wB := ⟨_, rfl⟩
  have hbn : wB.cell? ⟨B + 1, 0, none⟩ = some (.pointer (some ⟨D, 0, none⟩)) := by rw [← hwB, ← hszA]; have q := heap_alloc_new wA (.cells #[.pointer (some ⟨D, 0, none⟩)] 25); simp only [World.cell?, q]; rfl
  have hbq : Boxed wB (B + 1) 25 (.pointer (some ⟨D, 0, none⟩)) := by rw [← hwB, ← hszA]; exact Boxed.new wA _ _
  have hbx2 := hbx.alloc (.cells #[.pointer (some ⟨D, 0, none⟩)] 25)
  have hown3 := hown2.alloc (.cells #[.pointer (some ⟨D, 0, none⟩)] 25)
  have hbB : Below w'.heap.size w' wB := by rw [← hwB]; exact hbA.alloc hbA.size _
  rw [hwB] at hbx2 hown3 ⊢
  have hszB : wB.heap.size = B + 2 := by rw [← hwB]; simp [hszA]
  have HXL : Hid (L.zipIdx.length = k) := by unfold Hid; rw [List.length_zipIdx, HK.out]
  clear hwA hwB hbx hown1 hown2 hbA hgr1 hBe
  refine wpIn_rangeFunc_ownF rfl (by omega) (gf := 50) (lb := #[.pointer (some ⟨B + 1, 0, none⟩)]) rfl trivial (enters_of Try.func50 (by kernel_rfl) rfl)
    (HST.out (B + 1) wB hbB hbn) (fun h k => h.t k) (fun W l o o' hl h ho _ => KpDS.of_below (n := B + 2) ((Below.refl _ W).grown (grownBy_putObj' W l o') (by have := (Array.getElem?_eq_some_iff.1 h).1; omega) (fun k e => by cases e; omega)) (fun k hk => by have := HF.out k hk; omega) (by omega)) (Below.refl _ _) (fun _ => rfl)
    (fun pre W => (∃ v, Boxed W B 22 v ∧ W.ownsRow w'.heap.size 9 1 v pre.length (pre.map (fun x => (Value.string) x.1)) ∧ True) ∧ Below w'.heap.size w' W ∧ Boxed W (B + 1) 25 (.pointer (some ⟨D, 0, none⟩)))
    (fun _ _ _ => False)
    (OwnFrom.and (Own.from (holdsRow_own w'.heap.size B 22 9 1 (fun (pre : List (ByteArray × Nat)) => pre.length) (fun pre => pre.map (fun x => (Value.string) x.1)) (fun _ _ => True)) _) (OwnFrom.and (ownFrom_below (Nat.le_refl _) (by omega)) ?own))
    (fun _ _ _ _ _ hs _ _ => hs)
    ⟨⟨_, hbx2, hown3, trivial⟩, hbB, hbq⟩
    (fun x => { tmps := #[.pointer (some ⟨D, 0, none⟩), undef, .slice none 0 0, .pointer (some ⟨B, 0, none⟩), undef, (Value.string) x.1, .pointer (some ⟨D, 0, none⟩), .int .i64 k, .slice (some ⟨w'.heap.size, 0, none⟩) 0 k, .pointer (some ⟨D, 0, none⟩), .func (.func 50) #[] #[.pointer (some ⟨B + 1, 0, none⟩)], .int .i64 x.2, (Value.string) x.1, undef, undef, undef, undef, undef], defers := [] }) ?assign ?body ?done ?stop
  case own =>
    intro s X Y row h hg hr
    exact h.kept hg (fun e => by
      obtain ⟨h1, _⟩ := hr (B + 1) e.symm
      omega)
  case assign =>
    intro l x W K hK
    gi_wp2
    exact hK
  case body =>
    rintro l pre x W ⟨⟨v, hv, hrow, -⟩, hB, hBx⟩ hlt
    have hcell := hv.cell
    have hfz := hv.frozen
    have hbl := hv.lt
    have hw0 := hB.size
    have HROW1 := Lib.hid (hrow.alloc (.cells #[(Value.string) x.1] 9))
    have HSL := Lib.hid (SlAt.one W 9 ((Value.string) x.1))
    obtain ⟨f, hf⟩ : ∃ f, pre.length = f := ⟨_, rfl⟩
    have HFE := Lib.hid hf
    rw [hf] at HROW1
    have hlt2 : f < k := by rw [← hf, ← HXL.out]; exact hlt
    have HROW := Lib.hid hrow
    clear hf hrow hlt
    gi_wp2_with (gi_at_builtin; refine wpListIn_append_sl rfl _ _ 22 rfl w'.heap.size 9 ip _ 16 Try.underlying22 HIQ.out HIP.out.1 HIP.out.2.1 HIP.out.2.2 rfl v f _ rfl HROW1.out (some ⟨W.heap.size, 0, none⟩) 1 1 [(Value.string) x.1] rfl HSL.out (fun u hu => by rw [List.mem_singleton] at hu; rw [hu]; rfl) (by omega) (by omega) (by simp; omega) ?_; intro v' w5 hown5 hgr5 hor5; obtain ⟨A5, c5, rfl⟩ := own_form1 hown5; have hv5 := (hv.alloc (.cells #[(Value.string) x.1] 9)).kept hgr5 (hv.not_row (by decide) HROW.out); have hc5 := hv5.cell; have hf5 := hv5.frozen)
    have hvn : ∀ b, v.ownBlock = some b → b ≠ B := fun b hb e => hv.not_row (by decide) HROW.out (by rw [← e, hb])
    have hvx : ∀ b, v.ownBlock = some b → b ≠ B + 1 := fun b hb e => hBx.not_row (by decide) HROW.out (by rw [← e, hb])
    have hge : ∀ b, v.ownBlock = some b → w'.heap.size ≤ b := fun b hb => (HROW.out.lt b hb).1
    have hcl : ∀ (j : Nat) (o : Obj), v.ownBlock = some j → (W.alloc (.cells #[(Value.string) x.1] 9)).heap[j]? = some o → o.isCells = true := fun j o hj ho => by
      rcases HROW1.out.2 with ⟨q1, _⟩ | ⟨g, cap, cur, q, _, hg, _⟩
      · rw [q1] at hj; cases hj
      · rw [q] at hj
        injection hj with hj
        subst hj
        rw [hg] at ho
        injection ho with ho
        rw [← ho]; rfl
    have hA0 : Below w'.heap.size W (W.alloc (.cells #[(Value.string) x.1] 9)) := (Below.refl _ _).alloc hw0 _
    have hzA : (W.alloc (.cells #[(Value.string) x.1] 9)).heap.size = W.heap.size + 1 := by simp
    have hB5 : Below w'.heap.size W (w5.setCell ⟨B, 0, none⟩ (.slice A5 (f + 1) c5)) := (hA0.grown hgr5 (by rw [hzA]; omega) (fun j e => hge j e)).setCell (p := ⟨B, 0, none⟩) hn0 _
    have hx5 := ((hBx.alloc (.cells #[(Value.string) x.1] 9)).kept hgr5 (fun e => hvx _ e.symm rfl))
    have hblk : ∀ j, j < W.heap.size → j ≠ B → some j ≠ v.ownBlock → (w5.setCell ⟨B, 0, none⟩ (.slice A5 (f + 1) c5)).heap[j]? = W.heap[j]? := fun j h1 h2 h3 =>
      (Below.heap_setCell _ _ _ _ (show j ≠ B from h2)).trans ((hgr5.block j (by rw [hzA]; omega) h3).trans (Below.heap_alloc _ _ _ h1))
    refine ⟨(KeepsOthers.alloc _ _).trans ((KeepsOthers.of_grownBy hgr5 (fun j o hj ho => hcl j o hj ho)).trans (KeepsOthers.setCell _ _ _)), fun j hj => ?_, ⟨_, hv5.set _, ?_, trivial⟩, hB.trans hB5, ?_⟩
    · rcases hj with hj | hj
      · exact hB5.block j (HF.out j hj)
      · rw [hj]
        exact hblk (B + 1) hBx.lt (by omega) (fun e => hvx _ e.symm rfl)
    · rw [List.length_append, HFE.out, List.map_append]
      refine ownsRow_of_block1 hown5 fun b hb => Below.heap_setCell _ _ _ _ ?_
      rcases hor5 with q | q
      · exact hvn b (q.symm.trans hb)
      · rw [q, hzA] at hb
        injection hb with hb
        show b ≠ B
        omega
    · exact (Below.heap_setCell _ _ _ _ (show B + 1 ≠ B by omega)).trans hx5
  case done =>
    rintro D2 ys W hD2 rfl ⟨⟨v, hv, hrow, -⟩, hB, -⟩ hK
    have hcell := hv.cell
    gi_wp2
    refine ⟨by simp, .inl ⟨_, _, rfl, run_takeDeferred hK, ?_⟩⟩
    refine ⟨_, results_tmp rfl _ _ _, v, rfl, ?_, hB.trans (belowK_b (w := w') (Nat.le_refl _) W D2 _ _ (by omega) hK rfl rfl)⟩
    have q := ownsRow_putObj hrow (.deferred none) hK rfl
    rw [HXL.out, zipIdx_map] at q
    rw [HK.out]
    exact q
  case stop =>
    rintro D2 c pre W _ _ h _
    exact h.elim

end Go.Proofs.Ytkjcoengijedeab
