/-
  Package command: All tells the table by name. No condition.
-/
import Derived.Test.YtinpimejiepahaaCmS
import Derived.Test.YtinpimejiepahaaRnd
import Derived.Deep.RegionHeld
namespace Go.Proofs.Ytinpimejiepahaa
open Go.RowKit Go.Shelf

attribute [local go_sem] Oper.semAt_some

theorem own_block {w w' : World} {base : Nat} {e : TypeId} {size : Nat} {v : Value} {n : Nat} {xs : List Value} (h : w.ownsRow base e size v n xs) (hb : ∀ b, v.ownBlock = some b → w'.heap[b]? = w.heap[b]?) : w'.ownsRow base e size v n xs := by
  obtain ⟨h1, h2⟩ := h
  refine ⟨h1, ?_⟩
  rcases h2 with q | ⟨g, cap, cur, q1, q2, q3, q4⟩
  · exact Or.inl q
  · exact Or.inr ⟨g, cap, cur, q1, q2, (hb g (by rw [q1]; rfl)).trans q3, q4⟩

set_option maxRecDepth 100000 in
set_option maxHeartbeats 16000000 in
theorem all_any (w : World) :
    Calls Try.prog 8 #[] w fun e w' => ∃ A c, e = .returned (.slice A 99 c) ∧ SpAt w' A 99 c byN ∧ Below w.heap.size w w' ∧ Frh w.heap.size A := by
  have HFR := Lib.hid from_any
  obtain ⟨B, hB⟩ : ∃ B, w.heap.size = B := ⟨_, rfl⟩
  obtain ⟨w1, hw1⟩ : ∃ w1, w.alloc (.cells #[.slice none 0 0] 23) = w1 := ⟨_, rfl⟩
  obtain ⟨w2, hw2⟩ : ∃ w2, w1.alloc (.cells #[.int .i64 1] 25) = w2 := ⟨_, rfl⟩
  have s1 : w1.heap.size = B + 1 := by rw [← hw1, World.size_alloc, hB]
  have s2 : w2.heap.size = B + 2 := by rw [← hw2, World.size_alloc, s1]
  have b1 : Below B w w1 := by rw [← hw1, ← hB]; exact (Below.refl _ _).alloc (Nat.le_refl _) _
  have b2 : Below w1.heap.size w1 w2 := by rw [← hw2]; exact (Below.refl _ _).alloc (Nat.le_refl _) _
  have r1 : Boxed w1 B 23 (.slice none 0 0) := by rw [← hw1, ← hB]; exact Boxed.new w _ _
  have r2 : w2.rowIs (B + 1) 25 1 (fun _ => .int .i64 1) := by rw [← hw2, ← s1]; exact row_one w1 _ _
  have R1 : Hid (Boxed w2 B 23 (.slice none 0 0)) := (b2.block B (by omega)).trans r1
  have HBW : Hid (Below B w w2) := b1.trans (b2.mono (by omega))
  have hg2 : w2.cell? ⟨B + 1, 0, none⟩ = some (.int .i64 1) := r2.cell (i := 0) (by omega)
  have HST := Lib.hid (from_stopsS 10 (by omega) (B + 1) w2 hg2)
  have HW1 := Lib.hid hw1
  have HW2 := Lib.hid hw2
  have HS2 := Lib.hid s2
  clear hw1 hw2 s1 s2 b1 b2 r1 r2 hg2
  rw [hB]
  refine (callsIn_wide (n := 11)).1 ?_
  refine callsIn_of_wp_marks Try.func8 rfl trivial ?_ rfl
  simp only [Try.ntmps8, List.size_toArray, List.length_nil, Nat.reduceSub, Array.replicate_succ, Array.replicate_zero, List.push_toArray, List.append_toArray, List.nil_append, List.cons_append]
  gi_wp2_with (refine ⟨trivial, ?_⟩; gi_at_call 23; refine (callsIn_wide.2 (HFR.out _)).mono ?_; rintro e wq ⟨rfl, hwq⟩)
  rw [HW1.out, HW2.out]
  clear hwq HFR
  have HS2' := HS2.out
  refine wpIn_rangeFunc_ownH rfl (by omega) (gf := 43) (lb := #[.pointer (some ⟨B + 1, 0, none⟩)]) rfl trivial (enters_of Try.func43 (by kernel_rfl) rfl) HST.out (fun h k => h.t k)
    (fun W l o o' _ h ho _ => fun k cs fr hk => World.putObj_heap_other (fun e => by subst e; rw [h] at hk; injection hk with hk; subst hk; cases ho)) (Below.refl _ _) (fun _ => rfl)
    (fun pre W => (∃ v, Boxed W B 23 v ∧ W.ownsRow (B + 2) 27 7 v pre.length (scells (pre.map (·.1))) ∧ True) ∧ Below B w W ∧ B + 2 ≤ W.heap.size)
    (fun _ _ _ => False)
    (OwnFrom.and (Own.from (holdsRow_own (B + 2) B 23 27 7 (fun (pre : List SpS) => pre.length) (fun pre => scells (pre.map (·.1))) (fun _ _ => True)) _) (OwnFrom.and (ownFrom_below (Nat.le_of_eq hB.symm) (by omega)) (fun _ _ _ _ h5 hg _ => Nat.le_trans h5 hg.size)))
    (fun _ _ _ _ _ hs _ _ => hs)
    ⟨⟨_, R1.out, World.ownsRow_nil _ _ _ _, trivial⟩, HBW.out, Nat.le_of_eq HS2'.symm⟩
    (fun y a' W => ∃ (Bx : Nat) (v : Value), B + 2 ≤ Bx ∧ W.rowIs Bx 27 7 (sF y.1) ∧ Boxed W B 23 v ∧ v.ownBlock ≠ some Bx ∧ a' = { tmps := #[.slice none 0 0, .pointer (some ⟨B, 0, none⟩), .pointer (some ⟨Bx, 0, none⟩), .func (.func 43) #[] #[.pointer (some ⟨B + 1, 0, none⟩)], aggS y.1, undef, undef, undef, undef, undef, undef, undef, undef], defers := [] })
    (fun y a' s X Y row ⟨Bx, v, h1, h2, h3, h4, h5⟩ hg hr => ⟨Bx, v, h1, row_grown h2 hg (fun r e => (hr r e).2), (boxed_own (β := Unit) B 23 (fun _ => v)) () X Y row h3 hg (fun r e => (hr r e).2), h4, h5⟩) ?assign ?body ?done ?stop
  case assign =>
    rintro l pre ⟨⟨nm, g, ar, wr_, f, la, st⟩, hsh⟩ W K ⟨⟨v, h1, h2, -⟩, h4, h5⟩ hK
    dsimp only [aggS, encS]
    gi_wp2
    exact hK _ _ ((KeepsOthers.alloc _ _).from _) (KpR.below ((Below.refl _ _).alloc (Nat.le_refl _) _)) ⟨⟨v, h1.alloc _, h2.alloc _, trivial⟩, h4.alloc (Nat.le_of_lt h1.lt) _, by simp; omega⟩ ⟨W.heap.size, v, h5, rows7 W _ _ _ _ _ _ _ _, h1.alloc _, fun e => by have := (h2.lt _ e).2; omega, rfl⟩
  case body =>
    rintro l pre ⟨⟨nm, g, ar, wr_, f, la, st⟩, hsh⟩ a' W hl ⟨r, hr⟩ ⟨⟨v, h1, h2, -⟩, h4, h5⟩ ⟨Bx, v2, hBx, hbx, h1', hne, rfl⟩ hlt
    obtain rfl : v2 = v := Option.some.inj (h1'.cell.symm.trans h1.cell)
    clear h1'
    obtain ⟨T, hT⟩ : ∃ T : ByteArray, (⟨nm.toArray⟩ : ByteArray) = T := ⟨_, rfl⟩
    have hTs : T.size ≤ 140737488355328 := by
      have hs : nm.length ≤ 20 := hsh
      rw [← hT]
      show nm.toArray.size ≤ _
      rw [List.size_toArray]
      omega
    obtain ⟨Wd, hWd⟩ : ∃ Wd, W.drew = Wd := ⟨_, rfl⟩
    have hbd : Below W.heap.size W Wd := by rw [← hWd]; exact (Below.refl _ _).drew
    have hzd : Wd.heap.size = W.heap.size := by rw [← hWd]; rfl
    obtain ⟨k, hk⟩ : ∃ k, pre.length = k := ⟨_, rfl⟩
    have hvn : v2.ownBlock ≠ some B := fun e => by have := (h2.lt _ e).1; omega
    have HS : Hid (∀ X, (Box7 X Bx (.string T) (.int .i64 g) (.int .i64 ar) (.bool wr_) (.int .i64 f) (.int .i64 la) (.int .i64 st)) → X.cell? ⟨Bx, 0, none⟩ = some (.string T) ∧ X.cell? ⟨Bx, 1, none⟩ = some (.int .i64 g) ∧ X.cell? ⟨Bx, 2, none⟩ = some (.int .i64 ar) ∧ X.cell? ⟨Bx, 3, none⟩ = some (.bool wr_) ∧ X.cell? ⟨Bx, 4, none⟩ = some (.int .i64 f) ∧ X.cell? ⟨Bx, 5, none⟩ = some (.int .i64 la) ∧ X.cell? ⟨Bx, 6, none⟩ = some (.int .i64 st)) := fun X h => ⟨h.c0, h.c1, h.c2, h.c3, h.c4, h.c5, h.c6⟩
    have hbx7 : Box7 W Bx (.string T) (.int .i64 g) (.int .i64 ar) (.bool wr_) (.int .i64 f) (.int .i64 la) (.int .i64 st) := by rw [← hT]; exact box7_of_row hbx
    have HBD := Lib.hid (hbx7.below hbd)
    have HBX := Lib.hid hbx7
    have HRO := Lib.hid h2
    have HV := Lib.hid h1
    have HCP := Lib.hid (fun W => copied_any T hTs g ar f la st wr_ W)
    have HT := Lib.hid hT
    have HWD := Lib.hid hWd
    have HK := Lib.hid hk
    have HZD := Lib.hid hzd
    have HB4 := Lib.hid h4
    have HNE := Lib.hid hne
    have HVN := Lib.hid hvn
    have HVD : Hid (Boxed Wd B 23 v2) := (hbd.block B h1.lt).trans h1
    have hBW := h1.lt
    unfold aggS encS
    dsimp only
    rw [hT]
    clear h1 h2 h4 hbx hbx7 hne hvn hT hWd hk hzd hbd
    gi_wp2
    have hmo : Try.prog.follows .mixedOrders = true := by kernel_rfl
    refine region_round (S := fun X => X.cell? ⟨Bx, 0, none⟩ = some (.string T) ∧ X.cell? ⟨Bx, 1, none⟩ = some (.int .i64 g) ∧ X.cell? ⟨Bx, 2, none⟩ = some (.int .i64 ar) ∧ X.cell? ⟨Bx, 3, none⟩ = some (.bool wr_) ∧ X.cell? ⟨Bx, 4, none⟩ = some (.int .i64 f) ∧ X.cell? ⟨Bx, 5, none⟩ = some (.int .i64 la) ∧ X.cell? ⟨Bx, 6, none⟩ = some (.int .i64 st)) hmo (by kernel_rfl) (by rintro ⟨_, _, hq⟩; exact hq) ?_
    rw [HWD.out]
    refine wpAnyH_take (i := 1) (v := .agg #[.string T, .int .i64 g, .int .i64 ar, .bool wr_, .int .i64 f, .int .i64 la, .int .i64 st]) rfl (by kernel_rfl) (by kernel_rfl) (by kernel_rfl) (fun _ _ _ hq => hq) (Or.inl ⟨by rfl, ?hy1⟩) (HS.out _ HBD.out) ?_
    case hy1 =>
      rintro Wx ⟨s0, s1, s2, s3, s4, s5, s6⟩
      go_simp
    -- what stands in any world that lies above Wd, and what is behind the append and the store
    have HX : Hid (∀ X, Below Wd.heap.size Wd X → Box7 X Bx (.string T) (.int .i64 g) (.int .i64 ar) (.bool wr_) (.int .i64 f) (.int .i64 la) (.int .i64 st) ∧ Boxed X B 23 v2 ∧ X.ownsRow (B + 2) 27 7 v2 k (scells (pre.map (·.1))) ∧ Below W.heap.size W X) := fun X hX => by
      have hW : Below W.heap.size W X := (show Below W.heap.size W Wd from by rw [← HWD.out]; exact (Below.refl _ _).drew).trans (hX.mono (by rw [HZD.out]; exact Nat.le_refl _))
      refine ⟨HBX.out.below hW, (hW.block B HV.out.lt).trans HV.out, ?_, hW⟩
      have q := own_below HRO.out hW
      rw [HK.out] at q
      exact q
    have HEND : Hid (∀ (X w7 : World) (v7 : Value), Below Wd.heap.size Wd X → SpO w7 (B + 2) v7 (k + 1) (pre.map (·.1) ++ [(nm, g, ar, wr_, f, la, st)]) → X.grownBy w7 v2.ownBlock → (v7.ownBlock = v2.ownBlock ∨ v7.ownBlock = some X.heap.size) →
        Box7 w7 Bx (.string T) (.int .i64 g) (.int .i64 ar) (.bool wr_) (.int .i64 f) (.int .i64 la) (.int .i64 st) ∧ Boxed w7 B 23 v2 ∧
        (KeepsFrom w2.heap.size W (w7.setCell ⟨B, 0, none⟩ v7) ∧ KpR W (w7.setCell ⟨B, 0, none⟩ v7) ∧ ((∃ v, Boxed (w7.setCell ⟨B, 0, none⟩ v7) B 23 v ∧ (w7.setCell ⟨B, 0, none⟩ v7).ownsRow (B + 2) 27 7 v (pre ++ [(⟨(nm, g, ar, wr_, f, la, st), hsh⟩ : SpS)]).length (scells ((pre ++ [(⟨(nm, g, ar, wr_, f, la, st), hsh⟩ : SpS)]).map (·.1))) ∧ True) ∧ Below B w (w7.setCell ⟨B, 0, none⟩ v7) ∧ B + 2 ≤ (w7.setCell ⟨B, 0, none⟩ v7).heap.size))) := fun X w7 v7 hX hown hgr hor => by
      obtain ⟨y1, y2, y3, y4⟩ := HX.out X hX
      have z1 : w7.heap[Bx]? = X.heap[Bx]? := hgr.block Bx y1.lt (fun e => HNE.out e.symm)
      have z2 : Boxed w7 B 23 v2 := (hgr.block B y2.lt (fun e => HVN.out e.symm)).trans y2
      have hO : Onl (fun j => j = B ∨ v2.ownBlock = some j) W (w7.setCell ⟨B, 0, none⟩ v7) := Onl.set (p := fun j => j = B ∨ v2.ownBlock = some j) (q := ⟨B, 0, none⟩) ((Onl.of_below y4).grown hgr (fun j e _ => Or.inr e)) (Or.inl rfl) v7
      have hown' : w7.ownsRow (B + 2) 27 7 v7 (k + 1) (scells (pre.map (·.1) ++ [(nm, g, ar, wr_, f, la, st)])) := hown
      have hrc : ∀ (j : Nat) (o : Obj), v2.ownBlock = some j → W.heap[j]? = some o → ∃ cs, o = .cells cs 27 := fun j o hj ho => by
        rcases HRO.out.2 with ⟨q1, _⟩ | ⟨g', cap, cur, q1, _, q3, _⟩
        · rw [q1] at hj; cases hj
        · rw [q1] at hj
          injection hj with hj
          subst hj
          rw [q3] at ho
          injection ho with ho
          exact ⟨_, ho.symm⟩
      have hv7 : v7.ownBlock ≠ some B := fun e => by have := (hown'.lt _ e).1; omega
      refine ⟨y1.block z1 hgr.size, z2, hO.from _ (fun j o hj ho => ?_), hO.kp (fun j cs fr hj ho => ?_), ⟨v7, Boxed.set v7 z2, ?_, trivial⟩, HB4.out.trans (hO.below (by omega) (fun j hj e => ?_)), ?_⟩
      · rcases hj with rfl | hj
        · rw [show W.heap[j]? = _ from HV.out] at ho
          injection ho with ho
          rw [← ho]
          rfl
        · obtain ⟨cs, rfl⟩ := hrc j o hj ho
          rfl
      · rcases hj with rfl | hj
        · rw [show W.heap[j]? = _ from HV.out] at ho
          injection ho with ho
          injection ho with _ q _
          exact absurd q (by decide)
        · obtain ⟨cs', q⟩ := hrc j _ hj ho
          injection q with _ q _
          exact absurd q (by decide)
      · rw [List.length_append, HK.out, List.map_append]
        exact own_block hown' (fun b hb => Below.heap_setCell _ _ _ _ (fun e => hv7 (by rw [hb]; exact congrArg some e)))
      · rcases e with e | e
        · omega
        · have := (HRO.out.lt _ e).1; omega
      · have := hO.size
        omega
    have HOWN : Hid (∀ X : World, SpAt (X.alloc (.cells #[.string T, .int .i64 g, .int .i64 ar, .bool wr_, .int .i64 f, .int .i64 la, .int .i64 st] 27)) (some ⟨X.heap.size, 0, none⟩) 1 1 [(nm, g, ar, wr_, f, la, st)]) := fun X => sp_one X nm g ar f la st wr_ T HT.out _ rfl
    have hk99 : k < 99 := by rw [← HK.out]; exact hlt
    refine wpAnyH_ready (rs := [0, 2]) (by kernel_rfl) (by simp) ?_
    refine AllReadyH.cons rfl (fun KK hK => ?pa) (AllReadyH.cons rfl (fun KK hK => ?pb) AllReadyH.nil)
    case' pa =>
      have cd := HVD.out.cell
      go_simp
      refine hK.out _ _ (HS.out _ HBD.out) (fun _ => ?_)
      clear hK KK cd
      refine wpAnyH_ready (rs := [2]) (by kernel_rfl) (by simp) ?_
      refine AllReadyH.cons rfl (fun KK hK => ?_) AllReadyH.nil
      go_simp
      refine (HCP.out _).mono ?_
      rintro en w5 ⟨rfl, hb5⟩
      have HB5 := Lib.hid hb5
      refine hK.out _ _ (HS.out _ (HX.out _ hb5).1) (fun _ => ?_)
      clear hK KK hb5
      refine wpAnyH_ready (rs := [3]) (by kernel_rfl) (by simp) ?_
      refine AllReadyH.cons rfl (fun KK hK => ?_) AllReadyH.nil
      go_simp
      have HB6 : Hid (Below Wd.heap.size Wd (w5.alloc (.cells #[.string T, .int .i64 g, .int .i64 ar, .bool wr_, .int .i64 f, .int .i64 la, .int .i64 st] 27))) := HB5.out.alloc HB5.out.size _
      refine hK.out _ _ (HS.out _ (HX.out _ HB6.out).1) (fun _ => ?_)
      clear hK KK
    case' pb =>
      go_simp
      refine (HCP.out _).mono ?_
      rintro en w5 ⟨rfl, hb5⟩
      have HB5 := Lib.hid hb5
      refine hK.out _ _ (HS.out _ (HX.out _ hb5).1) (fun _ => ?_)
      clear hK KK hb5
      have HB6 : Hid (Below Wd.heap.size Wd (w5.alloc (.cells #[.string T, .int .i64 g, .int .i64 ar, .bool wr_, .int .i64 f, .int .i64 la, .int .i64 st] 27))) := HB5.out.alloc HB5.out.size _
      refine wpAnyH_ready (rs := [0, 3]) (by kernel_rfl) (by simp) ?_
      refine AllReadyH.cons rfl (fun KK hK => ?pc) (AllReadyH.cons rfl (fun KK hK => ?pd) AllReadyH.nil)
    case' pc =>
      have cd := (HX.out _ HB5.out).2.1.cell
      go_simp
      refine hK.out _ _ (HS.out _ (HX.out _ HB5.out).1) (fun _ => ?_)
      clear hK KK cd
      refine wpAnyH_ready (rs := [3]) (by kernel_rfl) (by simp) ?_
      refine AllReadyH.cons rfl (fun KK hK => ?_) AllReadyH.nil
      go_simp
      refine hK.out _ _ (HS.out _ (HX.out _ HB6.out).1) (fun _ => ?_)
      clear hK KK
    case' pd =>
      go_simp
      refine hK.out _ _ (HS.out _ (HX.out _ HB6.out).1) (fun _ => ?_)
      clear hK KK
      refine wpAnyH_ready (rs := [0]) (by kernel_rfl) (by simp) ?_
      refine AllReadyH.cons rfl (fun KK hK => ?_) AllReadyH.nil
      have cd := (HX.out _ HB6.out).2.1.cell
      go_simp
      refine hK.out _ _ (HS.out _ (HX.out _ HB6.out).1) (fun _ => ?_)
      clear hK KK cd
    all_goals
      refine wpAnyH_ready (rs := [4]) (by kernel_rfl) (by simp) ?_
      refine AllReadyH.cons rfl (fun KK hK => ?_) AllReadyH.nil
      refine step_append_sp (by rfl) _ _ (by rfl) (B + 2) v2 k (pre.map (·.1)) (by rfl) (HX.out _ HB6.out).2.2.1 (some ⟨w5.heap.size, 0, none⟩) 1 1 [(nm, g, ar, wr_, f, la, st)] (by rfl) (HOWN.out w5) (by omega) (by have := HB6.out.size; have := HZD.out; omega) ?_
      intro v7 w7 hown hgr hor
      obtain ⟨g7, c7, rfl⟩ := ownsRow_succ (show w7.ownsRow (B + 2) 27 7 v7 (k + 1) (scells (pre.map (·.1) ++ [(nm, g, ar, wr_, f, la, st)])) from hown)
      obtain ⟨e1, e2, e3⟩ := HEND.out _ w7 _ HB6.out hown hgr hor
      have HE3 := Lib.hid e3
      have e7 := e2.cell
      have z7 := e2.frozen
      refine hK.out _ _ (HS.out _ e1) (fun _ => ?_)
      clear hK KK hown hgr hor e2 e3
      refine wpAnyH_ready (rs := [5]) (by kernel_rfl) (by simp) ?_
      refine AllReadyH.cons rfl (fun KK hK => ?_) AllReadyH.nil
      go_simp
      refine hK.out _ _ (HS.out _ (e1.block (show (w7.setCell ⟨B, 0, none⟩ (.slice (some ⟨g7, 0, none⟩) (k + 1) c7)).heap[Bx]? = w7.heap[Bx]? from Below.heap_setCell _ _ _ _ (show Bx ≠ B by omega)) (by simp [World.setCell]))) (fun _ => ?_)
      clear hK KK
      refine wpAnyH_done (by kernel_rfl) ?_ _
      gi_wp2
      obtain ⟨q1, q2, ⟨vv, q3, q4, -⟩, q5, q6⟩ := HE3.out
      rw [HS2.out] at q1
      exact ⟨q1, q2, ⟨vv, q3, q4⟩, q5, q6⟩
  case done =>
    rintro D ys W hD hys ⟨⟨v, h1, h2, -⟩, h4, h5⟩ hK
    have hl : ys.length = 99 := by
      have q := congrArg List.length hys
      rw [List.length_map, rows_len] at q
      exact q
    rw [hl, hys] at h2
    obtain ⟨g, cv, rfl⟩ := ownsRow_succ h2
    have hcv : 99 ≤ cv ∧ cv ≤ 9223372036854775807 ∧ g < W.heap.size ∧ B + 2 ≤ g := by
      have q := h2.lt g rfl
      have r := SpAt.own h2
      exact ⟨r.le, r.max, q.2, q.1⟩
    obtain ⟨hcv1, hcv2, hgl, hgB⟩ := hcv
    have hDl : D < W.heap.size := (Array.getElem?_eq_some_iff.1 hK).1
    have hgD : D ≠ g := fun e => by
      subst e
      rcases h2.2 with ⟨q1, _⟩ | ⟨g', cap, cur, q1, _, q3, _⟩
      · cases q1
      · injection q1 with q1
        injection q1 with q1
        injection q1 with q1 _
        subst q1
        rw [hK] at q3
        cases q3
    have hHO := holds_of_own h2
    have hsz : rowsT.toArray.size = 99 := by rw [List.size_toArray, rows_len]
    have HSRT := AnyQ.slices_SortFunc Try.laysSortFunc 7 Try.isAgg27 Try.sizeOf27 encS (fun _ => rfl) (fun x v hv => encS_one hv) cmpS swoS 26 #[] g 0 cv rowsT.toArray W (fun args w => enter_cmp args w) (cmpLays g rowsT.toArray.size W) hHO hgl (by rw [hsz]; decide)
    rw [hsz] at HSRT
    change Calls Try.prog 25 _ _ _ at HSRT
    have HS := Lib.hid HSRT
    have c1 := h1.cell
    have H1 := Lib.hid h1
    have H4 := Lib.hid h4
    have HKD := Lib.hid hK
    have HHO := Lib.hid hHO
    have HSZ := Lib.hid hsz
    clear HSRT h1 h2 h4 hK hHO hsz
    gi_wp2_with (refine ⟨trivial, ?_⟩; gi_at_call 25; refine (callsIn_wide.2 HS.out).mono ?_; rintro e w7 ⟨rfl, d', nq, os, hp, hso, hw7⟩; have hB7 : w7.heap[B]? = W.heap[B]? := (by rw [hw7]; exact sort_other H1.out.lt (by omega)); have c7 := (show Boxed w7 B 23 _ from hB7.trans H1.out).cell; have HW7 := Lib.hid hw7; have HP := Lib.hid hp; have HSO := Lib.hid hso; clear hw7 hp hso hB7)
    have hK7 : w7.heap[D]? = some (.deferred (some [])) := by rw [HW7.out]; exact (sort_other hDl hgD).trans HKD.out
    refine ⟨by simp, .inl ⟨_, _, rfl, run_takeDeferred hK7, ?_⟩⟩
    obtain ⟨p1, p2⟩ := sorted_byN HP.out HSO.out
    have hh7 : Sort.HoldsK encS 7 w7 g 0 d' := by rw [HW7.out]; exact sort_holds HHO.out (by rw [p1, HSZ.out]) hgl
    have hb7 : Below B W w7 := by rw [HW7.out]; exact sort_below (by omega) (by omega)
    have hg7 : g < w7.heap.size := Nat.lt_of_lt_of_le hgl (by rw [HW7.out]; exact (sort_below (base := 0) (Nat.zero_le _) (Nat.zero_le _)).size)
    have hsp := spAt_of_holds hh7 p1 hg7 hcv1 hcv2
    rw [p2] at hsp
    have hsp' : SpAt (w7.putObj D (.deferred none)) (some ⟨g, 0, none⟩) 99 cv byN := hsp.keep (by rw [World.putObj_size]; exact Nat.le_refl _) (fun b o _ e => by
      injection e with e
      injection e with e1 _
      subst e1
      exact World.putObj_heap_other (fun e => hgD e.symm))
    refine ⟨_, results_tmp rfl _ _ _, _, _, rfl, hsp', (H4.out.trans hb7).grown (grownBy_putObj' w7 D _) (by omega) (fun k e => by cases e; omega), fun b o sp e => ?_⟩
    injection e with e
    injection e with e1 _
    omega
  case stop =>
    rintro D c pre W _ _ h _
    exact h.elim

end Go.Proofs.Ytinpimejiepahaa
