/-
  Package skip: All of a list that stands: its walk. Conditions: the list stands.
-/
import Derived.Test.YtcbiiioglklpoaaDoorSkV6
namespace Go.Proofs.YtcbiiioglklpoaaDoor
open Go.RowKit

attribute [local go_sem] Oper.semAt_some

section
variable {w : World} {base seed s c h mb N : Nat} {ns : List Nd} {S : Nat → Nat → Value} {g : List UInt8 → Option Nat} {sz : Nat} {L : List Mb}

set_option maxRecDepth 100000 in
set_option maxHeartbeats 32000000 in
theorem lall_any (k : LsAt w base seed s c h mb N ns S g sz L) (hL : L.length ≤ 900000) (hb : ∀ x ∈ L, x.1.length ≤ 1000000000) :
    Calls Tryd.prog 23 #[.pointer (some ⟨s, 0, none⟩)] w fun e w' => ∃ A cp, e = .returned (.slice A L.length cp) ∧ ScAt w' A L.length cp L ∧ Below w.heap.size w w' := by
  have hmf : ∀ (fn : Fn) (first cap : Array Value) (w : World), (Instr.makeFunc fn first cap).run Tryd.prog w = .ok (.func fn first cap) w := fun _ _ _ _ => rfl
  have HLEN := Lib.hid (len_any k)
  have hmk : ∀ W : World, (Instr.makeSlice 35 (.int .i64 0) (.int .i64 (L.length : Int))).run Tryd.prog W = .ok (.slice (some ⟨W.heap.size, 0, none⟩) 0 L.length) (W.alloc (.cells (madeCells #[.string ⟨#[]⟩, .int .i64 0] (L.length * 2)) 47)) := fun W => make_scored0 hL W
  have HFR := Lib.hid (fun X => from_mk2 (some ⟨s, 0, none⟩) 0 X)
  have HK := Lib.hid k
  have HBS := Lib.hid hb
  have HLL := Lib.hid hL
  clear k hb
  refine (callsIn_wide (n := 11)).1 ?_
  refine callsIn_of_wp_marks Tryd.func23 rfl trivial ?_
  refine wpIn_wide.2 ?_
  simp only [Tryd.ntmps23, List.size_toArray, List.length_cons, List.length_nil, Nat.reduceAdd, Nat.reduceSub, Array.replicate_succ, Array.replicate_zero, List.push_toArray, List.append_toArray, List.nil_append, List.cons_append]
  go_wp2_with (first | (go_at_call 20; refine HLEN.out.mono ?_; rintro e w1 ⟨rfl, rfl⟩) | (go_at_call 54; refine (HFR.out _).mono ?_; rintro e w2 ⟨rfl, hfc, hb2, hs2⟩))
  generalize hX1 : World.alloc (World.alloc w1 _) _ = X1 at hfc hb2 hs2
  have sX : X1.heap.size = w1.heap.size + 2 := by rw [← hX1]; simp
  have bX : Below w1.heap.size w1 X1 := by rw [← hX1]; exact ((Below.refl _ _).alloc (Nat.le_refl _) _).alloc (by simp) _
  have vX : Boxed X1 (w1.heap.size + 1) 35 (.slice (some ⟨w1.heap.size, 0, none⟩) 0 L.length) := by
    rw [← hX1]
    have q := Boxed.new (w1.alloc (.cells (madeCells #[.string ⟨#[]⟩, .int .i64 0] (L.length * 2)) 47)) 35 (.slice (some ⟨w1.heap.size, 0, none⟩) 0 L.length)
    rw [World.size_alloc] at q
    exact q
  have oX : X1.ownsRow w1.heap.size 47 2 (.slice (some ⟨w1.heap.size, 0, none⟩) 0 L.length) 0 (mcells (L.take 0)) := by
    rw [← hX1]
    refine ⟨rfl, .inr ⟨w1.heap.size, L.length, _, rfl, Nat.le_refl _, (Below.heap_alloc _ _ _ (by simp)).trans (World.alloc_heap_new w1 _), Nat.zero_le _, by unfold maxLen; omega, by rw [size_madeCells], by simp [mcells]⟩⟩
  rw [sX] at hfc hs2
  obtain ⟨f0, f1, f3, f2⟩ := hfc
  have hb2' : Below X1.heap.size X1 w2 := by rw [sX]; rw [sX] at hb2; exact hb2
  have v2 : Boxed w2 (w1.heap.size + 1) 35 (.slice (some ⟨w1.heap.size, 0, none⟩) 0 L.length) := vX.kept (grown_of_below (r := none) hb2') (fun e => by cases e)
  have o2 := own_block (w' := w2) oX (fun b hb => hb2'.block b (oX.lt b hb).2)
  have B2 : Below w1.heap.size w1 w2 := bX.trans (hb2'.mono (by omega))
  have HF := Lib.hid (And.intro f0 (And.intro f1 (And.intro f2 f3)))
  have HV2 := Lib.hid v2
  have HO2 := Lib.hid o2
  have HB2 := Lib.hid B2
  have hs2' : w2.heap.size = w1.heap.size + 6 := hs2
  clear hX1 sX bX vX oX hb2 hb2' hs2 f0 f1 f2 f3 v2 o2 B2 HFR HLEN
  refine range_on2 (n := 10) (gf := 73) (lb := #[.pointer (some ⟨w1.heap.size + 2, 0, none⟩), .pointer (some ⟨w1.heap.size + 3, 0, none⟩), .pointer (some ⟨w1.heap.size + 5, 0, none⟩), .pointer (some ⟨w1.heap.size + 4, 0, none⟩)]) rfl (enters_of Tryd.func73 (by kernel_rfl) rfl) ?_
  rw [hs2']
  intro rec W1 hrec hz1 hb1 hD hLo hYm
  have hb1' : Below w2.heap.size w2 W1 := by rw [hs2']; exact hb1
  have hlt : ∀ (j : Nat) (v : Value), w2.cell? ⟨j, 0, none⟩ = some v → W1.cell? ⟨j, 0, none⟩ = some v := fun j v hv => (hb1'.cell (p := ⟨j, 0, none⟩) (World.block_lt_of_cell? w2 _ hv)).trans hv
  have BW : Below w1.heap.size w1 W1 := HB2.out.trans (hb1'.mono (by omega))
  have hc : c < w1.heap.size := HK.out.ck.blk.lt
  have hJ0 : JA w1 c L (rec .ready) 0 W1 := ⟨⟨_, HV2.out.kept (grown_of_below (r := none) hb1') (fun e => by cases e), own_block HO2.out (fun b hb => hb1'.block b (HO2.out.lt b hb).2), fun b hb => Or.inl (by injection hb with hb; exact hb.symm)⟩, hD, hLo, grown_of_below BW⟩
  have HIT := from3_in 10 (w1.heap.size + 7) (by omega) (T := w1.heap.size + 8) (HK.out.below BW) hL HBS.out hz1 (hlt _ _ HF.out.1) (hlt _ _ HF.out.2.1) (hlt _ _ HF.out.2.2.1) (hlt _ _ HF.out.2.2.2) (by omega) (by omega) (by omega) (JA w1 c L (rec .ready)) (fun i X X' hJ hg => hJ.step hc hg) ?hY hJ0
  case hY =>
    intro i x X hx hJ hT
    obtain ⟨⟨v, hv, hown, hvb⟩, hd, hl, hg⟩ := hJ
    obtain ⟨X1, hX1⟩ : ∃ X1, X.alloc (.cells #[.string ⟨x.1.toArray⟩, .int .i64 x.2] 47) = X1 := ⟨_, rfl⟩
    have s1 : X1.heap.size = X.heap.size + 1 := by rw [← hX1]; simp
    have b1 : ∀ j, j < X.heap.size → X1.heap[j]? = X.heap[j]? := fun j hj => by rw [← hX1]; exact Below.heap_alloc _ _ _ hj
    have n1 := two_news X 47 (.string ⟨x.1.toArray⟩) (.int .i64 x.2) rfl
    rw [hX1] at n1
    have lt7 : w1.heap.size + 7 < X.heap.size := (Array.getElem?_eq_some_iff.1 hl).1
    have hl1 : X1.heap[w1.heap.size + 7]? = some (.loop (rec .ready)) := (b1 _ lt7).trans hl
    refine hYm 9 #[.int .i64 (i : Nat), mbV x] X X1 _ { tmps := #[.pointer (some ⟨s, 0, none⟩), undef, .slice none 0 0, .pointer (some ⟨w1.heap.size + 1, 0, none⟩), undef, .pointer (some ⟨X.heap.size, 0, none⟩), .pointer (some ⟨s, 0, none⟩), .int .i64 L.length, .slice (some ⟨w1.heap.size, 0, none⟩) 0 L.length, .pointer (some ⟨s, 0, none⟩), .func (.func 73) #[] #[.pointer (some ⟨w1.heap.size + 1 + 1, 0, none⟩), .pointer (some ⟨w1.heap.size + 1 + 1 + 1, 0, none⟩), .pointer (some ⟨w1.heap.size + 1 + 1 + 3, 0, none⟩), .pointer (some ⟨w1.heap.size + 1 + 1 + 2, 0, none⟩)], .int .i64 (i : Nat), mbV x, undef, undef, undef, undef, undef], defers := [] } rfl hl hl1 ?_ ?_
    · intro K hK
      unfold mbV at hK ⊢
      gi_wp2
      exact hK
    · obtain ⟨Y, hY⟩ : ∃ Y, X1.putObj (w1.heap.size + 6 + 1) (.loop (rec .busy)) = Y := ⟨_, rfl⟩
      rw [hY]
      have sY : Y.heap.size = X.heap.size + 1 := by rw [← hY]; simp [s1]
      have oY : ∀ j, j < X.heap.size → j ≠ w1.heap.size + 7 → Y.heap[j]? = X.heap[j]? := fun j hj hne => by rw [← hY]; exact (World.putObj_heap_other hne).trans (b1 j hj)
      have lY : Y.heap[w1.heap.size + 7]? = some (.loop (rec .busy)) := by rw [← hY]; exact World.putObj_heap_same (by omega)
      have gY : X.os = Y.os ∧ X.tape = Y.tape ∧ X.output = Y.output := by rw [← hY, ← hX1]; exact ⟨rfl, rfl, rfl⟩
      have rY : Y.rowIs X.heap.size 47 2 (fun i => if i = 0 then .string ⟨x.1.toArray⟩ else .int .i64 x.2) := by
        have r := rows2 (w := X) (t := 47) (.string ⟨x.1.toArray⟩) (.int .i64 x.2) (fun i => if i = 0 then .string ⟨x.1.toArray⟩ else .int .i64 x.2) rfl rfl
        rw [hX1] at r
        rw [← hY]
        exact r.of_block (World.putObj_heap_other (by omega))
      have y0 := rY.cell (i := 0) (by omega)
      have y1 := rY.cell (i := 1) (by omega)
      have vY : Boxed Y (w1.heap.size + 1) 35 v := (oY _ (by omega) (by omega)).trans hv
      have wY : Y.ownsRow w1.heap.size 47 2 v i (mcells (L.take i)) := own_block hown (fun b hb => oY b (hown.lt b hb).2 (by have := hvb b hb; omega))
      have hiL : i < L.length := (List.getElem?_eq_some_iff.1 hx).1
      have hmc : mcells (L.take i) ++ [.string ⟨x.1.toArray⟩, .int .i64 x.2] = mcells (L.take (i + 1)) := by
        rw [List.take_add_one, hx, mcells_append]
        rfl
      obtain ⟨ip, hip, hyp⟩ := Option.map_eq_some_iff.1 info_scored
      simp only [Prod.mk.injEq] at hyp
      have HIP := Lib.hid hyp
      have HIQ := Lib.hid hip
      have hcell := vY.cell
      have hfz := vY.frozen
      have wY1 := wY.alloc (.cells #[.string ⟨x.1.toArray⟩, .int .i64 x.2] 47)
      have HWY := Lib.hid wY1
      have HNW := Lib.hid (two_news Y 47 (.string ⟨x.1.toArray⟩) (.int .i64 x.2) rfl)
      have HVY := Lib.hid vY
      have HMC := Lib.hid hmc
      have HLY := Lib.hid lY
      have HOY := Lib.hid oY
      have HGY := Lib.hid gY
      have HSY := Lib.hid sY
      have HVB := Lib.hid hvb
      have HD := Lib.hid hd
      have HG := Lib.hid hg
      have HWW := Lib.hid wY
      have HT := Lib.hid hT
      have HCC := Lib.hid hc
      have HKK := Lib.hid (HK.out.below BW)
      have hlX : X.heap.size < Y.heap.size := by omega
      have hlB : w1.heap.size + 1 < Y.heap.size := by omega
      have hnB : w1.heap.size + 1 ≠ X.heap.size := by omega
      have hMY : w1.heap.size ≤ Y.heap.size := by omega
      clear sY s1 hip hyp vY wY wY1 hmc lY oY gY hvb hd hg rY hY hX1 n1 b1 hl hl1 hv hown hx hJ0 BW hYm hlt hb1 hb1' hD hLo
      gi_wp2_with (gi_at_builtin; refine wpListIn_append_own2 rfl _ _ 35 rfl w1.heap.size 47 ip _ 2 24 Tryd.underlying35 HIQ.out HIP.out.1 HIP.out.2.1 HIP.out.2.2 rfl (by omega) v i _ rfl HWY.out ⟨Y.heap.size, 0, none⟩ 1 1 [.string ⟨x.1.toArray⟩, .int .i64 x.2] rfl rfl HNW.out (by intro u hu; simp at hu; rcases hu with rfl | rfl <;> rfl) (by unfold maxLen; omega) (by omega) (by simp; omega) ?_; intro v' w5 hown5 hgr5 hor5; obtain ⟨A5, c5, rfl⟩ := own_slice hown5; have hv5 := (HVY.out.alloc (.cells #[.string ⟨x.1.toArray⟩, .int .i64 x.2] 47)).kept hgr5 (HVY.out.not_row (by decide) HWW.out); have hc5 := hv5.cell; have hf5 := hv5.frozen)
      have hT := HT.out
      have sY := HSY.out
      have zz : (Y.alloc (.cells #[.string ⟨x.1.toArray⟩, .int .i64 x.2] 47)).heap.size = Y.heap.size + 1 := by simp
      have same5 : ∀ j, j < Y.heap.size → some j ≠ v.ownBlock → w5.heap[j]? = Y.heap[j]? := fun j hj hne => (hgr5.block j (by omega) hne).trans (Below.heap_alloc _ _ _ hj)
      have hno : ∀ j, j ≠ w1.heap.size → j ≤ w1.heap.size + 8 → some j ≠ v.ownBlock := fun j h1 h2 e => by have := HVB.out j e.symm; omega
      have hb5 : ∀ b, (Value.slice A5 (i + 1) c5).ownBlock = some b → b = w1.heap.size ∨ w1.heap.size + 8 < b := fun b hb => by
        rcases hor5 with q | q
        · exact HVB.out b (q.symm.trans hb)
        · rw [q, zz] at hb
          injection hb with hb
          omega
      have z5 : Y.heap.size < w5.heap.size := by have := hgr5.size; omega
      obtain ⟨W3, hW3⟩ : ∃ W3, w5.setCell ⟨w1.heap.size + 1, 0, none⟩ (.slice A5 (i + 1) c5) = W3 := ⟨_, rfl⟩
      have o3 : ∀ j, j ≠ w1.heap.size + 1 → W3.heap[j]? = w5.heap[j]? := fun j hj => by rw [← hW3]; exact Below.heap_setCell _ _ _ _ hj
      have v3 := hv5.set (.slice A5 (i + 1) c5)
      rw [hW3] at v3
      have t3 : W3.os = w5.os ∧ W3.tape = w5.tape ∧ W3.output = w5.output := by rw [← hW3]; exact ⟨rfl, rfl, rfl⟩
      have s3 : W3.heap.size = w5.heap.size := by rw [← hW3, World.size_setCell]
      rw [hW3]
      obtain ⟨Z, hZ⟩ : ∃ Z, W3.putObj (w1.heap.size + 6 + 1) (.loop (rec .ready)) = Z := ⟨_, rfl⟩
      have oz : ∀ j, j ≠ w1.heap.size + 7 → Z.heap[j]? = W3.heap[j]? := fun j hj => by rw [← hZ]; exact World.putObj_heap_other hj
      have lz : Z.heap[w1.heap.size + 7]? = some (.loop (rec .ready)) := by rw [← hZ]; exact World.putObj_heap_same (by omega)
      have sz' : Z.heap.size = w5.heap.size := by rw [← hZ, World.putObj_size, s3]
      have tz : Z.os = X.os ∧ Z.tape = X.tape ∧ Z.output = X.output := by
        obtain ⟨q1, q2, q3⟩ := HGY.out
        obtain ⟨p1, p2, p3⟩ := t3
        rw [← hZ]
        exact ⟨p1.trans (hgr5.os.trans q1.symm), p2.trans (hgr5.tape.trans q2.symm), p3.trans (hgr5.output.trans q3.symm)⟩
      have zs : ∀ j, j < X.heap.size → j ≠ w1.heap.size + 1 → j ≠ w1.heap.size + 7 → some j ≠ v.ownBlock → Z.heap[j]? = X.heap[j]? := fun j h1 h2 h3 h4 =>
        (oz j h3).trans ((o3 j h2).trans ((same5 j (by omega) h4).trans (HOY.out j h1 h3)))
      rw [hZ]
      refine ⟨(o3 _ (by omega)).trans ((same5 _ (by omega) (hno _ (by omega) (by omega))).trans HLY.out), ⟨⟨_, (oz _ (by omega)).trans v3, ?_, hb5⟩, (zs _ (by omega) (by omega) (by omega) (hno _ (by omega) (by omega))).trans HD.out, lz, ?_⟩, fun j hj => ?_, by omega⟩
      · rw [← HMC.out]
        exact own_block hown5 (fun b hb => by have := hb5 b hb; exact (oz b (by omega)).trans (o3 b (by omega)))
      · obtain ⟨t1, t2, t4⟩ := tz
        exact ⟨t1.trans HG.out.os, t2.trans HG.out.tape, t4.trans HG.out.output, by have := HG.out.size; omega, fun j hj hne => (zs j (by omega) (by omega) (by omega) (hno j (by omega) (by omega))).trans (HG.out.block j hj hne)⟩
      · rcases hj with rfl | rfl | rfl | hj
        · exact zs _ (by omega) (by omega) (by omega) (hno _ (by omega) (by omega))
        · exact zs _ (by omega) (by omega) (by omega) (hno _ (by omega) (by omega))
        · exact zs _ (by omega) (by omega) (by omega) (hno _ (by omega) (by omega))
        · have hlj := HK.out.ck.lt hj
          exact zs _ (by omega) (by omega) (by omega) (hno _ (by omega) (by omega))
  refine HIT.mono ?_
  rintro e W2 ⟨rfl, hJ2, hcc⟩
  obtain ⟨⟨v, hv, hown, hvb⟩, hd, hl, hg⟩ := hJ2
  refine ⟨_, rfl, hl, ?_⟩
  obtain ⟨Z, hZ⟩ : ∃ Z, W2.putObj (w1.heap.size + 6 + 1) (.loop (rec .exhausted)) = Z := ⟨_, rfl⟩
  rw [hZ]
  have sZ : Z.heap.size = W2.heap.size := by rw [← hZ]; simp
  have oZ : ∀ j, j ≠ w1.heap.size + 7 → Z.heap[j]? = W2.heap[j]? := fun j hj => by rw [← hZ]; exact World.putObj_heap_other hj
  have vZ : Boxed Z (w1.heap.size + 1) 35 v := (oZ _ (by omega)).trans hv
  have hcell := vZ.cell
  have hK : Z.heap[w1.heap.size + 6]? = some (.deferred (some [])) := (oZ _ (by omega)).trans hd
  have tZ : Z.os = w1.os ∧ Z.tape = w1.tape ∧ Z.output = w1.output := by rw [← hZ]; exact ⟨hg.os, hg.tape, hg.output⟩
  have sW : w1.heap.size ≤ W2.heap.size := hg.size
  have HTL : Hid (∃ A cp, v = .slice A L.length cp ∧ ScAt (Z.putObj (w1.heap.size + 6) (.deferred none)) A L.length cp L ∧ Below w1.heap.size w1 (Z.putObj (w1.heap.size + 6) (.deferred none))) := by
    have o4 : (Z.putObj (w1.heap.size + 6) (.deferred none)).ownsRow w1.heap.size 47 2 v L.length (mcells L) := by
      rw [show L.take L.length = L from List.take_of_length_le (Nat.le_refl _)] at hown
      exact own_block hown (fun b hb => by
        have q := hvb b hb
        exact (World.putObj_heap_other (by omega)).trans (oZ b (by omega)))
    obtain ⟨A, cp, h1, h2⟩ := sc_of_own o4
    refine ⟨A, cp, h1, h2, tZ.1, tZ.2.1, tZ.2.2, by rw [World.putObj_size, sZ]; exact sW, fun j hj => ?_⟩
    refine (World.putObj_heap_other (by omega)).trans ((oZ j (by omega)).trans ?_)
    by_cases e : j = c
    · rw [e]; exact hcc.trans (BW.block c hc)
    · exact hg.block j hj (fun q => e (by injection q))
  clear hZ sZ oZ vZ tZ sW hv hown hvb hd hl hg hcc HIT hJ0 BW hb1' hlt hD hLo hYm hb1
  go_wp2
  refine ⟨by simp, .inl ⟨_, _, rfl, run_takeDeferred hK, ?_⟩⟩
  obtain ⟨A, cp, h1, h2, h3⟩ := HTL.out
  exact ⟨_, results_tmp rfl _ _ _, A, cp, by rw [← h1]; rfl, h2, h3⟩

end

end Go.Proofs.YtcbiiioglklpoaaDoor
