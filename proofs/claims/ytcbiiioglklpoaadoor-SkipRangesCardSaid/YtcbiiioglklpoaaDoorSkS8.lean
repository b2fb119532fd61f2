/-
  The statements' own from: its closure, which puts what it is told behind two rows. Conditions: as typed. The statements' own from, of a list that stands: what is told from a rank on, and the places. Conditions: the list stands. The statements' own ranks: what is told from a rank on is what it should be. Conditions: the list stands, the members lie in memory.
-/
import Derived.Test.YtcbiiioglklpoaaDoorSkS6
import Derived.Test.YtcbiiioglklpoaaDoorSkS5
import Derived.RangeFuncRecord
namespace Go.Proofs.YtcbiiioglklpoaaDoor
open Go.RowKit

theorem info_int : (Tryd.prog.info? 3).map (fun i => (i.zero, i.size, i.bytes)) = some (some (.int .i64 0), 1, 8) := by kernel_rfl

theorem own_keep {w w' : World} {base : Nat} {e : TypeId} {size n : Nat} {v : Value} {xs : List Value} (h : w.ownsRow base e size v n xs) (hb : ∀ b, v.ownBlock = some b → w'.heap[b]? = w.heap[b]?) : w'.ownsRow base e size v n xs := by
  refine ⟨h.1, ?_⟩
  rcases h.2 with q | ⟨g, cap, cur, rfl, h1, h2, h3⟩
  · exact Or.inl q
  · exact Or.inr ⟨g, cap, cur, rfl, h1, (hb g rfl).trans h2, h3⟩

section
variable {w : World}
theorem step_append_int {ops : Array Oper} {o : Oper} {a : Act} {K : Act → World → Prop} {Q : Exit → Act → World → Prop} {E : Prop} (hgd : o.guard = none) (s x : Operand)
    (ho : o.op = .call { callee := .builtin .append, args := #[s, x], argTypes := #[75, 75] })
    (base : Nat) (v : Value) (n : Nat) (xs : List Value) (hs : a.eval s = v) (hown : w.ownsRow base 3 1 v n xs) (g : Nat) (p : Int) (hx : a.eval x = .slice (some ⟨g, 0, none⟩) 1 1) (hc : w.cell? ⟨g, 0, none⟩ = some (.int .i64 p))
    (h63 : n + 1 ≤ 2000000) (hbase : base ≤ w.heap.size)
    (h : ∀ v' w', w'.ownsRow base 3 1 v' (n + 1) (xs ++ [.int .i64 p]) → w.grownBy w' v.ownBlock → (v'.ownBlock = v.ownBlock ∨ v'.ownBlock = some w.heap.size) → K (a.put o.dst v') w') :
    if Region.wanted o (yielded ops a.tmps) = true then Oper.wp Tryd.prog o a w K Q else E := by
  have hw : Region.wanted o (yielded ops a.tmps) = true := by simp [Region.wanted, hgd]
  rw [if_pos hw]
  obtain ⟨i, hi, hz⟩ := Option.map_eq_some_iff.1 info_int
  simp only [Prod.mk.injEq] at hz
  obtain ⟨z1, z2, z3⟩ := hz
  obtain ⟨v', w', hrun, h2, h3, _, h5⟩ := run_append_own_at (P := Tryd.prog) w base 75 o.type 3 i _ 1 8 Tryd.underlying75 hi z1 z2 z3 rfl (by omega) v n xs hown ⟨g, 0, none⟩ 1 1 [.int .i64 p] rfl (fun j u hu => by
    rcases j with _ | j
    · simp at hu; subst hu; exact hc
    · simp at hu) (by intro u hu; simp at hu; subst hu; rfl) (by unfold maxLen; omega) (by omega) hbase
  unfold Oper.wp
  simp [execOp, ho, resolve, invoke, builtin, hs, hx, hrun, Result.andThen]
  exact h v' w' h2 h3 h5
end

/-- Only the two boxes and the two rows have turned. -/
def pF (M : Nat) (v v2 : Value) (j : Nat) : Prop := j = M ∨ j = M + 1 ∨ v.ownBlock = some j ∨ v2.ownBlock = some j

section
variable {W Wi Wj w11 w12 : World} {M B n : Nat} {v v2 v' v2' : Value} {xs : List Mb} {is : List Value}

theorem fr_first {ys : List Value} (hWi : Below W.heap.size W Wi) (b1 : Boxed W M 35 v) (h1 : W.ownsRow B 47 2 v n (mcells xs)) (b2 : Boxed W (M + 1) 75 v2) (h2 : W.ownsRow B 3 1 v2 n is) (hne : ∀ b, v.ownBlock = some b → v2.ownBlock ≠ some b) (hMB : M + 1 < B)
    (hown : w11.ownsRow B 47 2 v' (n + 1) ys) (hgr : Wi.grownBy w11 v.ownBlock) (hor : v'.ownBlock = v.ownBlock ∨ v'.ownBlock = some Wi.heap.size) :
    Boxed w11 M 35 v ∧ Boxed w11 (M + 1) 75 v2 ∧ w11.ownsRow B 3 1 v2 n is ∧ (∀ b, v'.ownBlock = some b → v2.ownBlock ≠ some b) ∧ Only (pF M v v2) W w11 ∧ (∀ b, v'.ownBlock = some b → b < w11.heap.size ∧ (v.ownBlock = some b ∨ W.heap.size ≤ b)) := by
  have key : ∀ j, j < W.heap.size → v.ownBlock ≠ some j → w11.heap[j]? = W.heap[j]? := fun j hj hn => (hgr.block j (Nat.lt_of_lt_of_le hj hWi.size) (fun e => hn e.symm)).trans (hWi.block j hj)
  have lo1 : ∀ b, v.ownBlock = some b → B ≤ b := fun b e => own_lo h1 e
  have lo2 : ∀ b, v2.ownBlock = some b → B ≤ b ∧ b < W.heap.size := fun b e => h2.lt b e
  refine ⟨(key M b1.lt (fun e => by have := lo1 _ e; omega)).trans b1, (key (M + 1) b2.lt (fun e => by have := lo1 _ e; omega)).trans b2, own_keep h2 (fun b hb => key b (lo2 b hb).2 (fun e => hne b e hb)), fun b hb hb2 => ?_, ⟨hgr.os.trans hWi.os, hgr.tape.trans hWi.tape, hgr.output.trans hWi.output, Nat.le_trans hWi.size hgr.size, fun j hj hn => key j hj (fun e => hn (Or.inr (Or.inr (Or.inl e))))⟩, fun b hb => ⟨(hown.lt b hb).2, ?_⟩⟩
  · rcases hor with q | q
    · exact hne b (q.symm.trans hb) hb2
    · rw [q] at hb
      injection hb with hb
      have := (lo2 b hb2).2
      have := hWi.size
      omega
  · rcases hor with q | q
    · exact Or.inl (q.symm.trans hb)
    · rw [q] at hb
      injection hb with hb
      exact Or.inr (by have := hWi.size; omega)

theorem fr_second {ys zs : List Value} (hWj : Below w11.heap.size w11 Wj) (b1 : Boxed w11 M 35 v) (b2 : Boxed w11 (M + 1) 75 v2) (hown : w11.ownsRow B 47 2 v' (n + 1) ys) (h2 : w11.ownsRow B 3 1 v2 n is) (hne : ∀ b, v'.ownBlock = some b → v2.ownBlock ≠ some b) (hMB : M + 1 < B)
    (ho : Only (pF M v v2) W w11) (_ : w12.ownsRow B 3 1 v2' (n + 1) zs) (hgr : Wj.grownBy w12 v2.ownBlock) (hor : v2'.ownBlock = v2.ownBlock ∨ v2'.ownBlock = some Wj.heap.size) :
    Boxed w12 M 35 v ∧ Boxed w12 (M + 1) 75 v2 ∧ w12.ownsRow B 47 2 v' (n + 1) ys ∧ (∀ b, v'.ownBlock = some b → v2'.ownBlock ≠ some b) ∧ Only (pF M v v2) W w12 := by
  have key : ∀ j, j < w11.heap.size → v2.ownBlock ≠ some j → w12.heap[j]? = w11.heap[j]? := fun j hj hn => (hgr.block j (Nat.lt_of_lt_of_le hj hWj.size) (fun e => hn e.symm)).trans (hWj.block j hj)
  have lo2 : ∀ b, v2.ownBlock = some b → B ≤ b := fun b e => own_lo h2 e
  have lo1 : ∀ b, v'.ownBlock = some b → B ≤ b ∧ b < w11.heap.size := fun b e => hown.lt b e
  refine ⟨(key M b1.lt (fun e => by have := lo2 _ e; omega)).trans b1, (key (M + 1) b2.lt (fun e => by have := lo2 _ e; omega)).trans b2, own_keep hown (fun b hb => key b (lo1 b hb).2 (fun e => hne b hb e)), fun b hb hb2 => ?_, ⟨(hgr.os.trans hWj.os).trans ho.os, (hgr.tape.trans hWj.tape).trans ho.tape, (hgr.output.trans hWj.output).trans ho.output, Nat.le_trans ho.size (Nat.le_trans hWj.size hgr.size), fun j hj hn => (key j (Nat.lt_of_lt_of_le hj ho.size) (fun e => hn (Or.inr (Or.inr (Or.inr e))))).trans (ho.block j hj hn)⟩⟩
  rcases hor with q | q
  · exact hne b hb (q.symm.trans hb2)
  · rw [q] at hb2
    injection hb2 with hb2
    have := (lo1 b hb).2
    have := hWj.size
    omega

theorem fr_last {ys zs : List Value} (b1 : Boxed w12 M 35 v) (b2 : Boxed w12 (M + 1) 75 v2) (hown : w12.ownsRow B 47 2 v' (n + 1) ys) (hown2 : w12.ownsRow B 3 1 v2' (n + 1) zs) (hMB : M + 1 < B) (ho : Only (pF M v v2) W w12) :
    Boxed ((w12.setCell ⟨M, 0, none⟩ v').setCell ⟨M + 1, 0, none⟩ v2') M 35 v' ∧ Boxed ((w12.setCell ⟨M, 0, none⟩ v').setCell ⟨M + 1, 0, none⟩ v2') (M + 1) 75 v2' ∧ ((w12.setCell ⟨M, 0, none⟩ v').setCell ⟨M + 1, 0, none⟩ v2').ownsRow B 47 2 v' (n + 1) ys ∧ ((w12.setCell ⟨M, 0, none⟩ v').setCell ⟨M + 1, 0, none⟩ v2').ownsRow B 3 1 v2' (n + 1) zs ∧ Only (pF M v v2) W ((w12.setCell ⟨M, 0, none⟩ v').setCell ⟨M + 1, 0, none⟩ v2') := by
  have key : ∀ j, j ≠ M → j ≠ M + 1 → ((w12.setCell ⟨M, 0, none⟩ v').setCell ⟨M + 1, 0, none⟩ v2').heap[j]? = w12.heap[j]? := fun j h1 h2 => (Below.heap_setCell _ _ _ _ h2).trans (Below.heap_setCell _ _ _ _ h1)
  refine ⟨(b1.set v').other (by omega) v2', (b2.other (by omega) v').set v2', own_keep hown (fun b hb => key b ?_ ?_), own_keep hown2 (fun b hb => key b ?_ ?_), (ho.set (Or.inl rfl) _).set (Or.inr (Or.inl rfl)) _⟩
  · have := own_lo hown hb; omega
  · have := own_lo hown hb; omega
  · have := own_lo hown2 hb; omega
  · have := own_lo hown2 hb; omega

set_option maxRecDepth 100000 in
set_option maxHeartbeats 16000000 in
theorem lfrom1_any {p : Int} {x : Mb} (hn : n ≤ 1000) (b1 : Boxed W M 35 v) (h1 : W.ownsRow B 47 2 v n (mcells xs)) (b2 : Boxed W (M + 1) 75 v2) (h2 : W.ownsRow B 3 1 v2 n is) (hne : ∀ b, v.ownBlock = some b → v2.ownBlock ≠ some b) (hMB : M + 1 < B) (hB : B ≤ W.heap.size) :
    Calls Tryd.prog 60 #[.int .i64 p, mbV x, .pointer (some ⟨M, 0, none⟩), .pointer (some ⟨M + 1, 0, none⟩)] W fun e X' => e = .returned (.bool true) ∧ ∃ v' v2', Boxed X' M 35 v' ∧ X'.ownsRow B 47 2 v' (n + 1) (mcells (xs ++ [x])) ∧ Boxed X' (M + 1) 75 v2' ∧ X'.ownsRow B 3 1 v2' (n + 1) (is ++ [.int .i64 p]) ∧ (∀ b, v'.ownBlock = some b → v2'.ownBlock ≠ some b) ∧ Only (pF M v v2) W X' := by
  obtain ⟨A0, k0, rfl⟩ := own_slice h1
  obtain ⟨A2, k2, rfl⟩ := own_slice h2
  obtain ⟨TT, hTT⟩ : ∃ T : ByteArray, (⟨x.1.toArray⟩ : ByteArray) = T := ⟨_, rfl⟩
  obtain ⟨Z, hZ⟩ : ∃ Z, x.2 = Z := ⟨_, rfl⟩
  have hx : (TT.data.toList, Z) = x := by rw [← hTT, ← hZ]
  unfold mbV
  rw [hTT, hZ]
  obtain ⟨wb, hwb⟩ : ∃ wb, W.alloc (.cells #[.string TT, .int .i64 Z] 47) = wb := ⟨_, rfl⟩
  have r1 : wb.rowIs W.heap.size 47 2 (fun i => if i = 0 then .string TT else .int .i64 Z) := by rw [← hwb]; exact rows2 _ _ _ rfl rfl
  have hb0 : Below W.heap.size W wb := by rw [← hwb]; exact (Below.refl _ _).alloc (Nat.le_refl _) _
  have hlt5 : ((n : Int) + 1 < 5000) := by omega
  have hlt6 : n + 1 < 5000 := by omega
  obtain ⟨AO, hAO⟩ : ∃ AO : Obj, Obj.cells #[.string TT, .int .i64 Z] 47 = AO := ⟨_, rfl⟩
  obtain ⟨BO, hBO⟩ : ∃ BO : Obj, Obj.cells #[.int .i64 p] 3 = BO := ⟨_, rfl⟩
  have hs0 : wb.drew.heap.size = wb.heap.size := rfl
  have d0 : Below wb.heap.size wb wb.drew := (Below.refl _ _).drew
  have dA : Below wb.heap.size wb (wb.drew.alloc AO) := d0.alloc d0.size _
  have dB : Below wb.heap.size wb (wb.drew.alloc BO) := d0.alloc d0.size _
  have sA : (wb.drew.alloc AO).heap.size = wb.heap.size + 1 := by rw [World.size_alloc]; rfl
  have sB : (wb.drew.alloc BO).heap.size = wb.heap.size + 1 := by rw [World.size_alloc]; rfl
  have D1 : Below W.heap.size W (wb.drew.alloc AO) := bup hb0 dA
  have D2 : Below W.heap.size W ((wb.drew.alloc AO).alloc BO) := D1.alloc D1.size _
  have D3 : Below W.heap.size W ((wb.drew.alloc BO).alloc AO) := (bup hb0 dB).alloc (bup hb0 dB).size _
  have E1 : SdAt (wb.drew.alloc AO) (some ⟨wb.heap.size, 0, none⟩) 1 1 [x] := by rw [← hAO, ← hx]; exact sd_one wb.drew TT Z _ rfl
  have E2 : SdAt ((wb.drew.alloc AO).alloc BO) (some ⟨wb.heap.size, 0, none⟩) 1 1 [x] := E1.below ((Below.refl _ _).alloc (Nat.le_refl _) _)
  have E3 : SdAt ((wb.drew.alloc BO).alloc AO) (some ⟨wb.heap.size + 1, 0, none⟩) 1 1 [x] := by rw [← hAO, ← hx]; exact sd_one (wb.drew.alloc BO) TT Z _ sB.symm
  have F1 : ∀ X : World, (X.alloc BO).cell? ⟨X.heap.size, 0, none⟩ = some (.int .i64 p) := fun X => by rw [← hBO]; exact (Boxed.new X 3 (.int .i64 p)).cell
  have HF1 := Lib.hid F1
  have F2 : ((wb.drew.alloc AO).alloc BO).cell? ⟨wb.heap.size + 1, 0, none⟩ = some (.int .i64 p) := by rw [← sA]; exact F1 _
  have F3 : ((wb.drew.alloc BO).alloc AO).cell? ⟨wb.heap.size, 0, none⟩ = some (.int .i64 p) := (World.cell?_of_block (a := ⟨wb.heap.size, 0, none⟩) (Below.heap_alloc _ _ _ (by rw [sB]; exact Nat.lt_succ_self _))).trans (F1 wb.drew)
  have HF2 := Lib.hid F2
  have HF3 := Lib.hid F3
  have HE1 := Lib.hid E1
  have HE2 := Lib.hid E2
  have HE3 := Lib.hid E3
  have HD1 := Lib.hid D1
  have HD2 := Lib.hid D2
  have HD3 := Lib.hid D3
  have HO1 := Lib.hid (own_keep (w' := wb.drew.alloc AO) h1 (fun b hb => D1.block b (h1.lt b hb).2))
  have HO2 := Lib.hid (own_keep (w' := (wb.drew.alloc AO).alloc BO) h1 (fun b hb => D2.block b (h1.lt b hb).2))
  have HO3 := Lib.hid (own_keep (w' := (wb.drew.alloc BO).alloc AO) h1 (fun b hb => D3.block b (h1.lt b hb).2))
  have HH1 := Lib.hid h1
  have HH2 := Lib.hid h2
  have HB1 := Lib.hid b1
  have HB2 := Lib.hid b2
  have HNE := Lib.hid hne
  have HSB : Hid (W.heap.size + 1 = wb.heap.size) := by unfold Hid; rw [← hwb, World.size_alloc]
  have y0 := r1.cell (i := 0) (by omega)
  have y1 := r1.cell (i := 1) (by omega)
  have x0 := (hb0.cell (p := ⟨M, 0, none⟩) b1.lt).trans b1.cell
  have x1 := (hb0.cell (p := ⟨M + 1, 0, none⟩) b2.lt).trans b2.cell
  have HY : Hid (∀ X, Below wb.heap.size wb X → X.cell? ⟨W.heap.size, 0, none⟩ = some (.string TT) ∧ X.cell? ⟨W.heap.size, 1, none⟩ = some (.int .i64 Z) ∧ X.cell? ⟨M, 0, none⟩ = some (.slice A0 n k0) ∧ X.cell? ⟨M + 1, 0, none⟩ = some (.slice A2 n k2)) := fun X hX =>
    ⟨(hX.cell (p := ⟨W.heap.size, 0, none⟩) r1.lt).trans y0, (hX.cell (p := ⟨W.heap.size, 1, none⟩) r1.lt).trans y1, (hX.cell (p := ⟨M, 0, none⟩) (by have := b1.lt; have := HSB.out; show M < _; omega)).trans x0, (hX.cell (p := ⟨M + 1, 0, none⟩) (by have := b2.lt; have := HSB.out; show M + 1 < _; omega)).trans x1⟩
  obtain ⟨z0, z1, z2, z3⟩ := HY.out _ d0
  obtain ⟨z4, z5, z6, z7⟩ := HY.out _ dA
  obtain ⟨z8, z9, z10, z11⟩ := HY.out _ dB
  obtain ⟨z12, z13, z14, z15⟩ := HY.out _ (dA.alloc dA.size BO)
  obtain ⟨z16, z17, z18, z19⟩ := HY.out _ (dB.alloc dB.size AO)
  have dA' : Below wb.heap.size wb (wb.alloc AO) := (Below.refl _ _).alloc (Nat.le_refl _) _
  have dB' : Below wb.heap.size wb (wb.alloc BO) := (Below.refl _ _).alloc (Nat.le_refl _) _
  obtain ⟨z20, z21, z22, z23⟩ := HY.out _ dA'
  obtain ⟨z24, z25, z26, z27⟩ := HY.out _ dB'
  obtain ⟨z28, z29, z30, z31⟩ := HY.out _ (dA'.alloc dA'.size BO)
  obtain ⟨z32, z33, z34, z35⟩ := HY.out _ (dB'.alloc dB'.size AO)
  have HWB := Lib.hid hwb
  clear hTT hZ hx r1 hb0 d0 dA dB dA' dB' sA sB D1 D2 D3 E1 E2 E3 F1 F2 F3 h1 h2 b1 b2 hne hwb hs0
  subst hAO hBO
  go_enter Tryd.func60, Tryd.ntmps60
  go_wp2_with fail
  rw [HWB.out]
  go_region_law (first
    | (have qq := HG1; (first
        | (refine step_append_int rfl _ _ rfl B (.slice A2 n k2) n is rfl (HV2.out.alloc _) w11.heap.size p rfl (HF1.out w11) (by omega) (Nat.le_trans hB (Nat.le_trans HG1.out.size (by simp))) ?_; intro v12 w12 hown2 hgr2 hor2; have hq := fr_second ((Below.refl _ _).alloc (Nat.le_refl _) _) HX1.out HX2.out HV1.out HV2.out HN1.out hMB HG1.out hown2 hgr2 hor2)
        | (refine step_append_int rfl _ _ rfl B (.slice A2 n k2) n is rfl HV2.out _ p rfl HC11.out (by omega) (Nat.le_trans hB HG1.out.size) ?_; intro v12 w12 hown2 hgr2 hor2; have hq := fr_second (Below.refl _ _) HX1.out HX2.out HV1.out HV2.out HN1.out hMB HG1.out hown2 hgr2 hor2)); obtain ⟨A12, k12, rfl⟩ := own_slice hown2; obtain ⟨g1, g2, g3, g4, g5⟩ := hq; have f1 := g1.frozen; have f2 := g2.frozen; have e1 := g1.cell; have e2 := g2.cell; have HLAST := Lib.hid (fr_last g1 g2 g3 hown2 hMB g5); have HN2 := Lib.hid g4; clear hown2 hgr2 hor2 g1 g2 g3 g4 g5)
    | ((first
        | (refine step_append_sc rfl _ _ rfl B (.slice A0 n k0) n xs rfl HO1.out (some ⟨wb.heap.size, 0, none⟩) 1 1 [x] rfl HE1.out (by omega) (Nat.le_trans hB HD1.out.size) ?_; intro v11 w11 hown hgr hor; have hq := fr_first HD1.out HB1.out HH1.out HB2.out HH2.out HNE.out hMB hown hgr hor)
        | (refine step_append_sc rfl _ _ rfl B (.slice A0 n k0) n xs rfl HO2.out (some ⟨wb.heap.size, 0, none⟩) 1 1 [x] rfl HE2.out (by omega) (Nat.le_trans hB HD2.out.size) ?_; intro v11 w11 hown hgr hor; have hq := fr_first HD2.out HB1.out HH1.out HB2.out HH2.out HNE.out hMB hown hgr hor; have HC11 : Hid (w11.cell? ⟨wb.heap.size + 1, 0, none⟩ = some (.int .i64 p)) := (World.cell?_of_block (a := ⟨wb.heap.size + 1, 0, none⟩) (hgr.block _ (World.block_lt_of_cell? _ _ HF2.out) (fun e => by have q1 := (HH1.out.lt _ e.symm).2; have q2 := HSB.out; have q1 : wb.heap.size + 1 < W.heap.size := q1; omega))).trans HF2.out)
        | (refine step_append_sc rfl _ _ rfl B (.slice A0 n k0) n xs rfl HO3.out (some ⟨wb.heap.size + 1, 0, none⟩) 1 1 [x] rfl HE3.out (by omega) (Nat.le_trans hB HD3.out.size) ?_; intro v11 w11 hown hgr hor; have hq := fr_first HD3.out HB1.out HH1.out HB2.out HH2.out HNE.out hMB hown hgr hor; have HC11 : Hid (w11.cell? ⟨wb.heap.size, 0, none⟩ = some (.int .i64 p)) := (World.cell?_of_block (a := ⟨wb.heap.size, 0, none⟩) (hgr.block _ (World.block_lt_of_cell? _ _ HF3.out) (fun e => by have q1 := (HH1.out.lt _ e.symm).2; have q2 := HSB.out; have q1 : wb.heap.size < W.heap.size := q1; omega))).trans HF3.out)); obtain ⟨A11, k11, rfl⟩ := own_slice hown; obtain ⟨g1, g2, g3, g4, g5, _⟩ := hq; have c1 := g1.cell; have c2 := g2.cell; have c3 := (g2.alloc (.cells #[.int .i64 p] 3)).cell; have HX1 := Lib.hid g1; have HX2 := Lib.hid g2; have HV1 := Lib.hid hown; have HV2 := Lib.hid g3; have HN1 := Lib.hid g4; have HG1 := Lib.hid g5; clear hown hgr hor g1 g2 g3 g4 g5))
  all_goals
    go_wp2
    go_ret
    obtain ⟨t1, t2, t3, t4, t5⟩ := HLAST.out
    exact ⟨rfl, _, _, t1, t3, t2, t4, HN2.out, t5⟩

end

attribute [local go_sem] Oper.semAt_some

/-- A slice of numbers. -/
structure IsAt (w : World) (A : Option Addr) (n c : Nat) (l : List Int) : Prop where
  len : l.length = n
  le : n ≤ c
  max : c ≤ 9223372036854775807
  at_ : 0 < n → ∃ b o, A = some ⟨b, o, none⟩ ∧ b < w.heap.size ∧ ∀ (j : Nat) (x : Int), l[j]? = some x → w.cell? ⟨b, o + j, none⟩ = some (.int .i64 x)

theorem IsAt.below {w w' : World} {A : Option Addr} {n c : Nat} {l : List Int} (h : IsAt w A n c l) (hb : Below w.heap.size w w') : IsAt w' A n c l :=
  ⟨h.len, h.le, h.max, fun hn => by
    obtain ⟨b, o, e, hlt, hc⟩ := h.at_ hn
    exact ⟨b, o, e, Nat.lt_of_lt_of_le hlt hb.size, fun j x hx => (hb.cell (p := ⟨b, o + j, none⟩) hlt).trans (hc j x hx)⟩⟩

def icells (l : List Int) : List Value := l.map fun x => .int .i64 x

theorem is_of_own {w : World} {base n : Nat} {v : Value} {l : List Int} (h : w.ownsRow base 3 1 v n (icells l)) : ∃ A c, v = .slice A n c ∧ IsAt w A n c l := by
  have hl : l.length = n := by have := h.1; unfold icells at this; rw [List.length_map] at this; omega
  rcases h.2 with ⟨rfl, rfl⟩ | ⟨g, cap, cur, rfl, hb, hg, hn, hm, hs, ht⟩
  · exact ⟨none, 0, rfl, hl, Nat.le_refl _, by omega, fun h => absurd h (Nat.lt_irrefl 0)⟩
  · refine ⟨_, _, rfl, hl, hn, by unfold maxLen at hm; exact hm, fun _ => ⟨g, 0, rfl, (Array.getElem?_eq_some_iff.1 hg).1, fun j x hx => ?_⟩⟩
    have hu : (icells l)[j]? = some (.int .i64 x) := by unfold icells; rw [List.getElem?_map, hx]; rfl
    rw [← ht, List.getElem?_take] at hu
    rw [Nat.zero_add]
    split at hu
    · simp only [World.cell?, hg]
      simpa using hu
    · cases hu

section
variable {w : World} {base seed s c h mb N : Nat} {ns : List Nd} {S : Nat → Nat → Value} {g : List UInt8 → Option Nat} {sz : Nat} {L : List Mb}

/-- How from's memory stands between two calls of its closure. -/
def JF (w : World) (M c : Nat) (L : List Mb) (rank : Int) (back : Bool) (i : Nat) (X : World) : Prop :=
  (∃ v v2, Boxed X M 35 v ∧ X.ownsRow (M + 7) 47 2 v i (mcells (visL L rank back i)) ∧ Boxed X (M + 1) 75 v2 ∧ X.ownsRow (M + 7) 3 1 v2 i (icells (visP rank back i)) ∧ (∀ b, v.ownBlock = some b → v2.ownBlock ≠ some b)) ∧ w.grownBy X (some c)

theorem JF.step {M i : Nat} {rank : Int} {back : Bool} {X X' : World} (h : JF w M c L rank back i X) (hc : c < M) (k : X.grownBy X' (some c)) : JF w M c L rank back i X' := by
  obtain ⟨⟨v, v2, h1, h2, h3, h4, h5⟩, h6⟩ := h
  refine ⟨⟨v, v2, h1.kept k (fun e => by injection e with e; omega), own_keep h2 (fun b hb => k.block b (h2.lt b hb).2 (fun e => by injection e with e; have := (h2.lt b hb).1; omega)), h3.kept k (fun e => by injection e with e; omega), own_keep h4 (fun b hb => k.block b (h4.lt b hb).2 (fun e => by injection e with e; have := (h4.lt b hb).1; omega)), h5⟩, grown_trans' h6 k⟩
where grown_trans' {a b c : World} {r : Option Nat} (h : a.grownBy b r) (k : b.grownBy c r) : a.grownBy c r :=
  ⟨k.os.trans h.os, k.tape.trans h.tape, k.output.trans h.output, Nat.le_trans h.size k.size, fun j hj hne => (k.block j (Nat.lt_of_lt_of_le hj h.size) hne).trans (h.block j hj hne)⟩

theorem JF.more {M i : Nat} {rank : Int} {back : Bool} {X : World} {x : Mb} (hM : w.heap.size = M) (hi : i ≤ 1000) (hx : L[(plV rank back i).toNat]? = some x) (h : JF w M c L rank back i X) (hT : M + 6 < X.heap.size) :
    Calls Tryd.prog 60 #[.int .i64 (plV rank back i), mbV x, .pointer (some ⟨M, 0, none⟩), .pointer (some ⟨M + 1, 0, none⟩)] X fun e X' => e = .returned (.bool true) ∧ JF w M c L rank back (i + 1) X' ∧ (∀ j, j ≠ M → j ≠ M + 1 → j < M + 7 → X'.heap[j]? = X.heap[j]?) ∧ X.heap.size ≤ X'.heap.size := by
  obtain ⟨⟨v, v2, h1, h2, h3, h4, h5⟩, h6⟩ := h
  refine (lfrom1_any (p := plV rank back i) (x := x) hi h1 h2 h3 h4 h5 (by omega) (by omega)).mono ?_
  rintro e X' ⟨rfl, v', v2', k1, k2, k3, k4, k5, k6⟩
  have keep : ∀ j, j ≠ M → j ≠ M + 1 → j < M + 7 → X'.heap[j]? = X.heap[j]? := fun j a b d => k6.block j (by omega) (by
    rintro (q | q | q | q)
    · exact a q
    · exact b q
    · have := (h2.lt j q).1; omega
    · have := (h4.lt j q).1; omega)
  refine ⟨rfl, ⟨⟨v', v2', k1, by rw [visL_step hx]; exact k2, k3, ?_, k5⟩, ⟨k6.os.trans h6.os, k6.tape.trans h6.tape, k6.output.trans h6.output, Nat.le_trans h6.size k6.size, fun j hj hne => (keep j (by omega) (by omega) (by omega)).trans (h6.block j hj hne)⟩⟩, keep, k6.size⟩
  rw [visP_step]
  unfold icells at k4 ⊢
  rw [List.map_append]
  exact k4

set_option maxRecDepth 100000 in
set_option maxHeartbeats 16000000 in
theorem lawfrom_any (k : LsAt w base seed s c h mb N ns S g sz L) (hL : L.length ≤ 1000) (hb : ∀ x ∈ L, x.1.length ≤ 1000000000) (rank : Int) (back : Bool) :
    Calls Tryd.prog 36 #[.pointer (some ⟨s, 0, none⟩), .int .i64 rank, .bool back] w fun e w' => ∃ A1 c1 A2 c2, e = .returned (.tuple #[.slice A1 (cntV L.length rank back) c1, .slice A2 (cntV L.length rank back) c2]) ∧ ScAt w' A1 (cntV L.length rank back) c1 (visL L rank back (cntV L.length rank back)) ∧ IsAt w' A2 (cntV L.length rank back) c2 (visP rank back (cntV L.length rank back)) ∧ Below w.heap.size w w' := by
  have hmf : ∀ (fn : Fn) (first cap : Array Value) (w : World), (Instr.makeFunc fn first cap).run Tryd.prog w = .ok (.func fn first cap) w := fun _ _ _ _ => rfl
  have hnl : ∀ (X : World) (a b : Array Value), (binOp .eql 100 (.func (.func 73) a b) .nilFunc).run Tryd.prog X = .ok (.bool false) X := fun _ _ _ => by first | rfl | kernel_rfl
  obtain ⟨M, hM⟩ : ∃ M, w.heap.size = M := ⟨_, rfl⟩
  obtain ⟨wa, hwa⟩ : ∃ wa, (w.alloc (.cells #[.slice none 0 0] 35)).alloc (.cells #[.slice none 0 0] 75) = wa := ⟨_, rfl⟩
  have ba : Below M w wa := by rw [← hwa, ← hM]; exact ((Below.refl _ _).alloc (Nat.le_refl _) _).alloc (by simp) _
  have sa : wa.heap.size = M + 2 := by rw [← hwa, ← hM]; simp
  have a0 : Boxed wa M 35 (.slice none 0 0) := by rw [← hwa, ← hM]; exact (Boxed.new w _ _).alloc _
  have a1 : Boxed wa (M + 1) 75 (.slice none 0 0) := by
    rw [← hwa, ← hM]
    have q := Boxed.new (w.alloc (.cells #[.slice none 0 0] 35)) 75 (.slice none 0 0)
    rw [World.size_alloc] at q
    exact q
  have hba : Below w.heap.size w wa := by rw [hM]; exact ba
  have hcM : c < M := by rw [← hM]; exact k.ck.blk.lt
  obtain ⟨D, hD⟩ : ∃ D : Int, D = if back then -1 else 1 := ⟨_, rfl⟩
  obtain ⟨fnx, eN, hN, HF⟩ : ∃ fnx : Nat, (∀ args w, (callFunc fnx args).run Tryd.prog w = .ok (.enter fnx args) w) ∧ (∀ (X : World) (i : Nat) (x : Nd), ChOn (lvS seed) X h ns S → ns[i]? = some x → Calls Tryd.prog fnx #[.pointer (some ⟨x.1, 0, none⟩)] X fun e w' => e = .returned (nodeAt ns ((i : Int) + D)) ∧ w' = X) ∧
      Calls Tryd.prog 54 #[.pointer (some ⟨s, 0, none⟩), .int .i64 rank, .bool back] wa fun e w' =>
        e = .returned (.func (.func 73) #[] #[.pointer (some ⟨wa.heap.size, 0, none⟩), .pointer (some ⟨wa.heap.size + 1, 0, none⟩), .pointer (some ⟨wa.heap.size + 3, 0, none⟩), .pointer (some ⟨wa.heap.size + 2, 0, none⟩)]) ∧
          (w'.cell? ⟨wa.heap.size, 0, none⟩ = some (.pointer (some ⟨s, 0, none⟩)) ∧ w'.cell? ⟨wa.heap.size + 1, 0, none⟩ = some (.int .i64 rank) ∧ w'.cell? ⟨wa.heap.size + 2, 0, none⟩ = some (.int .i64 D) ∧ w'.cell? ⟨wa.heap.size + 3, 0, none⟩ = some (.func (.func fnx) #[] #[])) ∧ Below wa.heap.size wa w' ∧ w'.heap.size = wa.heap.size + 4 := by
    cases back with
    | false =>
      rw [if_neg (by decide)] at hD
      subst hD
      exact ⟨_, enter_f1, fun X i x hch hx => by have q := from1_any hch (lvS_pos seed) hx; rw [Int.natCast_add] at q; exact q, from_mk2 _ rank wa⟩
    | true =>
      rw [if_pos rfl] at hD
      subst hD
      exact ⟨_, enter_f2, fun X i x hch hx => by have q := from2_any hch hx; rw [Int.sub_eq_add_neg] at q; exact q, from_mk3 _ rank wa⟩
  have HLT : Hid (∀ b, CkF c h mb ns b → b < M) := fun b hb => hM ▸ k.ck.lt hb
  have HFH := Lib.hid HF
  have HK := Lib.hid (k.below hba)
  have HN := Lib.hid hN
  have HD := Lib.hid hD
  have HEN := Lib.hid eN
  have HB := Lib.hid hb
  have HWA := Lib.hid hwa
  have HBA := Lib.hid ba
  have HSA := Lib.hid sa
  have HA0 := Lib.hid a0
  have HA1 := Lib.hid a1
  have HMh := Lib.hid hM
  have HCM := Lib.hid hcM
  have HLL := Lib.hid hL
  rw [hM]
  clear hwa ba sa a0 a1 hba k hN hD eN HF hb hcM hL
  go_enter Tryd.func36, Tryd.ntmps36
  go_wp2_with fail
  rw [HWA.out]
  refine HFH.out.mono ?_
  rintro e w1 ⟨rfl, ⟨q0, q1, q2, q3⟩, hbe, hsz⟩
  have sz1 : w1.heap.size = M + 6 := by rw [hsz, HSA.out]
  have hbe' : Below (M + 2) wa w1 := by rw [← HSA.out]; exact hbe
  have J0 : JF w M c L rank back 0 w1 := ⟨⟨_, _, (hbe.block M HA0.out.lt).trans HA0.out, World.ownsRow_nil _ _ _ _, (hbe.block (M + 1) HA1.out.lt).trans HA1.out, World.ownsRow_nil _ _ _ _, fun b hb => by cases hb⟩,
    ⟨hbe.os.trans HBA.out.os, hbe.tape.trans HBA.out.tape, hbe.output.trans HBA.out.output, by rw [sz1]; have := HMh.out; omega, fun j hj _ => (hbe.block j (by have := HSA.out; have := HMh.out; omega)).trans (HBA.out.block j (by have := HMh.out; omega))⟩⟩
  have H3 := Lib.hid (from3_any (W := w1) (T := M + 6) (gY := 60) (lb := #[.pointer (some ⟨M, 0, none⟩), .pointer (some ⟨M + 1, 0, none⟩)]) (HK.out.below hbe) (by have := HLL.out; omega) HB.out sz1 enter_l1 HEN.out HN.out HD.out q0 q1 q3 q2 (by have := HCM.out; have := HSA.out; omega) (by have := HCM.out; have := HSA.out; omega) (by have := HCM.out; have := HSA.out; omega)
    (JF w M c L rank back) (fun i X X' hJ hg => hJ.step HCM.out hg)
    (fun i x X hi hx hJ hT => (hJ.more HMh.out (by have := HLL.out; have := cntV_le (n := L.length) (r := rank) (back := back); omega) hx hT).mono (fun e X' ⟨r1, r2, r3, r4⟩ => ⟨r1, r2, fun j hj => by
      have hM2 := HMh.out
      have hS2 := HSA.out
      rcases hj with rfl | rfl | rfl | hj
      · exact r3 _ (by omega) (by omega) (by omega)
      · exact r3 _ (by omega) (by omega) (by omega)
      · exact r3 _ (by omega) (by omega) (by omega)
      · have hjM := HLT.out j hj
        exact r3 j (by omega) (by omega) (by omega), r4⟩)) J0)
  have HW1 := Lib.hid hbe
  clear q0 q1 q2 q3 hbe hbe' hsz J0 sz1
  go_wp2_with fail
  refine H3.out.mono ?_
  rintro e w2 ⟨rfl, ⟨⟨v, v2, k1, k2, k3, k4, k5⟩, k6⟩, hcc, hss⟩
  have hbw : Below M w w2 := ⟨k6.os, k6.tape, k6.output, by have := k6.size; have := HMh.out; omega, fun j hj => by
    by_cases e : j = c
    · rw [e, hcc]
      exact (HW1.out.block c (by have := HSA.out; have := HCM.out; omega)).trans (HBA.out.block c HCM.out)
    · exact k6.block j (by have := HMh.out; omega) (fun q => e (by injection q))⟩
  obtain ⟨A1, c1, rfl, hs1⟩ := sc_of_own k2
  obtain ⟨A2, c2, rfl, hs2⟩ := is_of_own k4
  have c0 := k1.cell
  have c1' := k3.cell
  have HS1 := Lib.hid hs1
  have HS2 := Lib.hid hs2
  have HBW := Lib.hid hbw
  clear k1 k2 k3 k4 k5 k6 hcc hss hs1 hs2 hbw
  go_wp2_with fail
  go_quiet (fail)
  all_goals
    go_wp2
    go_ret2
    exact ⟨A1, c1, A2, c2, rfl, HS1.out.below (below_drewN _ _ _), HS2.out.below (below_drewN _ _ _), HBW.out.trans (below_drewN _ _ _)⟩

end

section
variable {w : World}
theorem wpList_append_int {ops : Array Oper} {rest : List Oper} {o : Oper} {a : Act} {Q : Exit → Act → World → Prop} (hgd : o.guard = none) (s x : Operand)
    (ho : o.op = .call { callee := .builtin .append, args := #[s, x], argTypes := #[75, 75] })
    (base : Nat) (v : Value) (n : Nat) (xs : List Value) (hs : a.eval s = v) (hown : w.ownsRow base 3 1 v n xs) (g : Nat) (p : Int) (hx : a.eval x = .slice (some ⟨g, 0, none⟩) 1 1) (hc : w.cell? ⟨g, 0, none⟩ = some (.int .i64 p))
    (h63 : n + 1 ≤ 2000000) (hbase : base ≤ w.heap.size)
    (h : ∀ v' w', w'.ownsRow base 3 1 v' (n + 1) (xs ++ [.int .i64 p]) → w.grownBy w' v.ownBlock → (v'.ownBlock = v.ownBlock ∨ v'.ownBlock = some w.heap.size) → wpList Tryd.prog ops Q rest (a.put o.dst v') w') :
    wpList Tryd.prog ops Q (o :: rest) a w := by
  obtain ⟨i, hi, hz⟩ := Option.map_eq_some_iff.1 info_int
  simp only [Prod.mk.injEq] at hz
  obtain ⟨z1, z2, z3⟩ := hz
  obtain ⟨v', w', hrun, h2, h3, _, h5⟩ := run_append_own_at (P := Tryd.prog) w base 75 o.type 3 i _ 1 8 Tryd.underlying75 hi z1 z2 z3 rfl (by omega) v n xs hown ⟨g, 0, none⟩ 1 1 [.int .i64 p] rfl (fun j u hu => by
    rcases j with _ | j
    · simp at hu; subst hu; exact hc
    · simp at hu) (by intro u hu; simp at hu; subst hu; rfl) (by unfold maxLen; omega) (by omega) hbase
  refine wpList_plain hgd fun K hK => ?_
  unfold Oper.wp
  simp [execOp, ho, resolve, invoke, builtin, hs, hx, hrun, Result.andThen]
  exact hK _ _ (h v' w' h2 h3 h5)
end

section
variable {W Wi w11 : World} {B n m : Nat} {v v2 v' : Value} {e1 e2 : TypeId} {s1 s2 : Nat} {xs is ys : List Value}

/-- One of two rows that share nothing grows. -/
theorem two_grow (hWi : Below W.heap.size W Wi) (h1 : W.ownsRow B e1 s1 v n xs) (h2 : W.ownsRow B e2 s2 v2 m is) (hne : ∀ b, v.ownBlock = some b → v2.ownBlock ≠ some b) (hB : B ≤ W.heap.size)
    (hgr : Wi.grownBy w11 v.ownBlock) (hor : v'.ownBlock = v.ownBlock ∨ v'.ownBlock = some Wi.heap.size) :
    w11.ownsRow B e2 s2 v2 m is ∧ (∀ b, v'.ownBlock = some b → v2.ownBlock ≠ some b) ∧ Below B W w11 := by
  have key : ∀ j, j < W.heap.size → v.ownBlock ≠ some j → w11.heap[j]? = W.heap[j]? := fun j hj hn => (hgr.block j (Nat.lt_of_lt_of_le hj hWi.size) (fun e => hn e.symm)).trans (hWi.block j hj)
  refine ⟨own_keep h2 (fun b hb => key b (h2.lt b hb).2 (fun e => hne b e hb)), fun b hb hb2 => ?_, ⟨hgr.os.trans hWi.os, hgr.tape.trans hWi.tape, hgr.output.trans hWi.output, Nat.le_trans hWi.size hgr.size, fun j hj => key j (by omega) (fun e => by have := (h1.lt j e).1; omega)⟩⟩
  rcases hor with q | q
  · exact hne b (q.symm.trans hb) hb2
  · rw [q] at hb
    injection hb with hb
    have := (h2.lt b hb2).2
    have := hWi.size
    omega
end

section
variable {w : World} {base seed s c h mb N : Nat} {ns : List Nd} {S : Nat → Nat → Value} {g : List UInt8 → Option Nat} {sz : Nat} {L : List Mb}

set_option maxRecDepth 100000 in
set_option maxHeartbeats 32000000 in
theorem ranks_any (k : LsAt w base seed s c h mb N ns S g sz L) (hL : L.length ≤ 1000) (hb : ∀ x ∈ L, x.1.length ≤ 1000000000) {A : Option Addr} {n cp : Nat} (hw : ScAt w A n cp L) (rank : Int) (back : Bool) :
    Calls Tryd.prog 34 #[.pointer (some ⟨s, 0, none⟩), .slice A n cp, .int .i64 rank, .bool back] w fun e w' => e = .returned (.bool true) ∧ Below w.heap.size w w' := by
  have HF := Lib.hid (lawfrom_any k hL hb rank back)
  have hn : L.length = n := hw.len
  rw [hn] at HF hL
  have HW := Lib.hid hw
  have HN := Lib.hid hn
  have hKn : cntV n rank back ≤ n := cntV_le
  obtain ⟨K, hK⟩ : ∃ K, cntV n rank back = K := ⟨_, rfl⟩
  have HPI : Hid (∀ i, i ≤ K → ((0 ≤ plV rank back i ∧ plV rank back i < n) ↔ i < K)) := fun i hi => by rw [← hK] at hi ⊢; exact plV_iff hi
  have HK0 : Hid (¬ (0 ≤ rank ∧ rank < n) → K = 0) := fun e => by rw [← hK]; unfold cntV; rw [if_neg e]
  rw [hK] at HF hKn
  obtain ⟨M, hM⟩ : ∃ M, w.heap.size = M := ⟨_, rfl⟩
  have HMh := Lib.hid hM
  rw [hM]
  clear k hb hw hn hK hM
  go_enter Tryd.func34, Tryd.ntmps34
  go_wp2_with fail
  refine HF.out.mono ?_
  rintro e w1 ⟨A1, c1, A2, c2, rfl, hsl, hia, hb1⟩
  have HS1 := Lib.hid hsl
  have HI1 := Lib.hid hia
  have HB1 := Lib.hid hb1
  have HW1 := Lib.hid (HW.out.below hb1)
  obtain ⟨B, hB⟩ : ∃ B, w1.heap.size = B := ⟨_, rfl⟩
  have HBh := Lib.hid hB
  clear hsl hia hb1 hB HF
  by_cases hin : 0 ≤ rank ∧ rank < n
  · obtain ⟨h0, h1⟩ := hin
    go_wp2_with fail
    go_loopw [11, 12, 13] (fun av pv iv wr => ∃ (i : Nat), i ≤ K ∧ wr.ownsRow B 47 2 av i (mcells (visL L rank back i)) ∧ wr.ownsRow B 3 1 pv i (icells (visP rank back i)) ∧ (∀ b, av.ownBlock = some b → pv.ownBlock ≠ some b) ∧ iv = .int .i64 (plV rank back i) ∧ Below B w1 wr) (fun _ _ iv _ => if back then (intOf iv + 1).toNat else ((n : Int) - intOf iv).toNat)
    case atStart => exact ⟨0, Nat.zero_le _, World.ownsRow_nil _ _ _ _, World.ownsRow_nil _ _ _ _, (fun b hb => by cases hb), (by rw [plV_zero]), (by rw [← HBh.out]; exact Below.refl _ _)⟩
    case round =>
      obtain ⟨i, hi, hav, hpv, hne, rfl, hbr⟩ := hrel
      have HPS := Lib.hid (plV_succ rank back i)
      have HPX := HPI.out i hi
      by_cases hlt : i < K
      · obtain ⟨p0, p1⟩ := HPX.2 hlt
        obtain ⟨q, hq⟩ : ∃ q : Nat, plV rank back i = (q : Int) := ⟨(plV rank back i).toNat, by omega⟩
        have hqn : q < n := by omega
        have hqn' : (q : Int) < (n : Int) := by omega
        have hq0 : (0 : Int) ≤ (q : Int) := by omega
        have hbr' : Below w1.heap.size w1 wr := by rw [HBh.out]; exact hbr
        obtain ⟨x, hx⟩ : ∃ x, L[q]? = some x := ⟨_, List.getElem?_eq_getElem (by rw [HN.out]; exact hqn)⟩
        obtain ⟨b, o, hAe, hbl, hc⟩ := (HW1.out.below hbr').at_ (by omega)
        subst hAe
        obtain ⟨y0, y1⟩ := hc q x hx
        have hvl : visL L rank back (i + 1) = visL L rank back i ++ [x] := visL_step (by rw [hq, Int.toNat_natCast]; exact hx)
        have hvp : icells (visP rank back (i + 1)) = icells (visP rank back i) ++ [.int .i64 (q : Int)] := by rw [visP_step, hq]; unfold icells; rw [List.map_append]; rfl
        have HVL := Lib.hid hvl
        have HVP := Lib.hid hvp
        obtain ⟨TT, hTT⟩ : ∃ T : ByteArray, (⟨x.1.toArray⟩ : ByteArray) = T := ⟨_, rfl⟩
        obtain ⟨Z, hZ⟩ : ∃ Z, x.2 = Z := ⟨_, rfl⟩
        have hxx : (TT.data.toList, Z) = x := by rw [← hTT, ← hZ]
        rw [hTT] at y0
        rw [hZ] at y1
        rw [hq] at HPS ⊢
        obtain ⟨A3, c3, rfl⟩ := own_slice hav
        obtain ⟨A4, c4, rfl⟩ := own_slice hpv
        have hBr : B ≤ wr.heap.size := by have := hbr'.size; have := HBh.out; omega
        have HAV := Lib.hid hav
        have HPV := Lib.hid hpv
        have HNE := Lib.hid hne
        have HBR := Lib.hid hbr
        have HBR2 := Lib.hid hBr
        have HSD : Hid (SdAt (wr.alloc (.cells #[.string TT, .int .i64 Z] 47)) (some ⟨wr.heap.size, 0, none⟩) 1 1 [x]) := by unfold Hid; rw [← hxx]; exact sd_one wr TT Z _ rfl
        have HA0 : Hid (Below wr.heap.size wr (wr.alloc (.cells #[.string TT, .int .i64 Z] 47))) := (Below.refl _ _).alloc (Nat.le_refl _) _
        have HLT := Lib.hid hlt
        have HP01 := Lib.hid (And.intro p0 p1)
        have HQ := Lib.hid hq
        have hi2 : i + 1 ≤ 2000000 := by omega
        clear hvl hvp hTT hZ hxx hav hpv hne hbr hbr' hc hx hBr hlt p0 p1 HPX hq
        go_wp2_with (at_builtin; refine wpList_append_sc rfl _ _ rfl B (.slice A3 i c3) i _ rfl (HAV.out.alloc _) (some ⟨wr.heap.size, 0, none⟩) 1 1 [x] rfl HSD.out hi2 (Nat.le_trans HBR2.out (by simp)) ?_)
        intro v5 w5 hown5 hgr5 hor5
        obtain ⟨hp5, hne5, hb5⟩ := two_grow (v' := v5) HA0.out HAV.out HPV.out HNE.out HBR2.out hgr5 (by rw [World.size_alloc]; exact hor5)
        obtain ⟨A5, c5, rfl⟩ := own_slice hown5
        have HB5 := Lib.hid hb5
        have H51 := Lib.hid hown5
        have H52 := Lib.hid hp5
        have HN5 := Lib.hid hne5
        have HS5 : Hid (B ≤ w5.heap.size) := Nat.le_trans HBR2.out (Nat.le_trans HA0.out.size hgr5.size)
        have HC5 : Hid ((w5.alloc (.cells #[.int .i64 (q : Int)] 3)).cell? ⟨w5.heap.size, 0, none⟩ = some (.int .i64 (q : Int))) := (Boxed.new w5 3 (.int .i64 (q : Int))).cell
        clear hown5 hgr5 hor5 hp5 hne5 hb5
        go_wp2_with (at_builtin; refine wpList_append_int rfl _ _ rfl B (.slice A4 i c4) i _ rfl (H52.out.alloc _) w5.heap.size (q : Int) rfl HC5.out hi2 (Nat.le_trans HS5.out (by simp)) ?_)
        intro v6 w6 hown6 hgr6 hor6
        obtain ⟨hp6, hne6, hb6⟩ := two_grow (v' := v6) ((Below.refl _ _).alloc (Nat.le_refl _) (.cells #[.int .i64 (q : Int)] 3)) H52.out H51.out (fun b h1 h2 => HN5.out b h2 h1) HS5.out hgr6 (by rw [World.size_alloc]; exact hor6)
        obtain ⟨A6, c6, rfl⟩ := own_slice hown6
        have HB6 : Hid (Below B w1 w6) := (HBR.out.trans HB5.out).trans hb6
        have H61 := Lib.hid hp6
        have H62 := Lib.hid hown6
        have HN6 : Hid (∀ b, (Value.slice A5 (i + 1) c5).ownBlock = some b → (Value.slice A6 (i + 1) c6).ownBlock ≠ some b) := fun b h1 h2 => hne6 b h2 h1
        clear hown6 hgr6 hor6 hp6 hne6 hb6
        cases back with
        | false =>
          have hs1 : IntKind.i64.wrap ((q : Int) + 1) = ((q + 1 : Nat) : Int) := by rw [IntWalk.i64_in _ (by omega)]; omega
          have HRL : Hid (plV rank false (i + 1) = ((q + 1 : Nat) : Int)) := by have q1 := HPS.out; rw [if_neg (by decide)] at q1; unfold Hid; rw [q1]; omega
          go_wp2
          go_roundw
          case rel => exact ⟨i + 1, HLT.out, HVL.out ▸ H61.out, HVP.out ▸ H62.out, HN6.out, by rw [HRL.out]; rfl, HB6.out⟩
          case measure => simp only [intOf]; simp; omega
        | true =>
          have hs1 : IntKind.i64.wrap ((q : Int) - 1) = (q : Int) - 1 := by rw [IntWalk.i64_in _ (by omega)]
          have HRL : Hid (plV rank true (i + 1) = (q : Int) - 1) := by have q1 := HPS.out; rw [if_pos rfl] at q1; unfold Hid; rw [q1]; omega
          go_wp2
          go_roundw
          case rel => exact ⟨i + 1, HLT.out, HVL.out ▸ H61.out, HVP.out ▸ H62.out, HN6.out, by rw [HRL.out], HB6.out⟩
          case measure => simp only [intOf]; simp <;> omega
      · obtain rfl : i = K := by omega
        have hout : ¬ (0 ≤ plV rank back i ∧ plV rank back i < n) := fun e => hlt (HPX.1 e)
        obtain ⟨p, hp⟩ : ∃ p, plV rank back i = p := ⟨_, rfl⟩
        rw [hp] at hout ⊢
        have hbr' : Below w1.heap.size w1 wr := by rw [HBh.out]; exact hbr
        obtain ⟨A3, c3, rfl, hs3⟩ := sc_of_own hav
        obtain ⟨A4, c4, rfl, hs4⟩ := is_of_own hpv
        have HSA := Lib.hid hs3
        have HIP := Lib.hid hs4
        have HSL := Lib.hid (HS1.out.below hbr')
        have HIA := Lib.hid (HI1.out.below hbr')
        have HB5 : Hid (Below M w wr) := (HMh.out ▸ HB1.out).trans (hbr'.mono (by have := HB1.out.size; have := HMh.out; omega))
        clear hav hpv hne hbr hbr' hs3 hs4 HPX HPS hp hlt hi
        by_cases hp0 : 0 ≤ p
        · have hp1 : ¬ p < (n : Int) := fun e => hout ⟨hp0, e⟩
          clear hout
          have HSM := Lib.hid (rsame_yes wr HSL.out HSA.out)
          have HBW := Lib.hid HB5.out
          clear HSL HSA
          go_wp2_with fail
          refine HSM.out.mono ?_
          rintro e w6 ⟨rfl, hb6⟩
          have HIA6 := Lib.hid (HIA.out.below hb6)
          have HIP6 := Lib.hid (HIP.out.below hb6)
          have HB6 : Hid (Below M w w6) := HB5.out.trans (hb6.mono (by have := HB5.out.size; have := HMh.out; omega))
          clear hb6 HSM HBW HIA HIP
          go_wp2_with fail
          go_loopw [14] (fun iv wr => ∃ j : Nat, iv = .int .i64 j ∧ j ≤ i ∧ Below w6.heap.size w6 wr) (fun iv _ => i - (intOf iv).toNat)
          case atStart => exact ⟨0, rfl, Nat.zero_le _, Below.refl _ _⟩
          case round =>
            obtain ⟨j, rfl, hj, hbj⟩ := hrel
            have HBJ := Lib.hid hbj
            by_cases hjk : j < i
            · have hjk' : (j : Int) < (i : Int) := by omega
              obtain ⟨b1, o1, hA1, hl1, hc1⟩ := (HIA6.out.below hbj).at_ (by omega)
              obtain ⟨b2, o2, hA2, hl2, hc2⟩ := (HIP6.out.below hbj).at_ (by omega)
              subst hA1 hA2
              have e1 := hc1 j _ (visP_get hjk)
              have e2 := hc2 j _ (visP_get hjk)
              obtain ⟨pp, hpp⟩ : ∃ pp, plV rank back j = pp := ⟨_, rfl⟩
              rw [hpp] at e1 e2
              clear hc1 hc2 hpp hbj
              go_wp2_with fail
              go_quiet (fail)
              all_goals
                go_wp2
                go_roundw
                case rel => exact ⟨j + 1, by go_num, hjk, HBJ.out.trans (below_drewN _ _ _)⟩
                case measure => simp only [intOf]; omega
            · have hjk' : ¬ (j : Int) < (i : Int) := by omega
              go_wp2
              go_ret
              exact ⟨rfl, HB6.out.trans (HBJ.out.mono (by have := HB6.out.size; have := HMh.out; omega))⟩
        · clear hout
          have HSM := Lib.hid (rsame_yes wr HSL.out HSA.out)
          have HBW := Lib.hid HB5.out
          clear HSL HSA
          go_wp2_with fail
          refine HSM.out.mono ?_
          rintro e w6 ⟨rfl, hb6⟩
          have HIA6 := Lib.hid (HIA.out.below hb6)
          have HIP6 := Lib.hid (HIP.out.below hb6)
          have HB6 : Hid (Below M w w6) := HB5.out.trans (hb6.mono (by have := HB5.out.size; have := HMh.out; omega))
          clear hb6 HSM HBW HIA HIP
          go_wp2_with fail
          go_loopw [14] (fun iv wr => ∃ j : Nat, iv = .int .i64 j ∧ j ≤ i ∧ Below w6.heap.size w6 wr) (fun iv _ => i - (intOf iv).toNat)
          case atStart => exact ⟨0, rfl, Nat.zero_le _, Below.refl _ _⟩
          case round =>
            obtain ⟨j, rfl, hj, hbj⟩ := hrel
            have HBJ := Lib.hid hbj
            by_cases hjk : j < i
            · have hjk' : (j : Int) < (i : Int) := by omega
              obtain ⟨b1, o1, hA1, hl1, hc1⟩ := (HIA6.out.below hbj).at_ (by omega)
              obtain ⟨b2, o2, hA2, hl2, hc2⟩ := (HIP6.out.below hbj).at_ (by omega)
              subst hA1 hA2
              have e1 := hc1 j _ (visP_get hjk)
              have e2 := hc2 j _ (visP_get hjk)
              obtain ⟨pp, hpp⟩ : ∃ pp, plV rank back j = pp := ⟨_, rfl⟩
              rw [hpp] at e1 e2
              clear hc1 hc2 hpp hbj
              go_wp2_with fail
              go_quiet (fail)
              all_goals
                go_wp2
                go_roundw
                case rel => exact ⟨j + 1, by go_num, hjk, HBJ.out.trans (below_drewN _ _ _)⟩
                case measure => simp only [intOf]; omega
            · have hjk' : ¬ (j : Int) < (i : Int) := by omega
              go_wp2
              go_ret
              exact ⟨rfl, HB6.out.trans (HBJ.out.mono (by have := HB6.out.size; have := HMh.out; omega))⟩
  · obtain rfl : K = 0 := HK0.out hin
    have HSA : Hid (ScAt w1 none 0 0 (visL L rank back 0)) := ScAt.nil w1
    have HIP : Hid (IsAt w1 none 0 0 (visP rank back 0)) := ⟨rfl, Nat.le_refl _, by omega, fun h => absurd h (Nat.lt_irrefl 0)⟩
    have HSL := Lib.hid HS1.out
    have HIA := Lib.hid HI1.out
    have HB5 : Hid (Below M w w1) := HMh.out ▸ HB1.out
    by_cases hp0 : 0 ≤ rank
    · have hp1 : ¬ rank < (n : Int) := fun e => hin ⟨hp0, e⟩
      clear hin
      have HSM := Lib.hid (rsame_yes w1 HSL.out HSA.out)
      have HBW := Lib.hid HB5.out
      clear HSL HSA
      go_wp2_with fail
      refine HSM.out.mono ?_
      rintro e w6 ⟨rfl, hb6⟩
      have HIA6 := Lib.hid (HIA.out.below hb6)
      have HIP6 := Lib.hid (HIP.out.below hb6)
      have HB6 : Hid (Below M w w6) := HB5.out.trans (hb6.mono (by have := HB5.out.size; have := HMh.out; omega))
      clear hb6 HSM HBW HIA HIP
      go_wp2_with fail
      go_loopw [14] (fun iv wr => ∃ j : Nat, iv = .int .i64 j ∧ j ≤ 0 ∧ Below w6.heap.size w6 wr) (fun iv _ => 0 - (intOf iv).toNat)
      case atStart => exact ⟨0, rfl, Nat.le_refl _, Below.refl _ _⟩
      case round =>
        obtain ⟨j, rfl, hj, hbj⟩ := hrel
        have HBJ := Lib.hid hbj
        by_cases hjk : j < 0
        · exact absurd hjk (Nat.not_lt_zero _)
        · have hjk' : ¬ (j : Int) < (0 : Int) := by omega
          go_wp2
          go_ret
          exact ⟨rfl, HB6.out.trans (HBJ.out.mono (by have := HB6.out.size; have := HMh.out; omega))⟩
    · clear hin
      have HSM := Lib.hid (rsame_yes w1 HSL.out HSA.out)
      have HBW := Lib.hid HB5.out
      clear HSL HSA
      go_wp2_with fail
      refine HSM.out.mono ?_
      rintro e w6 ⟨rfl, hb6⟩
      have HIA6 := Lib.hid (HIA.out.below hb6)
      have HIP6 := Lib.hid (HIP.out.below hb6)
      have HB6 : Hid (Below M w w6) := HB5.out.trans (hb6.mono (by have := HB5.out.size; have := HMh.out; omega))
      clear hb6 HSM HBW HIA HIP
      go_wp2_with fail
      go_loopw [14] (fun iv wr => ∃ j : Nat, iv = .int .i64 j ∧ j ≤ 0 ∧ Below w6.heap.size w6 wr) (fun iv _ => 0 - (intOf iv).toNat)
      case atStart => exact ⟨0, rfl, Nat.le_refl _, Below.refl _ _⟩
      case round =>
        obtain ⟨j, rfl, hj, hbj⟩ := hrel
        have HBJ := Lib.hid hbj
        by_cases hjk : j < 0
        · exact absurd hjk (Nat.not_lt_zero _)
        · have hjk' : ¬ (j : Int) < (0 : Int) := by omega
          go_wp2
          go_ret
          exact ⟨rfl, HB6.out.trans (HBJ.out.mono (by have := HB6.out.size; have := HMh.out; omega))⟩

end

end Go.Proofs.YtcbiiioglklpoaaDoor
