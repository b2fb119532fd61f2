/-
  Package table (values: string): what All tells, as a row of pairs (pairs). Conditions: the table lies in memory as it reads, and keeps what tables keep.
-/
import Derived.Test.YtcjoakbaldeaoaaGTbS
import Derived.Test.YtcjoakbaldeaoaaGTmS
import Derived.Test.YtcjoakbaldeaoaaTbW
import Derived.Test.YtcjoakbaldeaoaaTbK
import Derived.RangeFuncFrom
import Derived.RangeFuncBox
namespace Go.Proofs.Ytcjoakbaldeaoaa
open Go.RowKit Go.Shelf

attribute [local go_sem] Oper.semAt_some

/-- A bucket of the world w: its slice and what it holds. -/
def BkS (w : World) (base : Nat) : Type := { p : Value × List (List UInt8 × (List UInt8)) // w.ownsRow base KS.te 2 p.1 p.2.length (encIt KS.enc p.2) ∧ p.2.length ≤ 400000 ∧ ∀ z ∈ p.2, z.1.length ≤ 1000 }

set_option maxRecDepth 100000 in
set_option maxHeartbeats 8000000 in
theorem bksS {w : World} {base Q g : Nat} {ow : Own} {R : List (List (List UInt8 × (List UInt8)))} {sp : Nat → Value} (h : RowsAt KS w base ow Q g R sp) (hm : ∀ (i : Nat) (l : List (List UInt8 × (List UInt8))), R[i]? = some l → l.length ≤ 400000) (hk : KeysR (fun k => k.length ≤ 1000) R) :
    ∃ XS : List (BkS w base), XS.map (·.1.1) = (List.range R.length).map sp ∧ XS.map (·.1.2) = R := by
  have key : ∀ n, n ≤ R.length → ∃ XS : List (BkS w base), XS.map (·.1.1) = (List.range n).map sp ∧ XS.map (·.1.2) = R.take n := by
    intro n
    induction n with
    | zero => intro _; exact ⟨[], rfl, rfl⟩
    | succ n ih =>
      intro hn
      obtain ⟨XS, h1, h2⟩ := ih (by omega)
      have hR : R[n]? = some (R.getD n []) := getD_lt (by omega)
      refine ⟨XS ++ [⟨(sp n, R.getD n []), h.bkt n _ hR, hm n _ hR, hk n _ hR⟩], ?_, ?_⟩
      · rw [List.map_append, h1, List.range_succ, List.map_append]; rfl
      · rw [List.map_append, h2, List.take_add_one, hR]; rfl
  obtain ⟨XS, h1, h2⟩ := key R.length (Nat.le_refl _)
  exact ⟨XS, h1, by rw [h2, List.take_length]⟩

set_option maxRecDepth 100000 in
set_option maxHeartbeats 8000000 in
theorem flat_leS {w : World} {base : Nat} (XS : List (BkS w base)) (pre : List (BkS w base)) (h : pre <+: XS) : ((pre.map (·.1.2)).flatten).length ≤ ((XS.map (·.1.2)).flatten).length := by
  obtain ⟨r, rfl⟩ := h
  rw [List.map_append, List.flatten_append, List.length_append]
  omega

set_option maxRecDepth 100000 in
set_option maxHeartbeats 8000000 in
theorem flat_boundS {w : World} {base : Nat} (pre : List (BkS w base)) : ((pre.map (·.1.2)).flatten).length ≤ pre.length * 400000 := by
  induction pre with
  | nil => simp
  | cons x pre ih =>
    rw [List.map_cons, List.flatten_cons, List.length_append, List.length_cons]
    have := x.2.2.1
    omega

set_option maxRecDepth 100000 in
set_option maxHeartbeats 8000000 in
theorem own_sliceS {w : World} {base : Nat} {e : TypeId} {size : Nat} {v : Value} {n : Nat} {xs : List Value} (h : w.ownsRow base e size v n xs) : ∃ A c, v = .slice A n c := by
  rcases h.2 with ⟨q1, q2⟩ | ⟨g, cap, cur, q, _⟩
  · exact ⟨none, 0, by rw [q1, q2]⟩
  · exact ⟨_, _, q⟩

set_option maxRecDepth 100000 in
set_option maxHeartbeats 8000000 in
theorem bucketsMkS_any (Q : Nat) (w : World) :
    CallsIn Fence.wide 9 Try.prog 83 #[.pointer (some ⟨Q, 0, none⟩)] w fun e w' => e = .returned (.func (.func 92) #[] #[.pointer (some ⟨w.heap.size, 0, none⟩)]) ∧ w' = w.alloc (.cells #[.pointer (some ⟨Q, 0, none⟩)] 46) := by
  refine callsIn_of_wp Try.func83 rfl trivial ?_ rfl
  simp only [Try.ntmps83, List.size_toArray, List.length_cons, List.length_nil, Nat.reduceAdd, Nat.reduceSub, Array.replicate_succ, Array.replicate_zero, List.push_toArray, List.append_toArray, List.nil_append, List.cons_append]
  gi_wp2
  go_ret
  exact ⟨rfl, rfl⟩

set_option maxRecDepth 100000 in
set_option maxHeartbeats 8000000 in
theorem bucketsS_stops {base Q seed : Nat} {ow : Own} {t : Tb (List UInt8)} {gA gB : Nat} {sA sB : Nat → Value} (n : Nat) (hn : 1 ≤ n) (Bn : Nat) (w : World) (hp : PT KS w base ow Q 86 seed t gA sA gB sB) (hpos : 0 < t.A.length) (hA : t.A.length ≤ 1000000) (hB : t.B.length ≤ 1000000)
    (hBn : w.cell? ⟨Bn, 0, none⟩ = some (.pointer (some ⟨Q, 0, none⟩))) {α : Type} (bv : α → Value) (XS : List α) (hXS : XS.map bv = (List.range t.A.length).map sA ++ (List.range t.B.length).map sB) :
    SeqStopsK Fence.wide n Try.prog 92 #[.pointer (some ⟨Bn, 0, none⟩)] (fun x : α => #[bv x]) (KpRS gA gB t.B.length) (fun ys => ys = XS) (fun pre => pre <+: XS) XS.length w := fun l J Jx W hW hJ _ hY h0 => by
  have hp' := TbOn.below hp hW
  exact buckets1S_in n hn l Bn Q t.A.length t.B.length gA gB KS.tb KS.tb sA sB XS bv hXS hpos hA hB J Jx hY W ((hW.cell (p := ⟨Bn, 0, none⟩) (World.block_lt_of_cell? w _ hBn)).trans hBn) (hp'.hd.cell (by omega)) (hp'.hd.cell (by omega)) (hp'.a.row hpos) (fun q => hp'.b.row q) hJ h0

set_option maxRecDepth 100000 in
set_option maxHeartbeats 16000000 in
theorem pairsS_any {base Q seed m : Nat} {ow : Own} {t : Tb (List UInt8)} {gA gB : Nat} {sA sB : Nat → Value} (w : World) (h : PT KS w base ow Q 86 seed t gA sA gB sB) (hg : Good (hashT seed) m t) (hm : m ≤ 50000) (hks : KeysT (fun k => k.length ≤ 1000) t) :
    Calls Try.prog 58 #[.pointer (some ⟨Q, 0, none⟩)] w fun e w' => ∃ v, e = .returned v ∧ w'.ownsRow w.heap.size 90 2 v (allT t).length (encIt KS.enc (allT t)) ∧ Below w.heap.size w w' := by
  have hpos := hg.kept.pos
  have hA := hg.a
  have hB := hg.b
  have hn := hg.n
  have c0 : w.cell? ⟨Q, 0, none⟩ = some (.pointer (some ⟨Q, 0, none⟩)) := h.hd.cell (by omega)
  have c2 : w.cell? ⟨Q, 2, none⟩ = some (.int .i64 t.n) := h.hd.cell (by omega)
  have HM := Lib.hid (isMadeS_any Q w c0)
  have hQ := World.block_lt_of_cell? w _ c0
  obtain ⟨XA, ha1, ha2⟩ := bksS h.a (fun i l hl => by have := hg.bktA hl; omega) hks.1
  obtain ⟨XB, hb1, hb2⟩ := bksS h.b (fun i l hl => by have := hg.bktB hl; omega) hks.2
  have HXS : Hid ((XA ++ XB).map (fun x => x.1.1) = (List.range t.A.length).map sA ++ (List.range t.B.length).map sB) := by unfold Hid; rw [List.map_append, ha1, hb1]
  have HFL : Hid (((XA ++ XB).map (fun x => x.1.2)).flatten = allT t) := by unfold Hid allT; rw [List.map_append, ha2, hb2, List.flatten_append]
  obtain ⟨XS, hXS⟩ : ∃ XS, XA ++ XB = XS := ⟨_, rfl⟩
  rw [hXS] at HXS HFL
  have HLN := Lib.hid (all_length hg.cnt)
  have HGA := Lib.hid (h.a.row hpos).lt
  have HGB := Lib.hid (fun (q : 0 < t.B.length) => (h.b.row q).lt)
  have HLA := Lib.hid (show t.A.length ≤ 200008 from by omega)
  have HLB := Lib.hid (show t.B.length ≤ 200008 from by omega)
  have HP := Lib.hid h
  have HST := Lib.hid (fun (Bn : Nat) (W : World) (hW : Below w.heap.size w W) (hBn : W.cell? ⟨Bn, 0, none⟩ = some (.pointer (some ⟨Q, 0, none⟩))) => bucketsS_stops 9 (by omega) Bn W (TbOn.below h hW) hpos (by omega) (by omega) hBn (fun x => x.1.1) XS HXS.out)
  obtain ⟨ip, hip, hyp⟩ := Option.map_eq_some_iff.1 info_pairS
  simp only [Prod.mk.injEq] at hyp
  have HIP := Lib.hid hyp
  obtain ⟨tn, htn⟩ : ∃ n, t.n = n := ⟨_, rfl⟩
  rw [htn] at c2 HLN hn
  clear h hg hks ha1 ha2 hb1 hb2 hXS hyp htn hpos hA hB
  refine (callsIn_wide (n := 10)).1 ?_
  refine callsIn_of_wp_marks Try.func58 rfl trivial ?_ rfl
  simp only [Try.ntmps58, List.size_toArray, List.length_cons, List.length_nil, Nat.reduceAdd, Nat.reduceSub, Array.replicate_succ, Array.replicate_zero, List.push_toArray, List.append_toArray, List.nil_append, List.cons_append]
  gi_wp2_with (first | (refine ⟨trivial, ?_⟩; gi_at_call 56; refine (callsIn_wide.2 HM.out).mono ?_; rintro e w' ⟨rfl, rfl⟩) | (gi_at_make; refine wpListIn_make_own _ rfl _ _ 87 rfl w'.heap.size 90 ip _ 2 Try.underlying87 hip HIP.out.1 HIP.out.2.1 .i64 .i64 tn tn rfl rfl rfl (by rw [HIP.out.2.2]; omega) (by unfold maxLen; omega) (Nat.le_refl _) ?_; intro w1 hown1 hgr1) | (refine ⟨trivial, ?_⟩; gi_at_call 83; refine (bucketsMkS_any Q _).mono ?_; rintro e w2 ⟨rfl, rfl⟩))
  have HP2 := Lib.hid (HP.out)
  obtain ⟨B, hBe⟩ : ∃ B, w1.heap.size = B := ⟨_, rfl⟩
  have hn0 : w'.heap.size ≤ B := by rw [← hBe]; exact hgr1.size
  have hbx := Boxed.new w1 87 (.slice (some ⟨w'.heap.size, 0, none⟩) 0 tn)
  rw [hBe] at hbx ⊢
  obtain ⟨wA, hwA⟩ : ∃ wA, w1.alloc (.cells #[.slice (some ⟨w'.heap.size, 0, none⟩) 0 tn] 87) = wA := ⟨_, rfl⟩
  have hown2 := hown1.alloc (.cells #[.slice (some ⟨w'.heap.size, 0, none⟩) 0 tn] 87)
  have hbA : Below w'.heap.size w' wA := by rw [← hwA]; exact ((Below.refl _ _).grown hgr1 (Nat.le_refl _) (fun k e => by cases e)).alloc (by have := hgr1.size; omega) _
  rw [hwA] at hbx hown2 ⊢
  have hszA : wA.heap.size = B + 1 := by rw [← hwA, ← hBe]; simp
  obtain ⟨wB, hwB⟩ : ∃ wB, wA.alloc (.cells #[.pointer (some ⟨Q, 0, none⟩)] 46) = wB := ⟨_, rfl⟩
  have hbn : wB.cell? ⟨B + 1, 0, none⟩ = some (.pointer (some ⟨Q, 0, none⟩)) := by rw [← hwB, ← hszA]; exact World.news_of_block (heap_alloc_new wA _) 0 _ rfl
  have hbx2 := hbx.alloc (.cells #[.pointer (some ⟨Q, 0, none⟩)] 46)
  have hown3 := hown2.alloc (.cells #[.pointer (some ⟨Q, 0, none⟩)] 46)
  have hbB : Below w'.heap.size w' wB := by rw [← hwB]; exact hbA.alloc hbA.size _
  rw [hwB] at hbx2 hown3 ⊢
  have hszB : wB.heap.size = B + 2 := by rw [← hwB]; simp [hszA]
  have HXL : Hid (XS.length ≤ 400016) := by
    unfold Hid
    have := congrArg List.length HXS.out
    simp only [List.length_map, List.length_append, List.length_range] at this
    have := HLA.out
    have := HLB.out
    omega
  clear hwA hwB hbx hown1 hown2 hbA hgr1 hBe
  refine wpIn_rangeFunc_ownF rfl (by omega) (gf := 92) (lb := #[.pointer (some ⟨B + 1, 0, none⟩)]) rfl trivial (enters_of Try.func92 (by kernel_rfl) rfl)
    (HST.out (B + 1) wB hbB hbn) (fun h k => h.t k) (fun W l o o' hl h ho _ => KpRS.of_below (n := w'.heap.size) ((Below.refl _ W).grown (grownBy_putObj' W l o') (by have := (Array.getElem?_eq_some_iff.1 h).1; omega) (fun k e => by cases e; omega)) HGA.out HGB.out) (Below.refl _ _) (fun _ => rfl)
    (fun pre W => (∃ v, Boxed W B 87 v ∧ W.ownsRow w'.heap.size 90 2 v ((pre.map (fun x => x.1.2)).flatten).length (encIt KS.enc ((pre.map (fun x => x.1.2)).flatten)) ∧ True) ∧ Below w'.heap.size w' W)
    (fun _ _ _ => False)
    (OwnFrom.and (Own.from (holdsRow_own w'.heap.size B 87 90 2 (fun pre => ((List.map (fun (x : BkS w' base) => x.1.2) pre).flatten).length) (fun pre => encIt KS.enc ((List.map (fun (x : BkS w' base) => x.1.2) pre).flatten)) (fun _ _ => True)) _) (ownFrom_below (Nat.le_refl _) (by omega)))
    (fun _ _ _ _ _ hs _ _ => hs)
    ⟨⟨_, hbx2, hown3, trivial⟩, hbB⟩
    (fun x => { tmps := #[.pointer (some ⟨Q, 0, none⟩), undef, .slice none 0 0, .pointer (some ⟨B, 0, none⟩), x.1.1, .pointer (some ⟨Q, 0, none⟩), .bool true, .bool false, .pointer (some ⟨Q, 0, none⟩), .pointer (some ⟨Q, 0, none⟩), .pointer (some ⟨Q, 2, none⟩), .int .i64 tn, .slice (some ⟨w'.heap.size, 0, none⟩) 0 tn, .pointer (some ⟨Q, 0, none⟩), .func (.func 92) #[] #[.pointer (some ⟨B + 1, 0, none⟩)], x.1.1, undef, undef, undef, undef], defers := [] }) ?assign ?body ?done ?stop
  case assign =>
    intro l x W K hK
    gi_wp2
    exact hK
  case body =>
    rintro l pre x W ⟨⟨v, hv, hrow, -⟩, hB⟩ hlt
    have hown := ownsRow_of_block x.2.1 (fun b hb => hB.block b (x.2.1.lt b hb).2)
    obtain ⟨A, c, hx, hA0, hnews⟩ : ∃ A c, x.1.1 = .slice A x.1.2.length c ∧ (A = none → x.1.2.length = 0 ∧ c = 0) ∧ (∀ ad, A = some ad → ∀ j u, (encIt KS.enc x.1.2)[j]? = some u → W.cell? (ad.add j) = some u) := by
      rcases x.2.1.2 with ⟨q1, q2⟩ | ⟨g, cap, cur, q, _⟩
      · exact ⟨none, 0, by rw [q1, q2], fun _ => ⟨q2, rfl⟩, fun ad e => by cases e⟩
      · exact ⟨some ⟨g, 0, none⟩, cap, q, (fun e => by cases e), (fun ad e => by injection e with e; subst e; exact hown.cells (g := g) (by rw [q]; rfl))⟩
    have hfb := flat_boundS pre
    have hx2 := x.2.2.1
    have hcell := hv.cell
    have hfz := hv.frozen
    obtain ⟨k, hk⟩ : ∃ k, x.1.2.length = k := ⟨_, rfl⟩
    obtain ⟨f, hf⟩ : ∃ f, ((pre.map (fun x => x.1.2)).flatten).length = f := ⟨_, rfl⟩
    have HK := Lib.hid hk
    have HF := Lib.hid hf
    rw [hk] at hx hA0 hx2
    rw [hf] at hfb hrow
    have hlt2 : pre.length < 400016 := by have := HXL.out; omega
    have HROW := Lib.hid hrow
    have HX := Lib.hid hx
    rw [hx]
    clear hk hf hx
    gi_wp2_with (gi_at_builtin; refine wpListIn_append_own2 rfl _ _ _ _ rfl w'.heap.size 90 90 ip _ 2 32 Try.underlying87 Try.underlying101 hip HIP.out.1 HIP.out.2.1 HIP.out.2.2 rfl (by omega) v f _ rfl HROW.out A k c (encIt KS.enc x.1.2) rfl (by rw [encIt_length, HK.out]) hA0 hnews (encIt_mem KS.enc (fun _ => rfl) _) (by unfold maxLen; omega) (by omega) hB.size ?_; intro v' w5 hown5 hgr5 hor5; obtain ⟨A5, c5, rfl⟩ := own_sliceS hown5; have hv5 := hv.kept hgr5 (hv.not_row (by decide) HROW.out); have hc5 := hv5.cell; have hf5 := hv5.frozen)
    have hbB := (World.block_lt_of_cell? W _ hcell)
    have hvn : ∀ b, v.ownBlock = some b → b ≠ B := fun b hb e => hv.not_row (by decide) HROW.out (by rw [← e, hb])
    have hge : ∀ b, v.ownBlock = some b → w'.heap.size ≤ b := fun b hb => (HROW.out.lt b hb).1
    have hcl : ∀ (j : Nat) (o : Obj), v.ownBlock = some j → W.heap[j]? = some o → o.isCells = true := fun j o hj ho => by
      rcases HROW.out.2 with ⟨q1, _⟩ | ⟨g, cap, cur, q, _, hg, _⟩
      · rw [q1] at hj; cases hj
      · rw [q] at hj
        injection hj with hj
        subst hj
        rw [hg] at ho
        injection ho with ho
        rw [← ho]; rfl
    have hB5 : Below w'.heap.size W (w5.setCell ⟨B, 0, none⟩ (.slice A5 (f + k) c5)) := ((Below.refl _ _).grown hgr5 hB.size (fun j e => hge j e)).setCell (p := ⟨B, 0, none⟩) hn0 _
    refine ⟨(KeepsOthers.of_grownBy hgr5 (fun j o hj ho => hcl j o hj ho)).trans (KeepsOthers.setCell _ _ _), KpRS.of_below hB5 HGA.out HGB.out, ⟨_, hv5.set _, ?_, trivial⟩, hB.trans hB5⟩
    rw [List.map_append, List.flatten_append, List.length_append, HF.out, show (List.map (fun (x : BkS w' base) => x.1.2) [x]).flatten = x.1.2 from by simp, HK.out, encIt_app]
    refine ownsRow_of_block hown5 fun b hb => Below.heap_setCell _ _ _ _ ?_
    rcases hor5 with q | q
    · exact hvn b (q.symm.trans hb)
    · rw [q] at hb
      injection hb with hb
      show b ≠ B
      have hbB' : B < W.heap.size := hbB
      omega
  case done =>
    rintro D ys W hD rfl ⟨⟨v, hv, hrow, -⟩, hB⟩ hK
    have hcell := hv.cell
    gi_wp2
    refine ⟨by simp, .inl ⟨_, _, rfl, run_takeDeferred hK, ?_⟩⟩
    refine ⟨_, results_tmp rfl _ _ _, v, rfl, ?_, hB.trans (belowK_b (w := w') (Nat.le_refl _) W D _ _ (by omega) hK rfl rfl)⟩
    have q := ownsRow_putObj hrow (.deferred none) hK rfl
    rw [HFL.out] at q
    exact q
  case stop =>
    rintro D c pre W _ _ h _
    exact h.elim

end Go.Proofs.Ytcjoakbaldeaoaa
