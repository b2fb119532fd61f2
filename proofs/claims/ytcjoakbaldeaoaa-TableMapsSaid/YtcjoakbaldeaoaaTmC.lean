/-
  Package table (values: string): the iterator over the buckets of a table whose second row, when it has none, need not be nil; its buckets, pairs, Len and Sizes. Conditions: the table lies in memory as it reads.
-/
import Derived.Test.YtcjoakbaldeaoaaGTqS
import Derived.Test.YtcjoakbaldeaoaaTmA
namespace Go.Proofs.Ytcjoakbaldeaoaa
open Go.RowKit Go.Shelf

attribute [local go_sem] Oper.semAt_some

set_option maxRecDepth 100000 in
set_option maxHeartbeats 8000000 in
/-- Bucket by bucket, by number. -/
theorem buckets2S_in (n : Nat) (hn : 1 ≤ n) (l Bn Q na nb gA gB : Nat) (AB : Option Addr) (hAB : 0 < nb → AB = some ⟨gB, 0, none⟩) (tA tB : TypeId) (sA sB sl : Nat → Value) (hsA : ∀ k, k < na → sl (0 + k) = sA k) (hsB : ∀ k, k < nb → sl (na + k) = sB k) (hna2 : na ≤ 1000000) (hnb2 : nb ≤ 1000000) (J Jx : Nat → World → Prop)
    (hY : ∀ p W, p < na + nb → J p W → YieldAt Fence.wide (n - 1) Try.prog l #[sl p] W fun e W' =>
      (e = .returned (.bool true) ∧ J (p + 1) W' ∧ KpRS gA gB nb W W') ∨ (e = .returned (.bool false) ∧ Jx (p + 1) W'))
    (W : World) (hBn : W.cell? ⟨Bn, 0, none⟩ = some (.pointer (some ⟨Q, 0, none⟩))) (c3 : W.cell? ⟨Q, 3, none⟩ = some (.slice (some ⟨gA, 0, none⟩) na na)) (c4 : W.cell? ⟨Q, 4, none⟩ = some (.slice AB nb nb)) (hrA : W.rowIs gA tA na sA) (hrB : 0 < nb → W.rowIs gB tB nb sB) (hJ : ∀ X, W.grownBy X none → J 0 X) :
    CallsIn Fence.wide n Try.prog 92 #[.func (.yield l) #[] #[], .pointer (some ⟨Bn, 0, none⟩)] W fun e W' => (∃ v, e = .returned v) ∧
      (J (na + nb) W' ∨ (∃ p, p ≤ na + nb ∧ Jx p W')) := by
  have HRA := Lib.hid hrA
  have HRB := Lib.hid hrB
  have HY := Lib.hid hY
  have HJS := Lib.hid hJ
  have HAB := Lib.hid hAB
  have HSA := Lib.hid hsA
  have HSB := Lib.hid hsB
  clear hrA hrB hY hJ hAB hsA hsB
  have x0 : ∀ w : World, (Instr.index 126 (.agg #[.slice (some ⟨gA, 0, none⟩) na na, .slice AB nb nb]) (.int .i64 0)).run Try.prog w = .ok (.slice (some ⟨gA, 0, none⟩) na na) w := fun _ => by kernel_rfl
  have x1 : ∀ w : World, (Instr.index 126 (.agg #[.slice (some ⟨gA, 0, none⟩) na na, .slice AB nb nb]) (.int .i64 1)).run Try.prog w = .ok (.slice AB nb nb) w := fun _ => by kernel_rfl
  refine callsIn_of_wp Try.func92 rfl trivial ?_ rfl
  simp only [Try.ntmps92, List.size_toArray, List.length_cons, List.length_nil, Nat.reduceAdd, Nat.reduceSub, Array.replicate_succ, Array.replicate_zero, List.push_toArray, List.append_toArray, List.nil_append, List.cons_append]
  gi_wp2
  gi_quiet (fail)
  gi_wp2
  gi_loopw [4, 6, 16] (fun _ _ iv wr => ∃ i : Nat, i ≤ 2 ∧ iv = .int .i64 i ∧ J (offBS na nb i) wr ∧ KpRS gA gB nb W wr) (fun _ _ iv _ => 2 - (intOf iv).toNat)
  case atStart => exact ⟨0, by omega, rfl, HJS.out _ ⟨rfl, rfl, rfl, Nat.le_refl _, fun _ _ _ => rfl⟩, rfl, fun _ => rfl⟩
  case round =>
    obtain ⟨i, hi, rfl, hJ2, hK2⟩ := hrel
    have HJ := Lib.hid hJ2
    have HK := Lib.hid hK2
    clear hJ2 hK2
    have h3 : i = 0 ∨ i = 1 ∨ i = 2 := by omega
    rcases h3 with rfl | rfl | rfl
    · rw [show ((0 : Nat) : Int) = 0 from rfl]
      gi_wp2
      gi_loopw [6, 21] (fun _ kv wr => ∃ k : Nat, k ≤ na ∧ kv = .int .i64 k ∧ J (0 + k) wr ∧ KpRS gA gB nb W wr) (fun _ kv _ => na - (intOf kv).toNat)
      case atStart => exact ⟨0, Nat.zero_le _, rfl, HJ.out, HK.out⟩
      case round =>
        obtain ⟨k, hk, rfl, hJ3, hK3⟩ := hrel
        have HJ3 := Lib.hid hJ3
        have HK3 := Lib.hid hK3
        by_cases hlt : k < na
        · have hcx : wr.cell? ⟨gA, k, none⟩ = some (sl (0 + k)) := by rw [HSA.out k hlt]; exact (World.cell?_of_block (a := ⟨gA, k, none⟩) HK3.out.1).trans ((HRA.out).cell hlt)
          obtain ⟨fn, tmps, assign, body, hy, hR⟩ := HY.out (0 + k) wr (by omega) HJ3.out
          obtain ⟨bx, hbx⟩ : ∃ b, sl (0 + k) = b := ⟨_, rfl⟩
          rw [hbx] at hcx hy
          clear hJ3 hK3 hbx
          gi_wp2
          refine hR.mono ?_
          rintro e W4 (⟨rfl, hJ4, hk4⟩ | ⟨rfl, hJx4⟩)
          · have HJ4 : Hid (J (0 + (k + 1)) W4) := by unfold Hid; rw [show 0 + (k + 1) = 0 + k + 1 from by omega]; exact hJ4
            have HK4 := Lib.hid (HK3.out.t hk4)
            clear hJ4 hk4
            gi_wp2
            go_roundw
            case rel => exact ⟨k + 1, by omega, by go_num, HJ4.out, HK4.out⟩
            case measure => simp only [intOf]; omega
          · have HJX := Lib.hid hJx4
            clear hJx4
            gi_wp2
            refine bodyPost_ret (results_none rfl _ _ _) rfl ?_
            exact ⟨⟨_, rfl⟩, .inr ⟨_, by omega, HJX.out⟩⟩
        · obtain rfl : k = na := by omega
          clear hJ3 hK3 hk
          gi_wp2
          go_roundw
          case rel => exact ⟨1, by omega, by first | rfl | go_num, by first | exact HJ3.out | (have q := HJ3.out; simpa [offBS] using q), HK3.out⟩
          case measure => simp only [intOf]; omega
    · rw [show ((1 : Nat) : Int) = 1 from rfl]
      gi_wp2
      gi_loopw [6, 21] (fun _ kv wr => ∃ k : Nat, k ≤ nb ∧ kv = .int .i64 k ∧ J (na + k) wr ∧ KpRS gA gB nb W wr) (fun _ kv _ => nb - (intOf kv).toNat)
      case atStart => exact ⟨0, Nat.zero_le _, rfl, HJ.out, HK.out⟩
      case round =>
        obtain ⟨k, hk, rfl, hJ3, hK3⟩ := hrel
        have HJ3 := Lib.hid hJ3
        have HK3 := Lib.hid hK3
        by_cases hlt : k < nb
        · obtain rfl := HAB.out (by omega)
          have hcx : wr.cell? ⟨gB, k, none⟩ = some (sl (na + k)) := by rw [HSB.out k hlt]; exact (World.cell?_of_block (a := ⟨gB, k, none⟩) (HK3.out.2 (by omega))).trans ((HRB.out (by omega)).cell hlt)
          obtain ⟨fn, tmps, assign, body, hy, hR⟩ := HY.out (na + k) wr (by omega) HJ3.out
          obtain ⟨bx, hbx⟩ : ∃ b, sl (na + k) = b := ⟨_, rfl⟩
          rw [hbx] at hcx hy
          clear hJ3 hK3 hbx
          gi_wp2
          refine hR.mono ?_
          rintro e W4 (⟨rfl, hJ4, hk4⟩ | ⟨rfl, hJx4⟩)
          · have HJ4 : Hid (J (na + (k + 1)) W4) := by unfold Hid; rw [show na + (k + 1) = na + k + 1 from by omega]; exact hJ4
            have HK4 := Lib.hid (HK3.out.t hk4)
            clear hJ4 hk4
            gi_wp2
            go_roundw
            case rel => exact ⟨k + 1, by omega, by go_num, HJ4.out, HK4.out⟩
            case measure => simp only [intOf]; omega
          · have HJX := Lib.hid hJx4
            clear hJx4
            gi_wp2
            refine bodyPost_ret (results_none rfl _ _ _) rfl ?_
            exact ⟨⟨_, rfl⟩, .inr ⟨_, by omega, HJX.out⟩⟩
        · obtain rfl : k = nb := by omega
          clear hJ3 hK3 hk
          gi_wp2
          go_roundw
          case rel => exact ⟨2, by omega, by first | rfl | go_num, by first | exact HJ3.out | (have q := HJ3.out; simpa [offBS] using q), HK3.out⟩
          case measure => simp only [intOf]; omega
    · rw [show ((2 : Nat) : Int) = 2 from rfl]
      gi_wp2
      go_end0
      exact ⟨⟨_, rfl⟩, .inl HJ.out⟩

/-- A table of texts; its second row, when it has none, need not be nil. -/
def P2 (w : World) (base : Nat) (ow : Own) (Q seed : Nat) (t : Tb (List UInt8)) (gA : Nat) (sA : Nat → Value) (gB : Nat) (sB : Nat → Value) (AB : Option Addr) : Prop :=
  TbOn KS w base ow Q 86 6 (pHdr Q seed t.n t.moved (.slice (some ⟨gA, 0, none⟩) t.A.length t.A.length) (.slice AB t.B.length t.B.length)) t.A gA sA t.B gB sB ∧ (0 < t.B.length → AB = some ⟨gB, 0, none⟩)

theorem P2.below {w w' : World} {base Q seed : Nat} {ow : Own} {t : Tb (List UInt8)} {gA gB : Nat} {sA sB : Nat → Value} {AB : Option Addr} (h : P2 w base ow Q seed t gA sA gB sB AB) (hb : Below w.heap.size w w') : P2 w' base ow Q seed t gA sA gB sB AB := ⟨TbOn.below h.1 hb, h.2⟩
theorem P2.beside {w w' : World} {base Q seed : Nat} {ow o2 o2' : Own} {t : Tb (List UInt8)} {gA gB : Nat} {sA sB : Nat → Value} {AB : Option Addr} (h : P2 w base ow Q seed t gA sA gB sB AB) (ht : Turns o2 o2' w w') (hd : ∀ k, ow k ≠ none → o2 k = none) : P2 w' base ow Q seed t gA sA gB sB AB := ⟨TbOn.beside h.1 ht hd, h.2⟩

set_option maxRecDepth 100000 in
set_option maxHeartbeats 8000000 in
theorem buckets2S_stops {base Q seed : Nat} {ow : Own} {t : Tb (List UInt8)} {gA gB : Nat} {sA sB : Nat → Value} {AB : Option Addr} (n : Nat) (hn : 1 ≤ n) (Bn : Nat) (w : World) (hp : P2 w base ow Q seed t gA sA gB sB AB) (hpos : 0 < t.A.length) (hA : t.A.length ≤ 1000000) (hB : t.B.length ≤ 1000000)
    (hBn : w.cell? ⟨Bn, 0, none⟩ = some (.pointer (some ⟨Q, 0, none⟩))) {α : Type} (bv : α → Value) (XS : List α) (hXS : XS.map bv = (List.range t.A.length).map sA ++ (List.range t.B.length).map sB) :
    SeqStopsK Fence.wide n Try.prog 92 #[.pointer (some ⟨Bn, 0, none⟩)] (fun x : α => #[bv x]) (KpRS gA gB t.B.length) (fun ys => ys = XS) (fun pre => pre <+: XS) XS.length w := fun l J Jx W hW hJ _ hY h0 => by
  have hp' := P2.below hp hW
  have hlen : XS.length = t.A.length + t.B.length := by
    have := congrArg List.length hXS
    simpa using this
  have hsl : ∀ (p : Nat) (u : Value), ((List.range t.A.length).map sA ++ (List.range t.B.length).map sB)[p]? = some u → (if p < t.A.length then sA p else sB (p - t.A.length)) = u := fun p u hu => by
    by_cases e : p < t.A.length
    · rw [if_pos e]
      rw [(rows_atS _ _ sA sB).1 p e] at hu
      injection hu
    · rw [if_neg e]
      have hl := (List.getElem?_eq_some_iff.1 hu).1
      simp only [List.length_append, List.length_map, List.length_range] at hl
      have q := (rows_atS t.A.length t.B.length sA sB).2 (p - t.A.length) (by omega)
      rw [show t.A.length + (p - t.A.length) = p from by omega, hu] at q
      injection q with q
      exact q.symm
  refine (buckets2S_in n hn l Bn Q t.A.length t.B.length gA gB AB hp'.2 KS.tb KS.tb sA sB (fun p => if p < t.A.length then sA p else sB (p - t.A.length)) (fun k hk => by rw [Nat.zero_add, if_pos hk]) (fun k hk => by rw [if_neg (by omega), Nat.add_sub_cancel_left]) hA hB (fun p => J (XS.take p)) (fun p => Jx (XS.take p)) ?_ W ((hW.cell (p := ⟨Bn, 0, none⟩) (World.block_lt_of_cell? w _ hBn)).trans hBn) (hp'.1.hd.cell (by omega)) (hp'.1.hd.cell (by omega)) (hp'.1.a.row hpos) (fun q => hp'.1.b.row q) (fun X hX => hJ _ _ _ none h0 hX (fun r e => by cases e))).mono ?_
  · intro p W1 hp hJ1
    obtain ⟨u, hu⟩ : ∃ u, ((List.range t.A.length).map sA ++ (List.range t.B.length).map sB)[p]? = some u := ⟨_, List.getElem?_eq_getElem (by simp only [List.length_append, List.length_map, List.length_range]; exact hp)⟩
    obtain ⟨x, hx, ht, hl⟩ := take_getS (j := p) bv XS _ hXS hu
    have hy := hY (XS.take p) x W1 hJ1 (by rw [List.length_take]; omega)
    rw [hsl p u hu, ← hx, ht]
    exact hy
  · rintro e W' ⟨hv, h | ⟨p, _, h⟩⟩
    · exact ⟨hv, .inl ⟨_, rfl, by rw [List.take_of_length_le (by omega)] at h; exact h⟩⟩
    · exact ⟨hv, .inr ⟨_, List.take_prefix _ _, h⟩⟩

set_option maxRecDepth 100000 in
set_option maxHeartbeats 16000000 in
theorem pairs2S_any {base Q seed m : Nat} {ow : Own} {t : Tb (List UInt8)} {gA gB : Nat} {sA sB : Nat → Value} {AB : Option Addr} (w : World) (h : P2 w base ow Q seed t gA sA gB sB AB) (hg : Fit m t) (hm : m ≤ 50000) (hks : KeysT (fun k => k.length ≤ 1000) t) :
    Calls Try.prog 58 #[.pointer (some ⟨Q, 0, none⟩)] w fun e w' => ∃ v, e = .returned v ∧ w'.ownsRow w.heap.size 90 2 v (allT t).length (encIt KS.enc (allT t)) ∧ Below w.heap.size w w' := by
  have hpos := hg.pos
  have hA := hg.a
  have hB := hg.b
  have hn := hg.n
  have c0 : w.cell? ⟨Q, 0, none⟩ = some (.pointer (some ⟨Q, 0, none⟩)) := h.1.hd.cell (by omega)
  have c2 : w.cell? ⟨Q, 2, none⟩ = some (.int .i64 t.n) := h.1.hd.cell (by omega)
  have HM := Lib.hid (isMadeS_any Q w c0)
  have hQ := World.block_lt_of_cell? w _ c0
  obtain ⟨XA, ha1, ha2⟩ := bksS h.1.a (fun i l hl => by have := hg.bktA hl; omega) hks.1
  obtain ⟨XB, hb1, hb2⟩ := bksS h.1.b (fun i l hl => by have := hg.bktB hl; omega) hks.2
  have HXS : Hid ((XA ++ XB).map (fun x => x.1.1) = (List.range t.A.length).map sA ++ (List.range t.B.length).map sB) := by unfold Hid; rw [List.map_append, ha1, hb1]
  have HFL : Hid (((XA ++ XB).map (fun x => x.1.2)).flatten = allT t) := by unfold Hid allT; rw [List.map_append, ha2, hb2, List.flatten_append]
  obtain ⟨XS, hXS⟩ : ∃ XS, XA ++ XB = XS := ⟨_, rfl⟩
  rw [hXS] at HXS HFL
  have HLN := Lib.hid (all_length hg.ct)
  have HGA := Lib.hid (h.1.a.row hpos).lt
  have HGB := Lib.hid (fun (q : 0 < t.B.length) => (h.1.b.row q).lt)
  have HLA := Lib.hid (show t.A.length ≤ 200008 from by omega)
  have HLB := Lib.hid (show t.B.length ≤ 200008 from by omega)
  have HP := Lib.hid h
  have HST := Lib.hid (fun (Bn : Nat) (W : World) (hW : Below w.heap.size w W) (hBn : W.cell? ⟨Bn, 0, none⟩ = some (.pointer (some ⟨Q, 0, none⟩))) => buckets2S_stops 9 (by omega) Bn W (P2.below h hW) hpos (by omega) (by omega) hBn (fun x => x.1.1) XS HXS.out)
  obtain ⟨ip, hip, hyp⟩ := Option.map_eq_some_iff.1 info_pairS
  simp only [Prod.mk.injEq] at hyp
  have HIP := Lib.hid hyp
  obtain ⟨tn, htn⟩ : ∃ n, t.n = n := ⟨_, rfl⟩
  rw [htn] at c2 HLN hn
  clear h hg hks ha1 ha2 hb1 hb2 hXS hyp htn hpos hA hB
  refine (callsIn_wide (n := 10)).1 ?_
  refine callsIn_of_wp_marks Try.func58 rfl trivial ?_ rfl
  simp only [Try.ntmps58, List.size_toArray, List.length_cons, List.length_nil, Nat.reduceAdd, Nat.reduceSub, Array.replicate_succ, Array.replicate_zero, List.push_toArray, List.append_toArray, List.nil_append, List.cons_append]
  gi_wp2_with (first | (refine ⟨trivial, ?_⟩; gi_at_call 56; refine (callsIn_wide.2 HM.out).mono ?_; rintro e w' ⟨rfl, rfl⟩) | (gi_at_make; refine wpListIn_make_own _ rfl _ _ 87 rfl w'.heap.size 90 ip _ 2 Try.underlying87 hip HIP.out.1 HIP.out.2.1 .i64 .i64 tn tn rfl rfl rfl (by rw [HIP.out.2.2]; omega) (by unfold maxLen; omega) (Nat.le_refl _) ?_; intro w1 hown1 hgr1) | (refine ⟨trivial, ?_⟩; gi_at_call 83; refine (bucketsMkS_any Q _).mono ?_; rintro e w2 ⟨rfl, rfl⟩))
  have HP2 := Lib.hid (HP.out)
  obtain ⟨B, hBe⟩ : ∃ B, w1.heap.size = B := ⟨_, rfl⟩
  have hn0 : w'.heap.size ≤ B := by rw [← hBe]; exact hgr1.size
  have hbx := Boxed.new w1 87 (.slice (some ⟨w'.heap.size, 0, none⟩) 0 tn)
  rw [hBe] at hbx ⊢
  obtain ⟨wA, hwA⟩ : ∃ wA, w1.alloc (.cells #[.slice (some ⟨w'.heap.size, 0, none⟩) 0 tn] 87) = wA := ⟨_, rfl⟩
  have hown2 := hown1.alloc (.cells #[.slice (some ⟨w'.heap.size, 0, none⟩) 0 tn] 87)
  have hbA : Below w'.heap.size w' wA := by rw [← hwA]; exact ((Below.refl _ _).grown hgr1 (Nat.le_refl _) (fun k e => by cases e)).alloc (by have := hgr1.size; omega) _
  rw [hwA] at hbx hown2 ⊢
  have hszA : wA.heap.size = B + 1 := by rw [← hwA, ← hBe]; simp
  obtain ⟨wB, hwB⟩ : ∃ wB, wA.alloc (.cells #[.pointer (some ⟨Q, 0, none⟩)] 46) = wB := ⟨_, rfl⟩
  have hbn : wB.cell? ⟨B + 1, 0, none⟩ = some (.pointer (some ⟨Q, 0, none⟩)) := by rw [← hwB, ← hszA]; exact World.news_of_block (heap_alloc_new wA _) 0 _ rfl
  have hbx2 := hbx.alloc (.cells #[.pointer (some ⟨Q, 0, none⟩)] 46)
  have hown3 := hown2.alloc (.cells #[.pointer (some ⟨Q, 0, none⟩)] 46)
  have hbB : Below w'.heap.size w' wB := by rw [← hwB]; exact hbA.alloc hbA.size _
  rw [hwB] at hbx2 hown3 ⊢
  have hszB : wB.heap.size = B + 2 := by rw [← hwB]; simp [hszA]
  have HXL : Hid (XS.length ≤ 400016) := by
    unfold Hid
    have := congrArg List.length HXS.out
    simp only [List.length_map, List.length_append, List.length_range] at this
    have := HLA.out
    have := HLB.out
    omega
  clear hwA hwB hbx hown1 hown2 hbA hgr1 hBe
  refine wpIn_rangeFunc_ownF rfl (by omega) (gf := 92) (lb := #[.pointer (some ⟨B + 1, 0, none⟩)]) rfl trivial (enters_of Try.func92 (by kernel_rfl) rfl)
    (HST.out (B + 1) wB hbB hbn) (fun h k => h.t k) (fun W l o o' hl h ho _ => KpRS.of_below (n := w'.heap.size) ((Below.refl _ W).grown (grownBy_putObj' W l o') (by have := (Array.getElem?_eq_some_iff.1 h).1; omega) (fun k e => by cases e; omega)) HGA.out HGB.out) (Below.refl _ _) (fun _ => rfl)
    (fun pre W => (∃ v, Boxed W B 87 v ∧ W.ownsRow w'.heap.size 90 2 v ((pre.map (fun x => x.1.2)).flatten).length (encIt KS.enc ((pre.map (fun x => x.1.2)).flatten)) ∧ True) ∧ Below w'.heap.size w' W)
    (fun _ _ _ => False)
    (OwnFrom.and (Own.from (holdsRow_own w'.heap.size B 87 90 2 (fun pre => ((List.map (fun (x : BkS w' base) => x.1.2) pre).flatten).length) (fun pre => encIt KS.enc ((List.map (fun (x : BkS w' base) => x.1.2) pre).flatten)) (fun _ _ => True)) _) (ownFrom_below (Nat.le_refl _) (by omega)))
    (fun _ _ _ _ _ hs _ _ => hs)
    ⟨⟨_, hbx2, hown3, trivial⟩, hbB⟩
    (fun x => { tmps := #[.pointer (some ⟨Q, 0, none⟩), undef, .slice none 0 0, .pointer (some ⟨B, 0, none⟩), x.1.1, .pointer (some ⟨Q, 0, none⟩), .bool true, .bool false, .pointer (some ⟨Q, 0, none⟩), .pointer (some ⟨Q, 0, none⟩), .pointer (some ⟨Q, 2, none⟩), .int .i64 tn, .slice (some ⟨w'.heap.size, 0, none⟩) 0 tn, .pointer (some ⟨Q, 0, none⟩), .func (.func 92) #[] #[.pointer (some ⟨B + 1, 0, none⟩)], x.1.1, undef, undef, undef, undef], defers := [] }) ?assign ?body ?done ?stop
  case assign =>
    intro l x W K hK
    gi_wp2
    exact hK
  case body =>
    rintro l pre x W ⟨⟨v, hv, hrow, -⟩, hB⟩ hlt
    have hown := ownsRow_of_block x.2.1 (fun b hb => hB.block b (x.2.1.lt b hb).2)
    obtain ⟨A, c, hx, hA0, hnews⟩ : ∃ A c, x.1.1 = .slice A x.1.2.length c ∧ (A = none → x.1.2.length = 0 ∧ c = 0) ∧ (∀ ad, A = some ad → ∀ j u, (encIt KS.enc x.1.2)[j]? = some u → W.cell? (ad.add j) = some u) := by
      rcases x.2.1.2 with ⟨q1, q2⟩ | ⟨g, cap, cur, q, _⟩
      · exact ⟨none, 0, by rw [q1, q2], fun _ => ⟨q2, rfl⟩, fun ad e => by cases e⟩
      · exact ⟨some ⟨g, 0, none⟩, cap, q, (fun e => by cases e), (fun ad e => by injection e with e; subst e; exact hown.cells (g := g) (by rw [q]; rfl))⟩
    have hfb := flat_boundS pre
    have hx2 := x.2.2.1
    have hcell := hv.cell
    have hfz := hv.frozen
    obtain ⟨k, hk⟩ : ∃ k, x.1.2.length = k := ⟨_, rfl⟩
    obtain ⟨f, hf⟩ : ∃ f, ((pre.map (fun x => x.1.2)).flatten).length = f := ⟨_, rfl⟩
    have HK := Lib.hid hk
    have HF := Lib.hid hf
    rw [hk] at hx hA0 hx2
    rw [hf] at hfb hrow
    have hlt2 : pre.length < 400016 := by have := HXL.out; omega
    have HROW := Lib.hid hrow
    have HX := Lib.hid hx
    rw [hx]
    clear hk hf hx
    gi_wp2_with (gi_at_builtin; refine wpListIn_append_own2 rfl _ _ _ _ rfl w'.heap.size 90 90 ip _ 2 32 Try.underlying87 Try.underlying101 hip HIP.out.1 HIP.out.2.1 HIP.out.2.2 rfl (by omega) v f _ rfl HROW.out A k c (encIt KS.enc x.1.2) rfl (by rw [encIt_length, HK.out]) hA0 hnews (encIt_mem KS.enc (fun _ => rfl) _) (by unfold maxLen; omega) (by omega) hB.size ?_; intro v' w5 hown5 hgr5 hor5; obtain ⟨A5, c5, rfl⟩ := own_sliceS hown5; have hv5 := hv.kept hgr5 (hv.not_row (by decide) HROW.out); have hc5 := hv5.cell; have hf5 := hv5.frozen)
    have hbB := (World.block_lt_of_cell? W _ hcell)
    have hvn : ∀ b, v.ownBlock = some b → b ≠ B := fun b hb e => hv.not_row (by decide) HROW.out (by rw [← e, hb])
    have hge : ∀ b, v.ownBlock = some b → w'.heap.size ≤ b := fun b hb => (HROW.out.lt b hb).1
    have hcl : ∀ (j : Nat) (o : Obj), v.ownBlock = some j → W.heap[j]? = some o → o.isCells = true := fun j o hj ho => by
      rcases HROW.out.2 with ⟨q1, _⟩ | ⟨g, cap, cur, q, _, hg, _⟩
      · rw [q1] at hj; cases hj
      · rw [q] at hj
        injection hj with hj
        subst hj
        rw [hg] at ho
        injection ho with ho
        rw [← ho]; rfl
    have hB5 : Below w'.heap.size W (w5.setCell ⟨B, 0, none⟩ (.slice A5 (f + k) c5)) := ((Below.refl _ _).grown hgr5 hB.size (fun j e => hge j e)).setCell (p := ⟨B, 0, none⟩) hn0 _
    refine ⟨(KeepsOthers.of_grownBy hgr5 (fun j o hj ho => hcl j o hj ho)).trans (KeepsOthers.setCell _ _ _), KpRS.of_below hB5 HGA.out HGB.out, ⟨_, hv5.set _, ?_, trivial⟩, hB.trans hB5⟩
    rw [List.map_append, List.flatten_append, List.length_append, HF.out, show (List.map (fun (x : BkS w' base) => x.1.2) [x]).flatten = x.1.2 from by simp, HK.out, encIt_app]
    refine ownsRow_of_block hown5 fun b hb => Below.heap_setCell _ _ _ _ ?_
    rcases hor5 with q | q
    · exact hvn b (q.symm.trans hb)
    · rw [q] at hb
      injection hb with hb
      show b ≠ B
      have hbB' : B < W.heap.size := hbB
      omega
  case done =>
    rintro D ys W hD rfl ⟨⟨v, hv, hrow, -⟩, hB⟩ hK
    have hcell := hv.cell
    gi_wp2
    refine ⟨by simp, .inl ⟨_, _, rfl, run_takeDeferred hK, ?_⟩⟩
    refine ⟨_, results_tmp rfl _ _ _, v, rfl, ?_, hB.trans (belowK_b (w := w') (Nat.le_refl _) W D _ _ (by omega) hK rfl rfl)⟩
    have q := ownsRow_putObj hrow (.deferred none) hK rfl
    rw [HFL.out] at q
    exact q
  case stop =>
    rintro D c pre W _ _ h _
    exact h.elim


set_option maxRecDepth 100000 in
set_option maxHeartbeats 8000000 in
theorem len2S_any {base Q seed : Nat} {ow : Own} {t : Tb (List UInt8)} {gA gB : Nat} {sA sB : Nat → Value} {AB : Option Addr} (w : World) (h : P2 w base ow Q seed t gA sA gB sB AB) :
    Calls Try.prog 24 #[.pointer (some ⟨Q, 0, none⟩)] w fun e w' => e = .returned (.int .i64 t.n) ∧ Below w.heap.size w w' := by
  have c0 : w.cell? ⟨Q, 0, none⟩ = some (.pointer (some ⟨Q, 0, none⟩)) := h.1.hd.cell (by omega)
  have c2 : w.cell? ⟨Q, 2, none⟩ = some (.int .i64 t.n) := h.1.hd.cell (by omega)
  have HM := Lib.hid (isMadeS_any Q w c0)
  clear h c0
  go_enter Try.func24, Try.ntmps24
  go_wp2_with fail
  refine HM.out.mono ?_
  rintro e w1 ⟨rfl, rfl⟩
  go_wp2
  go_ret
  exact ⟨rfl, Below.refl _ _⟩

set_option maxRecDepth 100000 in
set_option maxHeartbeats 8000000 in
theorem sizes2S_any {base Q seed : Nat} {ow : Own} {t : Tb (List UInt8)} {gA gB : Nat} {sA sB : Nat → Value} {AB : Option Addr} (w : World) (h : P2 w base ow Q seed t gA sA gB sB AB) :
    Calls Try.prog 27 #[.pointer (some ⟨Q, 0, none⟩)] w fun e w' => e = .returned (.tuple #[.int .i64 t.A.length, .int .i64 t.B.length, .int .i64 t.moved]) ∧ Below w.heap.size w w' := by
  have c0 : w.cell? ⟨Q, 0, none⟩ = some (.pointer (some ⟨Q, 0, none⟩)) := h.1.hd.cell (by omega)
  have c3 : w.cell? ⟨Q, 3, none⟩ = some (.slice (some ⟨gA, 0, none⟩) t.A.length t.A.length) := h.1.hd.cell (by omega)
  have c4 : w.cell? ⟨Q, 4, none⟩ = some (.slice AB t.B.length t.B.length) := h.1.hd.cell (by omega)
  have c5 : w.cell? ⟨Q, 5, none⟩ = some (.int .i64 t.moved) := h.1.hd.cell (by omega)
  have HM := Lib.hid (isMadeS_any Q w c0)
  obtain ⟨nb, hnb⟩ : ∃ n, t.B.length = n := ⟨_, rfl⟩
  obtain ⟨na, hna⟩ : ∃ n, t.A.length = n := ⟨_, rfl⟩
  rw [hnb] at c4 ⊢
  rw [hna] at c3 ⊢
  clear h c0 hnb hna
  go_enter Try.func27, Try.ntmps27
  go_wp2_with fail
  refine HM.out.mono ?_
  rintro e w1 ⟨rfl, rfl⟩
  go_wp2_with fail
  go_quiet (fail)
  try go_wp2
  exact bodyPost_ret (v := .tuple #[.int .i64 na, .int .i64 nb, .int .i64 t.moved]) (by simp [results, Try.results27, go_sem]) rfl ⟨rfl, ⟨rfl, rfl, rfl, Nat.le_refl _, fun _ _ => rfl⟩⟩

end Go.Proofs.Ytcjoakbaldeaoaa
