/-
  Package table (values: string): the walk of move. Conditions: the table lies in memory as it reads, and keeps what tables keep.
-/
import Derived.Test.YtcjoakbaldeaoaaGTfS
import Derived.Deep.AppendLies
import Derived.Deep.RegionLaw
import Derived.BigRegion
namespace Go.Proofs.Ytcjoakbaldeaoaa
open Go.RowKit

set_option maxRecDepth 100000 in
set_option maxHeartbeats 8000000 in
theorem info_pairS : (Try.prog.info? 90).map (fun i => (i.zero, i.size, i.bytes)) = some (some (.agg #[.string ⟨#[]⟩, .string ⟨#[]⟩]), 2, 32) := by kernel_rfl

set_option maxRecDepth 100000 in
set_option maxHeartbeats 8000000 in
theorem moveS_any {base Q seed m : Nat} {ow : Own} {t : Tb (List UInt8)} {gA gB : Nat} {sA sB : Nat → Value} (hs : seed < 18446744073709551616) (w : World) (h : PT KS w base ow Q 86 seed t gA sA gB sB) (hg : Good (hashT seed) m t) (hm : m ≤ 100000) (hk63 : ∀ x ∈ t.A.flatten, x.1.length ≤ 9223372036854775807) :
    Calls Try.prog 61 #[.pointer (some ⟨Q, 0, none⟩)] w fun e w' => e = .returned (.tuple #[]) ∧ ∃ ow' gA' sA' gB' sB', PT KS w' base ow' Q 86 seed (stepT (hashT seed) t) gA' sA' gB' sB' ∧ Turns ow ow' w w' := by
  have hpos := hg.kept.pos
  have hna := hg.a
  have hnb := hg.b
  have c4 : w.cell? ⟨Q, 4, none⟩ = some (rowV gB t.B.length) := h.hd.cell (by omega)
  have HMV := Lib.hid (movesS_any Q t.B.length gB w c4)
  by_cases hB : t.B.length = 0
  · rw [stepT_none hB]
    rw [hB, show decide (0 < 0) = false from rfl] at HMV
    have HP := Lib.hid h
    clear h hg hm hk63 hpos hna hnb hB c4
    go_enter Try.func61, Try.ntmps61
    go_wp2_with fail
    refine HMV.out.mono ?_
    rintro e w1 ⟨rfl, rfl⟩
    go_wp2
    exact bodyPost_ret (v := .tuple #[]) (by simp [results, Try.results61, go_sem]) rfl ⟨rfl, ow, gA, sA, gB, sB, HP.out, Turns.refl _ _⟩
  · have hBp : 0 < t.B.length := Nat.pos_of_ne_zero hB
    rw [decide_eq_true hBp] at HMV
    have hmv := hg.kept.mv hB
    obtain ⟨l, hl⟩ : ∃ l, t.A.getD t.moved [] = l := ⟨_, rfl⟩
    have hl' : t.A[t.moved]? = some l := by rw [← hl]; exact getD_lt hmv
    have hlm := hg.bktA hl'
    have hbk := h.a.bkt _ _ hl'
    obtain ⟨Ab, cb, hsl⟩ : ∃ A c, sA t.moved = .slice A l.length c := by
      rcases hbk.2 with ⟨h1, h2⟩ | ⟨g, cap, cur, hv, _⟩
      · exact ⟨none, 0, by rw [h1, h2]⟩
      · exact ⟨_, _, hv⟩
    have hcell := (h.a.row hpos).cell hmv
    have c3 : w.cell? ⟨Q, 3, none⟩ = some (rowV gA t.A.length) := h.hd.cell (by omega)
    have c5 : w.cell? ⟨Q, 5, none⟩ = some (.int .i64 t.moved) := h.hd.cell (by omega)
    rw [rowV_pos hpos] at c3
    rw [hsl] at hcell
    have HTB := Lib.hid (show TbOn KS w base ow Q 86 6 (pHdr Q seed t.n t.moved (rowV gA t.A.length) (rowV gB t.B.length)) t.A gA sA t.B gB sB from h)
    have HL := Lib.hid hl'
    have HSL := Lib.hid hsl
    have hkl : Hid (∀ x ∈ l, x.1.length ≤ 9223372036854775807) := fun x hx => hk63 x (List.mem_flatten.2 ⟨l, List.mem_of_getElem? hl', hx⟩)
    obtain ⟨na, hnae⟩ : ∃ n, t.A.length = n := ⟨_, rfl⟩
    obtain ⟨nb, hnbe⟩ : ∃ n, t.B.length = n := ⟨_, rfl⟩
    obtain ⟨mv, hmve⟩ : ∃ n, t.moved = n := ⟨_, rfl⟩
    obtain ⟨n, hne⟩ : ∃ n, l.length = n := ⟨_, rfl⟩
    have HNA := Lib.hid hnae
    have HNB := Lib.hid hnbe
    have HMVE := Lib.hid hmve
    have HN := Lib.hid hne
    have HLD := Lib.hid hl
    have HG := Lib.hid hg
    rw [hne] at hcell hlm
    rw [hmve] at c5 hcell
    rw [hnae] at c3
    rw [hmve, hnae] at hmv
    rw [hnae] at hna hpos
    rw [hnbe] at hnb hBp
    have HQB := Lib.hid (h.gbQ (by rw [hnbe]; exact hBp))
    have HQA := Lib.hid (h.gaQ (by rw [hnae]; exact hpos))
    obtain ⟨ip, hip, hyp⟩ := Option.map_eq_some_iff.1 info_pairS
    simp only [Prod.mk.injEq] at hyp
    obtain ⟨hp0, hp1, hp2⟩ := hyp
    clear h hg hk63 c4 hB hl hl' hbk hsl hnae hnbe hmve hne
    go_enter Try.func61, Try.ntmps61
    go_wp2_with fail
    refine HMV.out.mono ?_
    rintro e w1 ⟨rfl, rfl⟩
    go_wp2_with fail
    go_quiet (fail)
    clear c3 c5 hcell
    go_wp2
    go_loopw [3, 4, 19] (fun _ _ iv wr => ∃ (i : Nat) (ow' : Own) (sB' : Nat → Value), iv = .int .i64 i ∧ i ≤ n ∧ TbOn KS wr base ow' Q 86 6 (pHdr Q seed t.n t.moved (rowV gA t.A.length) (rowV gB t.B.length)) t.A gA sA (spread (hashT seed) t.B (l.take i)) gB sB' ∧ Turns ow ow' w1 wr) (fun _ _ iv _ => n - (intOf iv).toNat)
    case atStart => exact ⟨0, ow, sB, rfl, by omega, HTB.out.below (bdN _ _ _), Turns.of_below ow (bdN _ _ _)⟩
    case round =>
      obtain ⟨i, ow', sB', rfl, hi, hT, hturn⟩ := hrel
      have HT := Lib.hid hT
      have HTU := Lib.hid hturn
      clear hT hturn
      by_cases hlt : i < n
      · obtain ⟨x, hx⟩ : ∃ x, l[i]? = some x := ⟨_, List.getElem?_eq_getElem (by rw [HN.out]; exact hlt)⟩
        obtain ⟨b, cc, e1, _, hcc, hbl, k0, k1⟩ := TbOn.itemS HT.out HL.out hx
        rw [HSL.out] at e1
        injection e1 with e1 e2 e3
        subst e1
        have HX := Lib.hid hx
        obtain ⟨S, hS⟩ : ∃ S : ByteArray, ⟨x.1.toArray⟩ = S := ⟨_, rfl⟩
        have HSX : Hid (S.data.toList = x.1) := by unfold Hid; rw [← hS]
        have hS63 : S.size ≤ 9223372036854775807 := by
          have := hkl.out x (List.mem_of_getElem? hx)
          rw [← HSX.out, Array.length_toList] at this
          exact this
        rw [hS] at k0
        replace k1 : wr.cell? ⟨b, i * 2 + 1, none⟩ = some (Value.string ⟨x.2.toArray⟩) := k1
        have HSE := Lib.hid hS
        clear hS hx e2 e3
        obtain ⟨H, hH⟩ : ∃ H, hashT seed x.1 = H := ⟨_, rfl⟩
        have hH64 : H < 18446744073709551616 := by rw [← hH]; exact hashT_lt hs _
        obtain ⟨r, hr⟩ : ∃ r, H % nb = r := ⟨_, rfl⟩
        have hrn : r < nb := by rw [← hr]; exact Nat.mod_lt _ hBp
        obtain ⟨RB, hRB⟩ : ∃ RB, spread (hashT seed) t.B (l.take i) = RB := ⟨_, rfl⟩
        have hRBl : RB.length = nb := by rw [← hRB, spread_length, HNB.out]
        obtain ⟨lr, hlr⟩ : ∃ lr, RB.getD r [] = lr := ⟨_, rfl⟩
        have HRI : Hid (RB[r]? = some lr) := by unfold Hid; rw [← hlr]; exact getD_lt (by omega)
        have HSP : Hid (spread (hashT seed) t.B (l.take (i + 1)) = RB.set r (lr ++ [x])) := by
          unfold Hid
          rw [spread_one (by rw [HNB.out]; exact hBp) HX.out, hRB, HNB.out, hH, hr, hlr]
        have hlrm : lr.length ≤ 400000 := by
          have q1 : t.B[r]? = some (t.B.getD r []) := getD_lt (by rw [HNB.out]; exact hrn)
          have q2 := HG.out.bktB q1
          have q3 := HRI.out
          rw [← hRB, spread_get, q1] at q3
          injection q3 with q3
          rw [← q3, List.length_append]
          have q4 := List.length_filter_le (fun y => decide (hashT seed y.1 % t.B.length = r)) (l.take i)
          rw [List.length_take, HN.out] at q4
          omega
        rw [hRB] at HT
        have HRBL := Lib.hid hRBl
        have HHR := Lib.hid hH
        have hsz := HT.out.b.row (by rw [hRBl]; exact hBp)
        clear hH hRB hRBl hlr hsz
        go_wp2_with fail
        obtain ⟨w2, hw2⟩ : ∃ w2, wr.alloc (.cells #[.string S, (Value.string ⟨x.2.toArray⟩)] 90) = w2 := ⟨_, rfl⟩
        rw [hw2]
        have hbA : Below wr.heap.size wr w2 := by rw [← hw2]; exact (Below.refl _ _).alloc (Nat.le_refl _) _
        have hT2 := HT.out.below hbA
        have b0 : w2.cell? ⟨wr.heap.size, 0, none⟩ = some (.string S) := by
          rw [← hw2]; exact World.news_of_block (heap_alloc_new wr _) 0 _ rfl
        have b1 : w2.cell? ⟨wr.heap.size, 1, none⟩ = some (Value.string ⟨x.2.toArray⟩) := by
          rw [← hw2]; exact World.news_of_block (heap_alloc_new wr _) 1 _ rfl
        have HTR2 := Lib.hid (HTU.out.trans (Turns.of_below ow' hbA))
        have HT2 := Lib.hid hT2
        have c1 : w2.cell? ⟨Q, 1, none⟩ = some (.int .u64 seed) := hT2.hd.cell (by omega)
        have c4 : w2.cell? ⟨Q, 4, none⟩ = some (rowV gB t.B.length) := hT2.hd.cell (by omega)
        rw [HNB.out, rowV_pos hBp] at c4
        have HH := Lib.hid (fun nq => phash_same seed hs S (w2.drewN nq) hS63)
        rw [HSX.out, HHR.out] at HH
        have HO := Lib.hid (fun nq => ofS_any gB nb H (w2.drewN nq) hBp (by omega) hH64)
        rw [hr] at HO
        obtain ⟨N0, hN0⟩ : ∃ N0, wr.heap.size = N0 := ⟨_, rfl⟩
        rw [hN0] at b0 b1 ⊢
        clear hw2 hbA hT2 hN0 k0 k1 hr
        go_quiet (first | (go_at_call 11; exact Calls.quiet_of_same (HH.out _)) | (go_at_call 87; exact Calls.quiet_of_same (HO.out _)))
        go_wp2_with fail
        obtain ⟨w3, hw3⟩ : ∃ w3, w2.drewN nq = w3 := ⟨_, rfl⟩
        have hbN : Below w2.heap.size w2 w3 := by rw [← hw3]; exact bdN w2.heap.size w2 nq
        have hT3 := HT2.out.below hbN
        have HTR3 := Lib.hid (HTR2.out.trans (Turns.of_below ow' hbN))
        clear hbN
        have d0 : w3.cell? ⟨N0, 0, none⟩ = some (.string S) := by rw [← hw3]; exact b0
        have d1 : w3.cell? ⟨N0, 1, none⟩ = some (Value.string ⟨x.2.toArray⟩) := by rw [← hw3]; exact b1
        rw [hw3]
        have HT3 := Lib.hid hT3
        have hrow := (hT3.b.row (by rw [HRBL.out]; exact hBp)).cell (i := r) (by rw [HRBL.out]; exact hrn)
        have hfr := (hT3.b.row (by rw [HRBL.out]; exact hBp)).frozen r
        have hgbl := (hT3.b.row (by rw [HRBL.out]; exact hBp)).lt
        have hown := hT3.b.bkt r lr HRI.out
        obtain ⟨Ar, cr, hAr⟩ : ∃ A c, sB' r = .slice A lr.length c := by
          rcases hown.2 with ⟨h1, h2⟩ | ⟨g, cap, cur, hv, _⟩
          · exact ⟨none, 0, by rw [h1, h2]⟩
          · exact ⟨_, _, hv⟩
        have HNBB : Hid (∀ k, (Value.slice Ar lr.length cr).ownBlock = some k → k ≠ gB) := fun k hk => hT3.symm.bA HRI.out (by rw [hAr]; exact hk)
        have HAR := Lib.hid hAr
        rw [hAr] at hrow hown
        obtain ⟨k, hk⟩ : ∃ k, lr.length = k := ⟨_, rfl⟩
        have HK := Lib.hid hk
        rw [hk] at hrow hown hlrm HNBB
        have HOW := Lib.hid hown
        have hbase : base ≤ w3.heap.size := Nat.le_of_lt (Nat.lt_of_le_of_lt (hT3.dom Q (by rw [hT3.q]; exact fun e => by cases e)).1 (hT3.dom Q (by rw [hT3.q]; exact fun e => by cases e)).2)
        have HP0 := Lib.hid hp0
        have HP1 := Lib.hid hp1
        have HP2 := Lib.hid hp2
        have qa : (w3.alloc (.cells #[.string S, (Value.string ⟨x.2.toArray⟩)] 90)).cell? ⟨gB, r, none⟩ = some (.slice Ar k cr) := (((Below.refl w3.heap.size w3).alloc (Nat.le_refl _) _).cell (p := ⟨gB, r, none⟩) hgbl).trans hrow
        have HROW := Lib.hid hrow
        have HFR := Lib.hid hfr
        clear hw3 hT3 hAr hk hown b0 b1 c1 c4 hp0 hp1 hp2 hfr
        have hz4 : (w3.alloc (.cells #[.string S, (Value.string ⟨x.2.toArray⟩)] 90)).drew.heap.size = w3.heap.size + 1 := by show (w3.alloc (.cells #[.string S, (Value.string ⟨x.2.toArray⟩)] 90)).heap.size = _; simp
        have E1 := Lib.hid (show (w3.alloc (.cells #[.string S, (Value.string ⟨x.2.toArray⟩)] 90)).drew.ownsRow base 90 2 (.slice Ar k cr) k (encIt KS.enc lr) from HOW.out.alloc (.cells #[.string S, (Value.string ⟨x.2.toArray⟩)] 90))
        have E2 := Lib.hid (show ∀ j u, [Value.string S, (Value.string ⟨x.2.toArray⟩)][j]? = some u → (w3.alloc (.cells #[.string S, (Value.string ⟨x.2.toArray⟩)] 90)).drew.cell? ((⟨w3.heap.size, 0, none⟩ : Addr).add j) = some u from World.news_of_block (cs := #[.string S, (Value.string ⟨x.2.toArray⟩)]) (t := 90) (fr := (0, 0)) (heap_alloc_new w3 _))
        have E3 := Lib.hid (show base ≤ (w3.alloc (.cells #[.string S, (Value.string ⟨x.2.toArray⟩)] 90)).drew.heap.size from by rw [hz4]; omega)
        have E4 := Lib.hid hz4
        have E5 := Lib.hid (show gB < (w3.alloc (.cells #[.string S, (Value.string ⟨x.2.toArray⟩)] 90)).drew.heap.size from by rw [hz4]; omega)
        have E6 := Lib.hid (show (w3.alloc (.cells #[.string S, (Value.string ⟨x.2.toArray⟩)] 90)).drew.cell? ⟨gB, r, none⟩ = some (.slice Ar k cr) from qa)
        have E7 := Lib.hid (show (w3.alloc (.cells #[.string S, (Value.string ⟨x.2.toArray⟩)] 90)).drew.frozen? ⟨gB, r, none⟩ = false from (((HT3.out.below ((Below.refl w3.heap.size w3).alloc (Nat.le_refl _) (.cells #[.string S, (Value.string ⟨x.2.toArray⟩)] 90))).b.row (by rw [HRBL.out]; exact hBp)).frozen r))
        have HB4 := Lib.hid (show Below w3.heap.size w3 (w3.alloc (.cells #[.string S, (Value.string ⟨x.2.toArray⟩)] 90)).drew from ((Below.refl w3.heap.size w3).alloc (Nat.le_refl _) (.cells #[.string S, (Value.string ⟨x.2.toArray⟩)] 90)).drew)
        clear hz4
        go_region_law (refine step_append_lies _ (by rfl) _ _ _ (by rfl) base 90 ip _ 2 32 Try.underlying101 hip HP0.out HP1.out HP2.out rfl (by omega) (.slice Ar k cr) k (encIt KS.enc lr) (by rfl) (by exact E1.out) ⟨w3.heap.size, 0, none⟩ 1 1 [.string S, (Value.string ⟨x.2.toArray⟩)] (by rfl) (by rfl) (by exact E2.out) (by simp [Value.oneCell']) (by omega) (by unfold maxLen; omega) (by omega) (by exact E3.out) (w3.heap.size + 1) (by exact E4.out) ?_; intro gg cg w5 hown5 hgrow hor hgg; have hz5 := hgrow.size; have hbG := hgrow.block gB (by exact E5.out) (fun e => HNBB.out gB e.symm rfl); have p3 := (World.cell?_of_block (a := ⟨gB, r, none⟩) hbG).trans E6.out; have pf := (World.frozen?_of_block (a := ⟨gB, r, none⟩) hbG).trans E7.out; have HGR := Lib.hid hgrow; have HOX := Lib.hid hown5; have HOR := Lib.hid hor; clear hgrow hbG hown5 hgg hor)
        all_goals
          have HROUND : Hid (∃ (o2 : Own) (s2 : Nat → Value), TbOn KS (w5.setCell ⟨gB, r, none⟩ (.slice (some ⟨gg, 0, none⟩) (k + 1) cg)) base o2 Q 86 6 (pHdr Q seed t.n t.moved (rowV gA t.A.length) (rowV gB t.B.length)) t.A gA sA (spread (hashT seed) t.B (l.take (i + 1))) gB s2 ∧ Turns ow o2 w1 (w5.setCell ⟨gB, r, none⟩ (.slice (some ⟨gg, 0, none⟩) (k + 1) cg))) := by
            obtain ⟨o2, h1, h2⟩ := TbOn.store (HT3.out.below HB4.out).symm (l' := lr ++ [x]) (v' := .slice (some ⟨gg, 0, none⟩) (k + 1) cg) HRI.out (by rw [HAR.out, HK.out]; exact HGR.out) (by
              rw [List.length_append, HK.out, encIt_app]
              have e : encIt KS.enc [x] = [.string S, (Value.string ⟨x.2.toArray⟩)] := by rw [← HSE.out]; rfl
              rw [e]
              exact HOX.out) (by
              rcases HOR.out with q | q
              · exact Or.inr (Or.inl (by rw [HAR.out, HK.out]; exact q.symm))
              · exact Or.inr (Or.inr ⟨gg, rfl, by rw [E4.out]; omega⟩))
            exact ⟨o2, _, by rw [HSP.out]; exact h1.symm, HTR3.out.trans ((Turns.of_below ow' HB4.out).trans h2)⟩
          clear p3 pf
          go_wp2
          go_roundw
          case rel =>
            obtain ⟨o2, s2, h1, h2⟩ := HROUND.out
            exact ⟨i + 1, o2, s2, by go_num, by omega, h1, h2⟩
          case measure => simp only [intOf]; omega
      · obtain rfl : i = n := by omega
        have hall : l.take i = l := List.take_of_length_le (by rw [HN.out]; exact Nat.le_refl _)
        rw [hall] at HT
        clear hall
        obtain ⟨RB, hRB⟩ : ∃ RB, spread (hashT seed) t.B l = RB := ⟨_, rfl⟩
        have hRBl : RB.length = nb := by rw [← hRB, spread_length, HNB.out]
        rw [hRB] at HT
        have HRBE := Lib.hid hRB
        have HRBL := Lib.hid hRBl
        clear hRB hRBl
        have c3 : wr.cell? ⟨Q, 3, none⟩ = some (rowV gA t.A.length) := HT.out.hd.cell (by omega)
        have c5 : wr.cell? ⟨Q, 5, none⟩ = some (.int .i64 t.moved) := HT.out.hd.cell (by omega)
        rw [HNA.out, rowV_pos hpos] at c3
        rw [HMVE.out] at c5
        have hrow := (HT.out.a.row (by rw [HNA.out]; exact hpos)).cell (i := mv) (by rw [HNA.out]; exact hmv)
        have hfr := (HT.out.a.row (by rw [HNA.out]; exact hpos)).frozen mv
        have HNIL := Lib.hid (fun (W : World) (hW : Below wr.heap.size wr W) => TbOn.store (HT.out.below hW) (i := mv) (l := l) (l' := []) (v' := .slice none 0 0) (w1 := W) (by rw [← HMVE.out]; exact HL.out) (World.grownBy.refl _ _) (World.ownsRow_nil _ _ _ _) (Or.inl rfl))
        obtain ⟨o7, hT7, hTu7⟩ := HNIL.out wr (Below.refl _ _)
        rw [HMVE.out, HNA.out] at hT7
        clear HNIL
        go_wp2_with fail
        go_region
        obtain ⟨w7, hw7⟩ : ∃ w7, (wr.setCell ⟨gA, mv, none⟩ (.slice none 0 0)).drew = w7 := ⟨_, rfl⟩
        rw [hw7]
        have hb7 : Below (wr.setCell ⟨gA, mv, none⟩ (.slice none 0 0)).heap.size (wr.setCell ⟨gA, mv, none⟩ (.slice none 0 0)) w7 := by rw [← hw7]; exact (Below.refl _ _).drew
        have HT7 := Lib.hid (hT7.below hb7)
        have HTU7 := Lib.hid (HTU.out.trans (hTu7.trans (Turns.of_below o7 hb7)))
        clear hw7 hb7 hT7 hTu7 c3 c5 hrow hfr
        have c5 : w7.cell? ⟨Q, 5, none⟩ = some (.int .i64 mv) := HT7.out.hd.cell (by omega)
        have f5 := HT7.out.hd.frozen 5
        obtain ⟨mv1, hmv1⟩ : ∃ q, mv + 1 = q := ⟨_, rfl⟩
        have hw : IntKind.i64.wrap ((mv : Int) + 1) = (mv1 : Int) := by rw [IntWalk.i64_in _ (by omega)]; omega
        have HM1 := Lib.hid hmv1
        clear hmv1
        go_wp2_with fail
        obtain ⟨w8, hw8⟩ : ∃ w8, w7.setCell ⟨Q, 5, none⟩ (.int .i64 mv1) = w8 := ⟨_, rfl⟩
        rw [hw8]
        have hT8 := (HT7.out.setHd 5 (.int .i64 mv1)).recap (hdr' := pHdr Q seed t.n mv1 (rowV gA na) (rowV gB t.B.length)) (fun i hi => pset5 _ _ _ _ _ _ _ _ hi)
        have hTu8 := HT7.out.turnsHd 5 (.int .i64 mv1)
        rw [hw8] at hT8 hTu8
        have HTU8 := Lib.hid (HTU7.out.trans hTu8)
        have HT8 := Lib.hid hT8
        have c3 : w8.cell? ⟨Q, 3, none⟩ = some (rowV gA na) := hT8.hd.cell (by omega)
        have c5' : w8.cell? ⟨Q, 5, none⟩ = some (.int .i64 mv1) := hT8.hd.cell (by omega)
        rw [rowV_pos hpos] at c3
        clear hw8 hT8 hTu8 c5 f5 hw
        by_cases hlast : mv1 = na
        · subst hlast
          have d3 := HT8.out.hd.frozen 3
          have d4 := HT8.out.hd.frozen 4
          have d5 := HT8.out.hd.frozen 5
          have c4 : w8.cell? ⟨Q, 4, none⟩ = some (rowV gB t.B.length) := HT8.out.hd.cell (by omega)
          rw [HNB.out, rowV_pos hBp] at c4
          have HGW := Lib.hid (fun (w' : World) (o : Own) (hP : PT KS w' base o Q 86 seed ⟨RB, [], 0, t.n⟩ gB sB' gB sB') => growS_any w' hP (by show 0 < RB.length; rw [HRBL.out]; exact hBp) (by show RB.length ≤ _; rw [HRBL.out]; omega) (by show t.n ≤ _; have := HG.out.n; omega))
          go_quiet (fail)
          go_wp2_with fail
          obtain ⟨wX, hwX⟩ : ∃ wX, w8.drewN nq = wX := ⟨_, rfl⟩
          rw [hwX]
          have hbN : Below w8.heap.size w8 wX := by rw [← hwX]; exact bdN w8.heap.size w8 nq
          have g1 := HT8.out.below hbN
          have u1 := Turns.of_below o7 hbN
          rw [rowV_pos hpos, HNB.out, rowV_pos hBp] at g1
          have g2 := g1.setHd 3 (.slice (some ⟨gB, 0, none⟩) nb nb)
          have u2 := g1.turnsHd 3 (.slice (some ⟨gB, 0, none⟩) nb nb)
          have g3 := g2.setHd 4 (.slice none 0 0)
          have u3 := g2.turnsHd 4 (.slice none 0 0)
          have g4 := g3.setHd 5 (.int .i64 0)
          have u4 := g3.turnsHd 5 (.int .i64 0)
          have hP : PT KS _ base o7 Q 86 seed ⟨RB, [], 0, t.n⟩ gB sB' gB sB' := (g4.recap (hdr' := pHdr Q seed t.n 0 (rowV gB RB.length) (rowV gB 0)) (fun i hi => by
            rw [HRBL.out, rowV_pos hBp]
            rcases i with _ | _ | _ | _ | _ | _ | i <;> first | rfl | omega)).symm.drop gB sB'
          have HU := Lib.hid (HTU8.out.trans (u1.trans (u2.trans (u3.trans u4))))
          have HPP := Lib.hid hP
          have HSL2 : Hid (stepT (hashT seed) t = growT ⟨RB, [], 0, t.n⟩) := by unfold Hid; rw [stepT_last (by rw [HNB.out]; omega) (by rw [HMVE.out, HNA.out, HM1.out]), HLD.out, HRBE.out]
          clear g1 g2 g3 g4 u1 u2 u3 u4 hP hwX hbN c3 c5' c4 d3 d4 d5
          refine (HGW.out _ _ HPP.out).mono ?_
          rintro e w11 ⟨rfl, o11, gB2, sB2, hp, hu⟩
          have hfin : PT KS w11 base o11 Q 86 seed (stepT (hashT seed) t) gB sB' gB2 sB2 := by rw [HSL2.out]; exact hp
          have HFI := Lib.hid hfin
          have HFU := Lib.hid (HU.out.trans hu)
          clear hp hu hfin
          go_wp2
          go_end0
          exact ⟨rfl, o11, gB, sB', gB2, sB2, HFI.out, HFU.out⟩
        · have hne : ¬ (mv1 : Int) = (na : Int) := by omega
          have HQ := Lib.hid hlast
          clear hlast
          go_quiet (fail)
          go_wp2
          go_end0
          have hfin : PT KS (w8.drewN nq) base o7 Q 86 seed (stepT (hashT seed) t) gA (fun j => if j = mv then .slice none 0 0 else sA j) gB sB' := by
            rw [stepT_mid (by rw [HNB.out]; omega) (by rw [HMVE.out, HNA.out, HM1.out]; exact HQ.out), HLD.out, HRBE.out]
            unfold PT
            dsimp only
            rw [HMVE.out, HM1.out, List.length_set, HNA.out, HRBL.out]
            have := HT8.out.below (bdN _ _ nq)
            rw [HNB.out] at this
            exact this
          exact ⟨rfl, o7, gA, _, gB, sB', hfin, HTU8.out.trans (Turns.of_below o7 (bdN _ _ nq))⟩

end Go.Proofs.Ytcjoakbaldeaoaa
