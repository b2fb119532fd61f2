/-
  The document's Step, over a table whose blocks are its own. Conditions: as typed.
-/
import Derived.Test.YtcjoakbaldeaoaaTrB
namespace Go.Proofs.Ytcjoakbaldeaoaa
open Go.RowKit

/-- What many ways end in, shown once: G is found by the first way. -/
theorem by_one {G F : Nat → Nat → World → Prop} {goal : Prop} (h1 : Hid (∀ gg cg W, F gg cg W → G gg cg W) → goal) (h2 : ∀ gg cg W, F gg cg W → G gg cg W) : goal := h1 h2

/-- What a round of Step's makes. -/
theorem rstep_round {base Q seed n0 mv0 : Nat} {vA vB : Value} {o2 ow' : Own} {w2 w3 w4 w5 : World} {RA RB RB' : List (List (List UInt8 × Int))} {gA gB : Nat} {sA sB' : Nat → Value} {r k cr gg cg N1 b n cb : Nat} {Ar : Option Addr} {l lr : List (List UInt8 × Int)} {x : List UInt8 × Int} {S : ByteArray}
    (hT : TbOn KR w3 base ow' Q 40 5 (rHdr seed n0 mv0 vA vB) RA gA sA RB gB sB') (hU : Turns o2 ow' w2 w3) (hB4 : Below w3.heap.size w3 w4) (hRI : RB[r]? = some lr) (hAR : sB' r = .slice Ar lr.length cr) (hK : lr.length = k)
    (hGR : w4.grownBy w5 (Value.slice Ar k cr).ownBlock) (hOX : w5.ownsRow base 53 2 (.slice (some ⟨gg, 0, none⟩) (k + 1) cg) (k + 1) (encIt KR.enc lr ++ [.string S, .int .i64 x.2])) (hOR : (Value.slice Ar k cr).ownBlock = some gg ∨ gg = N1) (hz4 : w4.heap.size = N1) (hN1 : w3.heap.size ≤ N1) (hSE : (⟨x.1.toArray⟩ : ByteArray) = S) (hSP : RB' = RB.set r (lr ++ [x]))
    (hBK : w3.ownsRow base KR.te 2 (.slice (some ⟨b, 0, none⟩) n cb) n (encIt KR.enc l)) (hNB : ∀ k', (Value.slice Ar k cr).ownBlock = some k' → k' ≠ gB ∧ k' ≠ Q ∧ k' ≠ b) (hbl : b < w3.heap.size) (hbB : b ≠ gB) :
    ∃ (o3 : Own) (s3 : Nat → Value), TbOn KR (w5.setCell ⟨gB, r, none⟩ (.slice (some ⟨gg, 0, none⟩) (k + 1) cg)) base o3 Q 40 5 (rHdr seed n0 mv0 vA vB) RA gA sA RB' gB s3 ∧ Turns o2 o3 w2 (w5.setCell ⟨gB, r, none⟩ (.slice (some ⟨gg, 0, none⟩) (k + 1) cg)) ∧ (w5.setCell ⟨gB, r, none⟩ (.slice (some ⟨gg, 0, none⟩) (k + 1) cg)).ownsRow base KR.te 2 (.slice (some ⟨b, 0, none⟩) n cb) n (encIt KR.enc l) := by
  subst hK
  obtain ⟨o3, h1, h2⟩ := TbOn.store (hT.below hB4).symm (l' := lr ++ [x]) (v' := .slice (some ⟨gg, 0, none⟩) (lr.length + 1) cg) hRI (by rw [hAR]; exact hGR) (by
    rw [List.length_append, encIt_app]
    have e : encIt KR.enc [x] = [.string S, .int .i64 x.2] := by rw [← hSE]; rfl
    rw [e]
    exact hOX) (by
    rcases hOR with q | q
    · exact Or.inr (Or.inl (by rw [hAR]; exact q.symm))
    · exact Or.inr (Or.inr ⟨gg, rfl, by omega⟩))
  refine ⟨o3, _, by rw [hSP]; exact h1.symm, hU.trans ((Turns.of_below ow' hB4).trans h2), ownsRow_of_block hBK fun c hc => ?_⟩
  injection hc with hc
  subst hc
  exact (Below.heap_setCell _ _ _ _ hbB).trans ((hGR.block _ (by omega) (fun e => (hNB _ e.symm).2.2 rfl)).trans (hB4.block _ hbl))

set_option maxRecDepth 100000 in
set_option maxHeartbeats 16000000 in
theorem rstep_any {base Q seed m : Nat} {ow : Own} {t : Tb Int} {gA gB : Nat} {sA sB : Nat → Value} (hs : seed < 18446744073709551616) (w : World) (h : RT w base ow Q seed t gA sA gB sB) (hg : Good (hashT seed) m t) (hm : m ≤ 50000) (hks : KeysT (fun k => k.length ≤ 1000) t) :
    Calls Try.prog 49 #[.pointer (some ⟨Q, 0, none⟩)] w fun e w' => e = .returned (.bool (decide (0 < (stepT (hashT seed) t).B.length))) ∧ ∃ ow' gA' sA' gB' sB', RT w' base ow' Q seed (stepT (hashT seed) t) gA' sA' gB' sB' ∧ Turns ow ow' w w' := by
  have hpos := hg.kept.pos
  have hna := hg.a
  have hnb := hg.b
  have c2 : w.cell? ⟨Q, 2, none⟩ = some (rowV gB t.B.length) := h.hd.cell (by omega)
  by_cases hB : t.B.length = 0
  · rw [stepT_none hB]
    have HP := Lib.hid h
    rw [hB] at c2 ⊢
    replace c2 : w.cell? ⟨Q, 2, none⟩ = some (.slice none 0 0) := c2
    clear h hg hm hks hpos hna hnb hB
    go_enter Try.func49, Try.ntmps49
    go_wp2
    go_ret
    exact ⟨rfl, ow, gA, sA, gB, sB, HP.out, Turns.refl _ _⟩
  · have hBp : 0 < t.B.length := Nat.pos_of_ne_zero hB
    have hmv := hg.kept.mv hB
    obtain ⟨l, hl⟩ : ∃ l, t.A.getD t.moved [] = l := ⟨_, rfl⟩
    have hl' : t.A[t.moved]? = some l := by rw [← hl]; exact getD_lt hmv
    have hlm := hg.bktA hl'
    have hbk := h.a.bkt _ _ hl'
    obtain ⟨Ab, cb, hsl⟩ : ∃ A c, sA t.moved = .slice A l.length c := by
      rcases hbk.2 with ⟨h1, h2⟩ | ⟨g, cap, cur, hv, _⟩
      · exact ⟨none, 0, by rw [h1, h2]⟩
      · exact ⟨_, _, hv⟩
    have hcell := (h.a.row hpos).cell hmv
    have hfrz := (h.a.row hpos).frozen t.moved
    have c1 : w.cell? ⟨Q, 1, none⟩ = some (rowV gA t.A.length) := h.hd.cell (by omega)
    have c3 : w.cell? ⟨Q, 3, none⟩ = some (.int .i64 t.moved) := h.hd.cell (by omega)
    rw [rowV_pos hpos] at c1
    rw [rowV_pos hBp] at c2
    rw [hsl] at hcell
    rw [hsl] at hbk
    have HTB := Lib.hid (show TbOn KR w base ow Q 40 5 (rHdr seed t.n t.moved (rowV gA t.A.length) (rowV gB t.B.length)) t.A gA sA t.B gB sB from h)
    have HL := Lib.hid hl'
    have HSL := Lib.hid hsl
    have HBK := Lib.hid hbk
    have HLAB : Hid (∀ b, (Value.slice Ab l.length cb).ownBlock = some b → ow b = some (gA, t.moved)) := fun b hb => h.a.lab _ _ b hl' (by rw [hsl]; exact hb)
    have hkl : Hid (∀ x ∈ l, x.1.length ≤ 1000) := fun x hx => hks.1.flat x (List.mem_flatten.2 ⟨l, List.mem_of_getElem? hl', hx⟩)
    obtain ⟨na, hnae⟩ : ∃ n, t.A.length = n := ⟨_, rfl⟩
    obtain ⟨nb, hnbe⟩ : ∃ n, t.B.length = n := ⟨_, rfl⟩
    obtain ⟨mv, hmve⟩ : ∃ n, t.moved = n := ⟨_, rfl⟩
    obtain ⟨n, hne⟩ : ∃ n, l.length = n := ⟨_, rfl⟩
    have HNA := Lib.hid hnae
    have HNB := Lib.hid hnbe
    have HMVE := Lib.hid hmve
    have HN := Lib.hid hne
    have HLD := Lib.hid hl
    have HG := Lib.hid hg
    rw [hne] at hcell hlm HBK HLAB
    rw [hmve] at c3 hcell hfrz HLAB
    rw [hnae] at c1
    rw [hnbe] at c2
    rw [hmve, hnae] at hmv
    rw [hnae] at hna hpos
    rw [hnbe] at hnb hBp
    have HQB := Lib.hid (h.gbQ (by rw [hnbe]; exact hBp))
    have HQA := Lib.hid (h.gaQ (by rw [hnae]; exact hpos))
    have HNE := Lib.hid (h.ne (by rw [hnae]; exact hpos) (by rw [hnbe]; exact hBp))
    obtain ⟨ip, hip, hyp⟩ := Option.map_eq_some_iff.1 info_item
    simp only [Prod.mk.injEq] at hyp
    have HIP := Lib.hid hyp
    -- the moved bucket is taken out of the first row
    have HNIL := Lib.hid (fun (W : World) (hW : Below w.heap.size w W) => TbOn.store (TbOn.below HTB.out hW) (i := mv) (l := l) (l' := []) (v' := .slice none 0 0) (w1 := W) (by rw [← HMVE.out]; exact HL.out) (World.grownBy.refl _ _) (World.ownsRow_nil _ _ _ _) (Or.inl rfl))
    have hz0 : ((nb : Int) == 0) = false := by rw [beq_eq_false_iff_ne]; omega
    clear h hg hks hB hl hl' hbk hsl hnae hnbe hmve hne hyp
    go_enter Try.func49, Try.ntmps49
    go_wp2_with fail
    go_quiet (fail)
    go_wp2_with fail
    obtain ⟨w1, hw1⟩ : ∃ w1, w.drewN nq = w1 := ⟨_, rfl⟩
    rw [hw1]
    have d1 : w1.cell? ⟨Q, 1, none⟩ = some (.slice (some ⟨gA, 0, none⟩) na na) := by rw [← hw1]; exact c1
    have d3 : w1.cell? ⟨Q, 3, none⟩ = some (.int .i64 mv) := by rw [← hw1]; exact c3
    have dc : w1.cell? ⟨gA, mv, none⟩ = some (.slice Ab n cb) := by rw [← hw1]; exact hcell
    have df : w1.frozen? ⟨gA, mv, none⟩ = false := by rw [← hw1]; exact hfrz
    have hb1 : Below w.heap.size w w1 := by rw [← hw1]; exact bdN _ _ _
    have HB1 := Lib.hid hb1
    clear hw1 hb1 c1 c2 c3 hcell hfrz
    go_region
    obtain ⟨w2, hw2⟩ : ∃ w2, (w1.setCell ⟨gA, mv, none⟩ (.slice none 0 0)).drew = w2 := ⟨_, rfl⟩
    rw [hw2]
    obtain ⟨o2, hT2, hu2⟩ := HNIL.out w1 HB1.out
    have hb2 : Below (w1.setCell ⟨gA, mv, none⟩ (.slice none 0 0)).heap.size (w1.setCell ⟨gA, mv, none⟩ (.slice none 0 0)) w2 := by rw [← hw2]; exact (Below.refl _ _).drew
    have HT2 := Lib.hid (hT2.below hb2)
    have HU2 := Lib.hid ((Turns.of_below ow HB1.out).trans (hu2.trans (Turns.of_below o2 hb2)))
    have HBK2 : Hid (w2.ownsRow base KR.te 2 (.slice Ab n cb) n (encIt KR.enc l)) := ownsRow_of_block HBK.out (fun b hb => by
      have hlt := (HTB.out.dom b (by rw [HLAB.out b hb]; exact fun e => by cases e)).2
      have hne : b ≠ gA := TbOn.bA HTB.out HL.out (by rw [HSL.out, HN.out]; exact hb)
      exact (hb2.block b (by have := HB1.out.size; simp [World.setCell]; omega)).trans ((Below.heap_setCell _ _ _ _ hne).trans (HB1.out.block b hlt)))
    have HLAB2 : Hid (∀ b, (Value.slice Ab n cb).ownBlock = some b → o2 b = some (gA, mv)) := fun b hb => by
      have hlt := (HTB.out.dom b (by rw [HLAB.out b hb]; exact fun e => by cases e)).2
      exact (HU2.out.same b hlt).trans (HLAB.out b hb)
    clear hw2 hb2 hT2 hu2 d1 d3 dc df HNIL HBK
    go_wp2
    go_loopw [4, 5] (fun iv _ wr => ∃ (i : Nat) (ow' : Own) (sB' : Nat → Value), iv = .int .i64 i ∧ i ≤ n ∧ TbOn KR wr base ow' Q 40 5 (rHdr seed t.n t.moved (rowV gA t.A.length) (rowV gB t.B.length)) (t.A.set mv []) gA (fun j => if j = mv then .slice none 0 0 else sA j) (spread (hashT seed) t.B (l.take i)) gB sB' ∧ Turns o2 ow' w2 wr ∧ wr.ownsRow base KR.te 2 (.slice Ab n cb) n (encIt KR.enc l)) (fun iv _ _ => n - (intOf iv).toNat)
    case atStart => exact ⟨0, o2, sB, rfl, by omega, HT2.out, Turns.refl _ _, HBK2.out⟩
    case round =>
      obtain ⟨i, ow', sB', rfl, hi, hT, hturn, hbk⟩ := hrel
      have HT := Lib.hid hT
      have HTU := Lib.hid hturn
      have HBK := Lib.hid hbk
      clear hT hturn hbk
      by_cases hlt : i < n
      · obtain ⟨x, hx⟩ : ∃ x, l[i]? = some x := ⟨_, List.getElem?_eq_getElem (by rw [HN.out]; exact hlt)⟩
        obtain ⟨b, rfl, hbl, hcc, k0, k1⟩ : ∃ b, Ab = some ⟨b, 0, none⟩ ∧ b < wr.heap.size ∧ cb ≤ 9223372036854775807 ∧ wr.cell? ⟨b, i * 2, none⟩ = some (.string ⟨x.1.toArray⟩) ∧ wr.cell? ⟨b, i * 2 + 1, none⟩ = some (.int .i64 x.2) := by
          have hb := HBK.out
          have hln := HN.out
          rcases hb.2 with ⟨h1, h2⟩ | ⟨g, cap, cur, hv, _, hgg, hnc, hcm, _⟩
          · omega
          · injection hv with e1 e2 e3
            subst e1 e3
            refine ⟨g, rfl, (Array.getElem?_eq_some_iff.1 hgg).1, by simp [maxLen] at hcm; omega, ?_, ?_⟩
            · rw [World.ownsRow.cellAt hb (i * 2) (by omega)]
              exact (encIt_get _ l i x hx).1
            · rw [World.ownsRow.cellAt hb (i * 2 + 1) (by omega)]
              exact (encIt_get _ l i x hx).2
        have HX := Lib.hid hx
        have hnc : n ≤ cb := by
          rcases HBK.out.2 with ⟨h1, h2⟩ | ⟨g, cap, cur, hv, _, hgg, hnc, hcm, _⟩
          · omega
          · injection hv with e1 e2 e3
            subst e3
            exact hnc
        obtain ⟨S, hS⟩ : ∃ S : ByteArray, ⟨x.1.toArray⟩ = S := ⟨_, rfl⟩
        have HSX : Hid (S.data.toList = x.1) := by unfold Hid; rw [← hS]
        have hS63 : S.size ≤ 9223372036854775807 := by
          have := hkl.out x (List.mem_of_getElem? hx)
          rw [← HSX.out, Array.length_toList] at this
          have : S.size ≤ 1000 := this
          omega
        rw [hS] at k0
        have HSE := Lib.hid hS
        clear hS hx
        obtain ⟨H, hH⟩ : ∃ H, hashT seed x.1 = H := ⟨_, rfl⟩
        obtain ⟨r, hr⟩ : ∃ r, H % nb = r := ⟨_, rfl⟩
        have hrn : r < nb := by rw [← hr]; exact Nat.mod_lt _ hBp
        obtain ⟨RB, hRB⟩ : ∃ RB, spread (hashT seed) t.B (l.take i) = RB := ⟨_, rfl⟩
        have hRBl : RB.length = nb := by rw [← hRB, spread_length, HNB.out]
        obtain ⟨lr, hlr⟩ : ∃ lr, RB.getD r [] = lr := ⟨_, rfl⟩
        have HRI : Hid (RB[r]? = some lr) := by unfold Hid; rw [← hlr]; exact getD_lt (by omega)
        have HSP : Hid (spread (hashT seed) t.B (l.take (i + 1)) = RB.set r (lr ++ [x])) := by
          unfold Hid
          rw [spread_one (by rw [HNB.out]; exact hBp) HX.out, hRB, HNB.out, hH, hr, hlr]
        have hlrm : lr.length ≤ 400000 := by
          have q1 : t.B[r]? = some (t.B.getD r []) := getD_lt (by rw [HNB.out]; exact hrn)
          have q2 := HG.out.bktB q1
          have q3 := HRI.out
          rw [← hRB, spread_get, q1] at q3
          injection q3 with q3
          rw [← q3, List.length_append]
          have q4 := List.length_filter_le (fun y => decide (hashT seed y.1 % t.B.length = r)) (l.take i)
          rw [List.length_take, HN.out] at q4
          omega
        rw [hRB] at HT
        have HRBL := Lib.hid hRBl
        have c0 : wr.cell? ⟨Q, 0, none⟩ = some (.int .u64 seed) := HT.out.hd.cell (by omega)
        have c2 : wr.cell? ⟨Q, 2, none⟩ = some (rowV gB t.B.length) := HT.out.hd.cell (by omega)
        rw [HNB.out, rowV_pos hBp] at c2
        have HBU := Lib.hid (fun nq => rbucket_same Q seed nb hs (by omega) (by omega) S (wr.drewN nq) c0 hS63)
        rw [HSX.out, hH, hr] at HBU
        clear hH hRB hRBl hlr hr
        go_wp2_with fail
        go_quiet ((go_at_call 80; exact Calls.quiet_of_same (HBU.out _)))
        go_wp2_with fail
        obtain ⟨w3, hw3⟩ : ∃ w3, wr.drewN nq = w3 := ⟨_, rfl⟩
        rw [hw3]
        have hbN : Below wr.heap.size wr w3 := by rw [← hw3]; exact bdN wr.heap.size wr nq
        have hT3 := HT.out.below hbN
        have HTR3 := Lib.hid (HTU.out.trans (Turns.of_below ow' hbN))
        have d0 : w3.cell? ⟨b, i * 2, none⟩ = some (.string S) := by rw [← hw3]; exact k0
        have d1 : w3.cell? ⟨b, i * 2 + 1, none⟩ = some (.int .i64 x.2) := by rw [← hw3]; exact k1
        have HBK3 : Hid (w3.ownsRow base KR.te 2 (.slice (some ⟨b, 0, none⟩) n cb) n (encIt KR.enc l)) := by unfold Hid; rw [← hw3]; exact HBK.out
        have hsz3 : w3.heap.size = wr.heap.size := by rw [← hw3]; rfl
        have c2' : w3.cell? ⟨Q, 2, none⟩ = some (.slice (some ⟨gB, 0, none⟩) nb nb) := by rw [← hw3]; exact c2
        have HT3 := Lib.hid hT3
        have hrow := (hT3.b.row (by rw [HRBL.out]; exact hBp)).cell (i := r) (by rw [HRBL.out]; exact hrn)
        have hgbl := (hT3.b.row (by rw [HRBL.out]; exact hBp)).lt
        have hown := hT3.b.bkt r lr HRI.out
        obtain ⟨Ar, cr, hAr⟩ : ∃ A c, sB' r = .slice A lr.length c := by
          rcases hown.2 with ⟨h1, h2⟩ | ⟨g, cap, cur, hv, _⟩
          · exact ⟨none, 0, by rw [h1, h2]⟩
          · exact ⟨_, _, hv⟩
        have HNBB : Hid (∀ k, (Value.slice Ar lr.length cr).ownBlock = some k → k ≠ gB ∧ k ≠ Q ∧ k ≠ b) := fun k hk => by
          refine ⟨hT3.symm.bA HRI.out (by rw [hAr]; exact hk), hT3.symm.bQ HRI.out (by rw [hAr]; exact hk), fun e => ?_⟩
          have q1 := hT3.b.lab r lr k HRI.out (by rw [hAr]; exact hk)
          have q2 := HLAB2.out b rfl
          have q3 := HTU.out.same b (HT2.out.dom b (by rw [q2]; exact fun e => by cases e)).2
          rw [e, q3, q2] at q1
          injection q1 with q1
          injection q1 with q1 _
          exact HNE.out q1
        have HAR := Lib.hid hAr
        rw [hAr] at hrow hown
        obtain ⟨k, hk⟩ : ∃ k, lr.length = k := ⟨_, rfl⟩
        have HK := Lib.hid hk
        rw [hk] at hrow hown hlrm HNBB
        have HOW := Lib.hid hown
        have hbase : base ≤ w3.heap.size := Nat.le_of_lt (Nat.lt_of_le_of_lt (hT3.dom Q (by rw [hT3.q]; exact fun e => by cases e)).1 (hT3.dom Q (by rw [hT3.q]; exact fun e => by cases e)).2)
        have qa : (w3.alloc (.cells #[.string S, .int .i64 x.2] 53)).cell? ⟨gB, r, none⟩ = some (.slice Ar k cr) := (((Below.refl w3.heap.size w3).alloc (Nat.le_refl _) _).cell (p := ⟨gB, r, none⟩) hgbl).trans hrow
        have qc : (w3.alloc (.cells #[.string S, .int .i64 x.2] 53)).cell? ⟨Q, 2, none⟩ = some (.slice (some ⟨gB, 0, none⟩) nb nb) := (((Below.refl w3.heap.size w3).alloc (Nat.le_refl _) _).cell (p := ⟨Q, 2, none⟩) (World.block_lt_of_cell? w3 _ c2')).trans c2'
        have HSZ3 := Lib.hid hsz3
        have HBB : Hid (b ≠ gB) := fun e => by
          have q2 := HLAB2.out b rfl
          have q3 := HTU.out.same b (HT2.out.dom b (by rw [q2]; exact fun e => by cases e)).2
          have q4 := hT3.b.own (by rw [HRBL.out]; exact hBp)
          rw [← e, q3, q2] at q4
          injection q4 with q4
          injection q4 with q4 _
          exact HQA.out q4
        have HBL := Lib.hid hbl
        clear hw3 hT3 hAr hk hown k0 k1 c0 c2 hbN hsz3
        have hz4 : (w3.alloc (.cells #[.string S, .int .i64 x.2] 53)).drew.heap.size = w3.heap.size + 1 := by show (w3.alloc (.cells #[.string S, .int .i64 x.2] 53)).heap.size = _; simp
        have E1 := Lib.hid (show (w3.alloc (.cells #[.string S, .int .i64 x.2] 53)).drew.ownsRow base 53 2 (.slice Ar k cr) k (encIt KR.enc lr) from HOW.out.alloc (.cells #[.string S, .int .i64 x.2] 53))
        have E2 := Lib.hid (show ∀ j u, [Value.string S, .int .i64 x.2][j]? = some u → (w3.alloc (.cells #[.string S, .int .i64 x.2] 53)).drew.cell? ((⟨w3.heap.size, 0, none⟩ : Addr).add j) = some u from World.news_of_block (cs := #[.string S, .int .i64 x.2]) (t := 53) (fr := (0, 0)) (heap_alloc_new w3 _))
        have E3 := Lib.hid (show base ≤ (w3.alloc (.cells #[.string S, .int .i64 x.2] 53)).drew.heap.size from by rw [hz4]; omega)
        have E4 := Lib.hid hz4
        have E5 := Lib.hid (show gB < (w3.alloc (.cells #[.string S, .int .i64 x.2] 53)).drew.heap.size from by rw [hz4]; omega)
        have E6 := Lib.hid (show (w3.alloc (.cells #[.string S, .int .i64 x.2] 53)).drew.cell? ⟨gB, r, none⟩ = some (.slice Ar k cr) from qa)
        have E7 := Lib.hid (show (w3.alloc (.cells #[.string S, .int .i64 x.2] 53)).drew.frozen? ⟨gB, r, none⟩ = false from (((HT3.out.below ((Below.refl w3.heap.size w3).alloc (Nat.le_refl _) (.cells #[.string S, .int .i64 x.2] 53))).b.row (by rw [HRBL.out]; exact hBp)).frozen r))
        have E8 := Lib.hid (show Q < (w3.alloc (.cells #[.string S, .int .i64 x.2] 53)).drew.heap.size from by rw [hz4]; have hQ3 : Q < w3.heap.size := World.block_lt_of_cell? w3 _ c2'; omega)
        have E9 := Lib.hid (show (w3.alloc (.cells #[.string S, .int .i64 x.2] 53)).drew.cell? ⟨Q, 2, none⟩ = some (.slice (some ⟨gB, 0, none⟩) nb nb) from qc)
        have HB4 := Lib.hid (show Below w3.heap.size w3 (w3.alloc (.cells #[.string S, .int .i64 x.2] 53)).drew from ((Below.refl w3.heap.size w3).alloc (Nat.le_refl _) (.cells #[.string S, .int .i64 x.2] 53)).drew)
        clear hz4
        apply by_one (F := fun gg cg W => ∃ (o3 : Own) (s3 : Nat → Value), TbOn KR W base o3 Q 40 5 (rHdr seed t.n t.moved (rowV gA t.A.length) (rowV gB t.B.length)) (t.A.set mv []) gA (fun j => if j = mv then .slice none 0 0 else sA j) (spread (hashT seed) t.B (l.take (i + 1))) gB s3 ∧ Turns o2 o3 w2 W ∧ W.ownsRow base KR.te 2 (.slice (some ⟨b, 0, none⟩) n cb) n (encIt KR.enc l))
        case h1 =>
          intro HFIN
          go_region_law (refine step_append_lies _ (by rfl) _ _ _ (by rfl) base 53 ip _ 2 24 Try.underlying42 hip HIP.out.1 HIP.out.2.1 HIP.out.2.2 rfl (by omega) (.slice Ar k cr) k (encIt KR.enc lr) (by simp [Act.eval]) (by exact E1.out) ⟨w3.heap.size, 0, none⟩ 1 1 [.string S, .int .i64 x.2] (by simp [Act.eval]) (by rfl) (by exact E2.out) (by simp [Value.oneCell']) (by omega) (by unfold maxLen; omega) (by omega) (by exact E3.out) (w3.heap.size + 1) (by exact E4.out) ?_; intro gg cg w5 hown5 hgrow hor hgg; have hz5 := hgrow.size; have hbG := hgrow.block gB (by exact E5.out) (fun e => (HNBB.out gB e.symm).1 rfl); have hbQ := hgrow.block Q (by exact E8.out) (fun e => (HNBB.out Q e.symm).2.1 rfl); have p2 := (World.cell?_of_block (a := ⟨Q, 2, none⟩) hbQ).trans E9.out; have p3 := (World.cell?_of_block (a := ⟨gB, r, none⟩) hbG).trans E6.out; have pf := (World.frozen?_of_block (a := ⟨gB, r, none⟩) hbG).trans E7.out; have HGR := Lib.hid hgrow; have HOX := Lib.hid hown5; have HOR := Lib.hid hor; clear hgrow hbG hbQ hown5 hgg hor)
          all_goals
            have HROUND := rstep_round HT3.out HTR3.out HB4.out HRI.out HAR.out HK.out HGR.out HOX.out HOR.out E4.out (by omega) HSE.out HSP.out HBK3.out HNBB.out (by rw [HSZ3.out]; exact HBL.out) HBB.out
            obtain ⟨wf, hwf⟩ : ∃ wf, w5.setCell ⟨gB, r, none⟩ (.slice (some ⟨gg, 0, none⟩) (k + 1) cg) = wf := ⟨_, rfl⟩
            rw [hwf] at HROUND ⊢
            exact HFIN.out gg cg wf HROUND
        case h2 =>
          intro gg cg wf hround
          have HROUND := Lib.hid hround
          clear hround d0 d1 c2' qc qa hrow
          go_wp2
          go_roundw
          case rel =>
            obtain ⟨o3, s3, h1, h2, h3⟩ := HROUND.out
            exact ⟨i + 1, o3, s3, by go_num, by omega, h1, h2, h3⟩
          case measure => simp only [intOf]; omega
      · obtain rfl : i = n := by omega
        have hall : l.take i = l := List.take_of_length_le (by rw [HN.out]; exact Nat.le_refl _)
        rw [hall] at HT
        clear hall
        obtain ⟨RB, hRB⟩ : ∃ RB, spread (hashT seed) t.B l = RB := ⟨_, rfl⟩
        have hRBl : RB.length = nb := by rw [← hRB, spread_length, HNB.out]
        rw [hRB] at HT
        have HRBE := Lib.hid hRB
        have HRBL := Lib.hid hRBl
        clear hRB hRBl
        have c3 : wr.cell? ⟨Q, 3, none⟩ = some (.int .i64 t.moved) := HT.out.hd.cell (by omega)
        have f3 := HT.out.hd.frozen 3
        rw [HMVE.out] at c3
        obtain ⟨mv1, hmv1⟩ : ∃ q, mv + 1 = q := ⟨_, rfl⟩
        have hw : IntKind.i64.wrap ((mv : Int) + 1) = (mv1 : Int) := by rw [IntWalk.i64_in _ (by omega)]; omega
        have HM1 := Lib.hid hmv1
        have hm1na : mv1 ≤ na := by omega
        clear hmv1
        go_wp2_with fail
        obtain ⟨w8, hw8⟩ : ∃ w8, wr.setCell ⟨Q, 3, none⟩ (.int .i64 mv1) = w8 := ⟨_, rfl⟩
        rw [hw8]
        have hT8 := (HT.out.setHd 3 (.int .i64 mv1)).recap (hdr' := rHdr seed t.n mv1 (rowV gA t.A.length) (rowV gB t.B.length)) (fun i _ => rset3 _ _ _ _ _ _ _)
        have hTu8 := HT.out.turnsHd 3 (.int .i64 mv1)
        rw [hw8] at hT8 hTu8
        have HTU8 := Lib.hid (HTU.out.trans hTu8)
        have HT8 := Lib.hid hT8
        have c1 : w8.cell? ⟨Q, 1, none⟩ = some (rowV gA t.A.length) := hT8.hd.cell (by omega)
        have c2 : w8.cell? ⟨Q, 2, none⟩ = some (rowV gB t.B.length) := hT8.hd.cell (by omega)
        have c3' : w8.cell? ⟨Q, 3, none⟩ = some (.int .i64 mv1) := hT8.hd.cell (by omega)
        rw [HNA.out, rowV_pos hpos] at c1
        rw [HNB.out, rowV_pos hBp] at c2
        clear hw8 hT8 hTu8 c3 f3 hw
        by_cases hlast : mv1 = na
        · subst hlast
          have d1 := HT8.out.hd.frozen 1
          have d2 := HT8.out.hd.frozen 2
          have d3 := HT8.out.hd.frozen 3
          go_quiet (fail)
          go_wp2_with fail
          obtain ⟨wX, hwX⟩ : ∃ wX, w8.drewN nq = wX := ⟨_, rfl⟩
          rw [hwX]
          have hbN : Below w8.heap.size w8 wX := by rw [← hwX]; exact bdN w8.heap.size w8 nq
          have g1 := HT8.out.below hbN
          rw [HNA.out, rowV_pos hpos, HNB.out, rowV_pos hBp] at g1
          have u1 := Turns.of_below ow' hbN
          have g2 := g1.setHd 1 (.slice (some ⟨gB, 0, none⟩) nb nb)
          have u2 := g1.turnsHd 1 (.slice (some ⟨gB, 0, none⟩) nb nb)
          have g3 := g2.setHd 2 (.slice none 0 0)
          have u3 := g2.turnsHd 2 (.slice none 0 0)
          have g4 := g3.setHd 3 (.int .i64 0)
          have u4 := g3.turnsHd 3 (.int .i64 0)
          have hP : RT _ base ow' Q seed ⟨RB, [], 0, t.n⟩ gB sB' gB sB' := (g4.recap (hdr' := rHdr seed t.n 0 (rowV gB RB.length) (rowV gB 0)) (fun i hi => by
            rw [HRBL.out, rowV_pos hBp]
            rcases i with _ | _ | _ | _ | _ | i <;> first | rfl | omega)).symm.drop gB sB'
          have HU := Lib.hid ((HU2.out.trans HTU8.out).trans (u1.trans (u2.trans (u3.trans u4))))
          have HPP := Lib.hid hP
          have HSL2 : Hid (stepT (hashT seed) t = growT ⟨RB, [], 0, t.n⟩) := by unfold Hid; rw [stepT_last (by rw [HNB.out]; omega) (by rw [HMVE.out, HNA.out, HM1.out]), HLD.out, HRBE.out]
          obtain ⟨wY, hwY⟩ : ∃ wY, ((wX.setCell ⟨Q, 1, none⟩ (.slice (some ⟨gB, 0, none⟩) nb nb)).setCell ⟨Q, 2, none⟩ (.slice none 0 0)).setCell ⟨Q, 3, none⟩ (.int .i64 0) = wY := ⟨_, rfl⟩
          rw [hwY] at HU HPP ⊢
          clear g1 g2 g3 g4 u1 u2 u3 u4 hP hwX hwY hbN c1 c2 c3' d1 d2 d3
          have c1 : wY.cell? ⟨Q, 1, none⟩ = some (rowV gB RB.length) := HPP.out.hd.cell (by omega)
          have c2 : wY.cell? ⟨Q, 2, none⟩ = some (.slice none 0 0) := HPP.out.hd.cell (i := 2) (by omega)
          have c4 : wY.cell? ⟨Q, 4, none⟩ = some (.int .i64 t.n) := HPP.out.hd.cell (by omega)
          rw [HRBL.out, rowV_pos hBp] at c1
          have HNM := Lib.hid HG.out.n
          have HST := Lib.hid (fun nq => (show RT (wY.drewN nq) base ow' Q seed ⟨RB, [], 0, t.n⟩ gB sB' gB sB' from TbOn.below HPP.out (bdN _ _ _)))
          have HTT := Lib.hid (fun nq => HU.out.trans (Turns.of_below ow' (bdN wY.heap.size wY nq)))
          obtain ⟨tn, htn⟩ : ∃ tn, t.n = tn := ⟨_, rfl⟩
          rw [htn] at c4 HNM HST HSL2
          by_cases hgr : nb < tn
          · have hgr' : (nb : Int) < (tn : Int) := by omega
            have hwN : IntKind.i64.wrap (2 * (nb : Int)) = ((2 * nb : Nat) : Int) := by rw [IntWalk.i64_in _ (by omega)]; omega
            have hns : 2 * nb ≤ 400008 := by omega
            have HGR : Hid (growT (⟨RB, [], 0, tn⟩ : Tb Int) = ⟨RB, List.replicate (2 * nb) [], 0, tn⟩) := by unfold Hid growT; dsimp only; rw [if_pos ⟨rfl, by rw [HRBL.out]; exact hgr⟩, HRBL.out]
            have HFR := Lib.hid (fun nq => RT.fresh (HST.out nq) (2 * nb) (by omega))
            obtain ⟨i0, hi0, hy⟩ := Option.map_eq_some_iff.1 info_rbkt
            simp only [Prod.mk.injEq] at hy
            have HY := Lib.hid hy
            have f2 : ∀ (nq : Nat) (o : Obj), ((wY.drewN nq).alloc o).frozen? ⟨Q, 2, none⟩ = false := fun nq o => (TbOn.below (HST.out nq) ((Below.refl _ _).alloc (Nat.le_refl _) o)).hd.frozen 2
            have c2a : ∀ (nq : Nat) (o : Obj), ((wY.drewN nq).alloc o).cell? ⟨Q, 2, none⟩ = some (.slice none 0 0) := fun nq o => (TbOn.below (HST.out nq) ((Below.refl _ _).alloc (Nat.le_refl _) o)).hd.cell (i := 2) (by omega)
            have c2b : ∀ (nq : Nat) (o : Obj) (v : Value), (((wY.drewN nq).alloc o).setCell ⟨Q, 2, none⟩ v).cell? ⟨Q, 2, none⟩ = some v := fun nq o v => World.cell?_setCell_same' _ _ _ (by rw [c2a]; rfl)
            obtain ⟨nn, hnn⟩ : ∃ nn, 2 * nb = nn := ⟨_, rfl⟩
            rw [hnn] at HFR hwN HGR hns
            have hnp : (0 : Int) < (nn : Int) := by omega
            clear hgr htn hnn hy
            go_quiet (fail)
            go_wp2_with (at_make; refine wpList_make_row _ rfl _ _ _ rfl 42 i0 (.slice none 0 0) Try.underlying38 hi0 HY.out.1 HY.out.2.1 rfl .i64 .i64 nn ?m1 ?m2 ?m3 (by omega) ?_)
            try case m3 => rw [HY.out.2.2]; omega
            try case m1 => rfl
            try case m2 => rfl
            go_wp2
            go_ret
            obtain ⟨o9, gB9, sB9, h1, h2⟩ := HFR.out nq
            exact ⟨by rw [HSL2.out, HGR.out]; dsimp only; rw [List.length_replicate, decide_eq_true (by omega : 0 < nn)]; simp, o9, ⟨_, _, gB9, sB9, by rw [HSL2.out, HGR.out]; exact h1⟩, (HTT.out nq).trans h2⟩
          · have hgr' : ¬ (nb : Int) < (tn : Int) := by omega
            have HGR : Hid (growT (⟨RB, [], 0, tn⟩ : Tb Int) = ⟨RB, [], 0, tn⟩) := by unfold Hid growT; dsimp only; rw [if_neg (fun q => hgr (by rw [← HRBL.out]; exact q.2))]
            clear hgr htn
            go_quiet (fail)
            go_wp2
            go_ret
            exact ⟨by rw [HSL2.out, HGR.out]; rfl, ow', ⟨gB, sB', gB, sB', by rw [HSL2.out, HGR.out]; exact HST.out nq⟩, HTT.out nq⟩
        · have hne : ¬ (mv1 : Int) = (na : Int) := by omega
          have HQ := Lib.hid hlast
          have HST := Lib.hid (fun nq => HT8.out.below (bdN w8.heap.size w8 nq))
          have hnbp : (0 : Int) < (nb : Int) := by omega
          clear hlast
          go_quiet (fail)
          go_wp2
          go_ret
          have hfin : RT (w8.drewN nq) base ow' Q seed (stepT (hashT seed) t) gA (fun j => if j = mv then .slice none 0 0 else sA j) gB sB' := by
            rw [stepT_mid (by rw [HNB.out]; omega) (by rw [HMVE.out, HNA.out, HM1.out]; exact HQ.out), HLD.out, HRBE.out]
            unfold RT
            dsimp only
            rw [HMVE.out, HM1.out, List.length_set, HNA.out, HRBL.out]
            have := HST.out nq
            rw [HNB.out, HNA.out] at this
            exact this
          exact ⟨by rw [stepT_mid (by rw [HNB.out]; omega) (by rw [HMVE.out, HNA.out, HM1.out]; exact HQ.out), HLD.out, HRBE.out]; dsimp only; rw [HRBL.out, decide_eq_true hBp]; simp, ow', gA, _, gB, sB', hfin, (HU2.out.trans HTU8.out).trans (Turns.of_below ow' (bdN _ _ nq))⟩

end Go.Proofs.Ytcjoakbaldeaoaa
