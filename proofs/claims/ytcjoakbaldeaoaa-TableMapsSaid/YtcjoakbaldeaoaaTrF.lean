/-
  The document's Del, over a table whose blocks are its own. Conditions: as typed.
-/
import Derived.Test.YtcjoakbaldeaoaaTrD
import Derived.Test.YtcjoakbaldeaoaaTrE
namespace Go.Proofs.Ytcjoakbaldeaoaa
open Go.RowKit

theorem by_oneV {G F : Value → World → Prop} {goal : Prop} (h1 : Hid (∀ v W, F v W → G v W) → goal) (h2 : ∀ v W, F v W → G v W) : goal := h1 h2

/-- A bucket's new slice, made by a call that changes nothing that was there, is laid into its row. -/
theorem rdel_store {base Q : Nat} {hdr : Nat → Value} {ow' : Own} {w3 w5 : World} {RX RY : List (List (List UInt8 × Int))} {gX gY : Nat} {sX sY : Nat → Value} {r n : Nat} {Av : Option Addr} {cv : Nat} {l l' : List (List UInt8 × Int)}
    (hT : TbOn KR w3 base ow' Q 40 5 hdr RX gX sX RY gY sY) (hRI : RX[r]? = some l) (hb : Below w3.heap.size w3 w5) (hl : l'.length = n) (hown : w5.ownsRow w3.heap.size KR.te 2 (.slice Av n cv) n (encIt KR.enc l')) :
    ∃ (o3 : Own) (s3 : Nat → Value), TbOn KR (w5.setCell ⟨gX, r, none⟩ (.slice Av n cv)) base o3 Q 40 5 hdr (RX.set r l') gX s3 RY gY sY ∧ Turns ow' o3 w3 (w5.setCell ⟨gX, r, none⟩ (.slice Av n cv)) := by
  have hbase : base ≤ w3.heap.size := by have := hT.dom Q (by rw [hT.q]; exact fun e => by cases e); omega
  obtain ⟨o3, h1, h2⟩ := TbOn.store hT (l' := l') (v' := .slice Av n cv) hRI ⟨hb.os, hb.tape, hb.output, hb.size, fun k hk _ => hb.block k hk⟩ (by rw [hl]; exact own_weaken hown hbase) (by
    cases hq : (Value.slice Av n cv).ownBlock with
    | none => exact Or.inl rfl
    | some b => exact Or.inr (Or.inr ⟨b, rfl, (hown.lt b hq).1⟩))
  exact ⟨o3, _, h1, h2⟩

set_option maxRecDepth 100000 in
set_option maxHeartbeats 16000000 in
theorem rdel_any {base Q seed m : Nat} {ow : Own} {t : Tb Int} {gA gB : Nat} {sA sB : Nat → Value} (hs : seed < 18446744073709551616) (k : List UInt8) (K : ByteArray) (hK : K.data.toList = k) (hK63 : K.size ≤ 1000) (w : World) (h : RT w base ow Q seed t gA sA gB sB) (hg : Good (hashT seed) m t) (hm : m ≤ 50000) (hks : KeysT (fun k => k.length ≤ 1000) t) :
    Calls Try.prog 47 #[.pointer (some ⟨Q, 0, none⟩), .string K] w fun e w' => e = .returned (.bool (lookT (hashT seed) (stepT (hashT seed) t) k).isSome) ∧ ∃ ow' gA' sA' gB' sB', RT w' base ow' Q seed (delS (hashT seed) (stepT (hashT seed) t) k) gA' sA' gB' sB' ∧ Turns ow ow' w w' := by
  have HST := Lib.hid (rstep_any hs w h hg hm hks)
  have HG2 := Lib.hid (good_step hg)
  obtain ⟨t2, ht2⟩ : ∃ t2, stepT (hashT seed) t = t2 := ⟨_, rfl⟩
  rw [ht2] at HST HG2 ⊢
  have HKK := Lib.hid hK
  clear h hg hks ht2
  go_enter Try.func47, Try.ntmps47
  go_wp2_with fail
  refine HST.out.mono ?_
  rintro e w2 ⟨rfl, o2, gA2, sA2, gB2, sB2, hp2, hu2⟩
  have HP2 := Lib.hid hp2
  have HU2 := Lib.hid hu2
  have hAm := HG2.out.a
  have hBm := HG2.out.b
  have hpos := HG2.out.kept.pos
  have HFD := Lib.hid (rfind_any hs k K HKK.out (by omega) w2 (hp2.at_ (by omega) (by omega)) hpos)
  rcases where_cases (hashT seed) HG2.out.kept gA2 gB2 k with ⟨j, x, c⟩ | ⟨j, x, c⟩ | c | c
  · rw [findT_A c] at HFD
    dsimp only at HFD
    have HC := Lib.hid c
    have hra : hashT seed k % t2.A.length < t2.A.length := Nat.mod_lt _ hpos
    have HAT := Lib.hid (getD_lt hra)
    obtain ⟨r, hr⟩ : ∃ r, hashT seed k % t2.A.length = r := ⟨_, rfl⟩
    obtain ⟨l, hl⟩ : ∃ l, t2.A.getD (hashT seed k % t2.A.length) [] = l := ⟨_, rfl⟩
    have HIT : Hid (l[j]? = some x) := by unfold Hid; rw [← hl]; exact c.at_
    have HDEL : Hid (delS (hashT seed) t2 k = ⟨t2.A.set r (l.take j ++ l.drop (j + 1)), if t2.B.length = 0 ∧ 4 < t2.A.length ∧ (t2.n - 1) * 8 < t2.A.length then List.replicate (t2.A.length / 2) [] else t2.B, t2.moved, t2.n - 1⟩) := by unfold Hid; rw [c.del, hl, hr]
    rw [hl, hr] at HAT
    rw [hr] at HFD hra
    have hbm := HG2.out.bktA HAT.out
    have hnm := HG2.out.n
    have hln : l.length ≤ t2.n := by
      have h1 := all_length HG2.out.cnt
      unfold allT at h1
      rw [List.length_append] at h1
      have := mem_len HAT.out
      omega
    have hjl := (List.getElem?_eq_some_iff.1 HIT.out).1
    clear c hp2 hu2 hl hr
    go_wp2_with fail
    refine HFD.out.mono ?_
    rintro e w3 ⟨rfl, hb3⟩
    have hon := HP2.out.below' hb3
    have HON := Lib.hid hon
    have HB3 := Lib.hid hb3
    obtain ⟨b, cc, hsX, hle, hcc, hbl, _, _⟩ := TbOn.itemR (hon) HAT.out HIT.out
    have hrow := (hon.a.row hpos).cell hra
    have hfz := (hon.a.row hpos).frozen r
    have hga := (hon.a.row hpos).lt
    have hbk := hon.a.bkt r l HAT.out
    rw [hsX] at hbk hrow
    have hQ3 : Q < w3.heap.size := (RT.base_le hon).2
    have c1 : w3.cell? ⟨Q, 1, none⟩ = some (rowV gA2 t2.A.length) := hon.hd.cell (by omega)
    rw [rowV_pos hpos] at c1
    have HWO := Lib.hid (fun W (hW : Below w3.heap.size w3 W) => rwithout_any (l := l) (j := j) W (ownsRow_of_block hbk (fun q hq => by injection hq with hq; subst hq; exact hW.block _ hbl)) rfl (by omega) hjl)
    obtain ⟨n, hn⟩ : ∃ n, l.length = n := ⟨_, rfl⟩
    have HN := Lib.hid hn
    rw [hn] at hrow HWO hle hbm hln hjl
    obtain ⟨na, hna⟩ : ∃ n, t2.A.length = n := ⟨_, rfl⟩
    have HNN := Lib.hid hna
    rw [hna] at c1 hra hpos
    have HPP := Lib.hid hpos
    have hnm2 : na ≤ 2 * m + 4 := by rw [← HNN.out]; assumption
    have HL' : Hid ((l.take j ++ l.drop (j + 1)).length = n - 1) := by unfold Hid; rw [List.length_append, List.length_take, List.length_drop, hn]; omega
    have HKP : Hid (∀ W, Below w3.heap.size w3 W → W.cell? ⟨Q, 1, none⟩ = some (.slice (some ⟨gA2, 0, none⟩) na na) ∧ W.cell? ⟨gA2, r, none⟩ = some (.slice (some ⟨b, 0, none⟩) n cc) ∧ W.frozen? ⟨gA2, r, none⟩ = false) := fun W hW =>
      ⟨(hW.cell (p := ⟨Q, 1, none⟩) hQ3).trans c1, (hW.cell (p := ⟨gA2, r, none⟩) hga).trans hrow, (hW.frozen (p := ⟨gA2, r, none⟩) hga).trans hfz⟩
    obtain ⟨q1, hq1⟩ : ∃ q, t2.n - 1 = q := ⟨_, rfl⟩
    have HQ1 := Lib.hid hq1
    have hwr : IntKind.i64.wrap ((t2.n : Int) - 1) = (q1 : Int) := by rw [IntWalk.i64_in _ (by omega)]; omega
    have hwm : IntKind.i64.wrap ((q1 : Int) * 8) = (q1 : Int) * 8 := IntWalk.i64_in _ (by omega)
    clear hon hb3 hbk hsX hn hna hq1
    go_wp2_with fail
    apply by_oneV (F := fun _ W => ∃ (o3 : Own) (s3 : Nat → Value), TbOn KR W base o3 Q 40 5 (rHdr seed t2.n t2.moved (rowV gA2 t2.A.length) (rowV gB2 t2.B.length)) (t2.A.set r (l.take j ++ l.drop (j + 1))) gA2 s3 t2.B gB2 sB2 ∧ Turns o2 o3 w3 W)
    case h1 =>
      intro HFIN
      go_region_law (go_simp; go_at_call 81; refine (HWO.out _ (by first | exact Below.refl _ _ | exact (Below.refl w3.heap.size w3).drew)).mono ?_; rintro en w5 ⟨v, rfl, hown5, hb5⟩; have hb6 : Below w3.heap.size w3 w5 := (by first | exact hb5 | exact (Below.refl w3.heap.size w3).drew.trans hb5); obtain ⟨k1, k2, k3⟩ := HKP.out w5 hb6; obtain ⟨Av, cv, rfl⟩ := own_form hown5; have HOX := Lib.hid (show w5.ownsRow w3.heap.size KR.te 2 (.slice Av (n - 1) cv) (n - 1) (encIt KR.enc (l.take j ++ l.drop (j + 1))) from hown5); have HB6 := Lib.hid hb6; clear hown5 hb5 hb6)
      all_goals
        have HROUND := rdel_store (HON.out) HAT.out HB6.out HL'.out HOX.out
        obtain ⟨wf, hwf⟩ : ∃ wf, w5.setCell ⟨gA2, r, none⟩ (.slice Av (n - 1) cv) = wf := ⟨_, rfl⟩
        rw [hwf] at HROUND ⊢
        obtain ⟨v9, hv9⟩ : ∃ v9, Value.slice Av (n - 1) cv = v9 := ⟨_, rfl⟩
        rw [hv9]
        exact HFIN.out v9 wf HROUND
    case h2 =>
      intro v9 wf hround
      obtain ⟨o6, s6, h6, u6⟩ := hround
      have h7 : RT wf base o6 Q seed ⟨t2.A.set r (l.take j ++ l.drop (j + 1)), t2.B, t2.moved, t2.n⟩ gA2 s6 gB2 sB2 := by unfold RT; dsimp only; rw [List.length_set]; exact h6
      have HU6 := Lib.hid (HU2.out.trans ((Turns.of_below o2 HB3.out).trans u6))
      have e4 : wf.cell? ⟨Q, 4, none⟩ = some (.int .i64 t2.n) := h7.hd.cell (i := 4) (by omega)
      have ef := h7.hd.frozen 4
      obtain ⟨h8, u8⟩ := h7.setN q1
      obtain ⟨wg, hwg⟩ : ∃ wg, wf.setCell ⟨Q, 4, none⟩ (.int .i64 q1) = wg := ⟨_, rfl⟩
      rw [hwg] at h8 u8
      have HWG := Lib.hid hwg
      have H8 := Lib.hid (show RT wg base o6 Q seed ⟨t2.A.set r (l.take j ++ l.drop (j + 1)), t2.B, t2.moved, q1⟩ gA2 s6 gB2 sB2 from h8)
      have HU8 := Lib.hid (HU6.out.trans u8)
      have c1 : wg.cell? ⟨Q, 1, none⟩ = some (rowV gA2 t2.A.length) := by have q : wg.cell? ⟨Q, 1, none⟩ = some (rowV gA2 (t2.A.set r (l.take j ++ l.drop (j + 1))).length) := h8.hd.cell (i := 1) (by omega); rw [List.length_set] at q; exact q
      have c2 : wg.cell? ⟨Q, 2, none⟩ = some (rowV gB2 t2.B.length) := by have q : wg.cell? ⟨Q, 2, none⟩ = some (rowV gB2 t2.B.length) := h8.hd.cell (i := 2) (by omega); exact q
      have c4 : wg.cell? ⟨Q, 4, none⟩ = some (.int .i64 q1) := h8.hd.cell (i := 4) (by omega)
      have HST2 := Lib.hid (fun nq => (show RT (wg.drewN nq) base o6 Q seed ⟨t2.A.set r (l.take j ++ l.drop (j + 1)), t2.B, t2.moved, q1⟩ gA2 s6 gB2 sB2 from TbOn.below H8.out (bdN _ _ _)))
      have HTT := Lib.hid (fun nq => HU8.out.trans (Turns.of_below o6 (bdN wg.heap.size wg nq)))
      clear h6 u6 h7 h8 u8 hwg hrow hfz
      rw [HNN.out, rowV_pos HPP.out] at c1
      by_cases hB0 : t2.B.length = 0
      · have hBz : t2.B = [] := List.length_eq_zero_iff.1 hB0
        rw [hB0] at c2
        replace c2 : wg.cell? ⟨Q, 2, none⟩ = some (.slice none 0 0) := c2
        by_cases h4 : 4 < na
        · have h4i : (4 : Int) < (na : Int) := by omega
          by_cases h8 : q1 * 8 < na
          · have h8i : (q1 : Int) * 8 < (na : Int) := by omega
            have HGR : Hid (delS (hashT seed) t2 k = ⟨t2.A.set r (l.take j ++ l.drop (j + 1)), List.replicate (na / 2) [], t2.moved, q1⟩) := by unfold Hid; rw [HDEL.out, HQ1.out, HNN.out, if_pos ⟨hB0, h4, h8⟩]
            have HST3 : Hid (∀ nq, RT (wg.drewN nq) base o6 Q seed ⟨t2.A.set r (l.take j ++ l.drop (j + 1)), [], t2.moved, q1⟩ gA2 s6 gB2 sB2) := fun nq => by have q := HST2.out nq; rw [hBz] at q; exact q
            have HFR := Lib.hid (fun nq => RT.fresh (HST3.out nq) (na / 2) (by omega))
            have hq2 : (na : Int) / 2 = ((na / 2 : Nat) : Int) := by omega
            have hns : na / 2 ≤ 400008 := by omega
            obtain ⟨i0, hi0, hy⟩ := Option.map_eq_some_iff.1 info_rbkt
            simp only [Prod.mk.injEq] at hy
            have HY := Lib.hid hy
            have f2 : ∀ (nq : Nat) (o : Obj), ((wg.drewN nq).alloc o).frozen? ⟨Q, 2, none⟩ = false := fun nq o => (TbOn.below (HST3.out nq) ((Below.refl _ _).alloc (Nat.le_refl _) o)).hd.frozen 2
            have c2a : ∀ (nq : Nat) (o : Obj), ((wg.drewN nq).alloc o).cell? ⟨Q, 2, none⟩ = some (.slice none 0 0) := fun nq o => (TbOn.below (HST3.out nq) ((Below.refl _ _).alloc (Nat.le_refl _) o)).hd.cell (i := 2) (by omega)
            obtain ⟨nn, hnn⟩ : ∃ nn, na / 2 = nn := ⟨_, rfl⟩
            rw [hnn] at HFR hq2 HGR hns
            clear h4 h8 hnn hy hBz hB0
            go_wp2_with (rw [HWG.out])
            go_quiet (fail)
            go_wp2_with (at_make; refine wpList_make_row _ rfl _ _ _ rfl 42 i0 (.slice none 0 0) Try.underlying38 hi0 HY.out.1 HY.out.2.1 rfl .i64 .i64 nn ?m1 ?m2 ?m3 (by omega) ?_)
            try case m3 => rw [HY.out.2.2]; omega
            try case m1 => rfl
            try case m2 => rfl
            go_wp2
            go_ret
            obtain ⟨o9, gB9, sB9, h1, h2⟩ := HFR.out nq
            exact ⟨by rw [HC.out.look]; rfl, o9, _, _, gB9, sB9, by rw [HGR.out]; exact h1, (HTT.out nq).trans h2⟩
          · have h8i : ¬ (q1 : Int) * 8 < (na : Int) := by omega
            have HGR : Hid (delS (hashT seed) t2 k = ⟨t2.A.set r (l.take j ++ l.drop (j + 1)), t2.B, t2.moved, q1⟩) := by unfold Hid; rw [HDEL.out, HQ1.out, HNN.out, if_neg (fun q => h8 q.2.2)]
            clear h4 h8 hBz hB0
            go_wp2_with (rw [HWG.out])
            go_quiet (fail)
            go_wp2
            go_ret
            exact ⟨by rw [HC.out.look]; rfl, o6, gA2, s6, gB2, sB2, by rw [HGR.out]; exact HST2.out nq, HTT.out nq⟩
        · have h4i : decide ((4 : Int) < (na : Int)) = false := decide_eq_false (by omega)
          have HGR : Hid (delS (hashT seed) t2 k = ⟨t2.A.set r (l.take j ++ l.drop (j + 1)), t2.B, t2.moved, q1⟩) := by unfold Hid; rw [HDEL.out, HQ1.out, HNN.out, if_neg (fun q => h4 q.2.1)]
          clear h4 hBz hB0
          go_wp2_with (rw [HWG.out])
          go_quiet (fail)
          go_wp2
          go_ret
          exact ⟨by rw [HC.out.look]; rfl, o6, gA2, s6, gB2, sB2, by rw [HGR.out]; exact HST2.out nq, HTT.out nq⟩
      · have hBp : 0 < t2.B.length := by omega
        have hnbi : ((t2.B.length : Int) == 0) = false := by rw [beq_eq_false_iff_ne]; omega
        rw [rowV_pos hBp] at c2
        have HGR : Hid (delS (hashT seed) t2 k = ⟨t2.A.set r (l.take j ++ l.drop (j + 1)), t2.B, t2.moved, q1⟩) := by unfold Hid; rw [HDEL.out, HQ1.out, HNN.out, if_neg (fun q => hB0 q.1)]
        obtain ⟨nb, hnb⟩ : ∃ n, t2.B.length = n := ⟨_, rfl⟩
        rw [hnb] at c2 hnbi hBm
        clear hB0 hBp hnb
        go_wp2_with (rw [HWG.out])
        go_quiet (fail)
        go_wp2
        go_ret
        exact ⟨by rw [HC.out.look]; rfl, o6, gA2, s6, gB2, sB2, by rw [HGR.out]; exact HST2.out nq, HTT.out nq⟩
  · rw [findT_B c] at HFD
    dsimp only at HFD
    have HC := Lib.hid c
    have hBp := c.pos
    have hra : hashT seed k % t2.B.length < t2.B.length := Nat.mod_lt _ hBp
    have HAT := Lib.hid (getD_lt hra)
    obtain ⟨r, hr⟩ : ∃ r, hashT seed k % t2.B.length = r := ⟨_, rfl⟩
    obtain ⟨l, hl⟩ : ∃ l, t2.B.getD (hashT seed k % t2.B.length) [] = l := ⟨_, rfl⟩
    have HIT : Hid (l[j]? = some x) := by unfold Hid; rw [← hl]; exact c.at_
    have HDEL : Hid (delS (hashT seed) t2 k = { t2 with B := t2.B.set r (l.take j ++ l.drop (j + 1)), n := t2.n - 1 }) := by unfold Hid; rw [c.del, hl, hr]
    rw [hl, hr] at HAT
    rw [hr] at HFD hra
    have hbm := HG2.out.bktB HAT.out
    have hnm := HG2.out.n
    have hln : l.length ≤ t2.n := by
      have h1 := all_length HG2.out.cnt
      unfold allT at h1
      rw [List.length_append] at h1
      have := mem_len HAT.out
      omega
    have hjl := (List.getElem?_eq_some_iff.1 HIT.out).1
    clear c hp2 hu2 hl hr
    go_wp2_with fail
    refine HFD.out.mono ?_
    rintro e w3 ⟨rfl, hb3⟩
    have hon := HP2.out.below' hb3
    have HON := Lib.hid hon
    have HB3 := Lib.hid hb3
    obtain ⟨b, cc, hsX, hle, hcc, hbl, _, _⟩ := TbOn.itemR (TbOn.symm hon) HAT.out HIT.out
    have hrow := (hon.b.row hBp).cell hra
    have hfz := (hon.b.row hBp).frozen r
    have hga := (hon.b.row hBp).lt
    have hbk := hon.b.bkt r l HAT.out
    rw [hsX] at hbk hrow
    have hQ3 : Q < w3.heap.size := (RT.base_le hon).2
    have c2 : w3.cell? ⟨Q, 2, none⟩ = some (rowV gB2 t2.B.length) := hon.hd.cell (by omega)
    rw [rowV_pos hBp] at c2
    have HWO := Lib.hid (fun W (hW : Below w3.heap.size w3 W) => rwithout_any (l := l) (j := j) W (ownsRow_of_block hbk (fun q hq => by injection hq with hq; subst hq; exact hW.block _ hbl)) rfl (by omega) hjl)
    obtain ⟨n, hn⟩ : ∃ n, l.length = n := ⟨_, rfl⟩
    have HN := Lib.hid hn
    rw [hn] at hrow HWO hle hbm hln hjl
    obtain ⟨nb, hnb⟩ : ∃ n, t2.B.length = n := ⟨_, rfl⟩
    have HNN := Lib.hid hnb
    rw [hnb] at c2 hra hBp
    have HPP := Lib.hid hBp
    have hnm2 : nb ≤ 2 * m + 4 := by rw [← HNN.out]; assumption
    have HL' : Hid ((l.take j ++ l.drop (j + 1)).length = n - 1) := by unfold Hid; rw [List.length_append, List.length_take, List.length_drop, hn]; omega
    have HKP : Hid (∀ W, Below w3.heap.size w3 W → W.cell? ⟨Q, 2, none⟩ = some (.slice (some ⟨gB2, 0, none⟩) nb nb) ∧ W.cell? ⟨gB2, r, none⟩ = some (.slice (some ⟨b, 0, none⟩) n cc) ∧ W.frozen? ⟨gB2, r, none⟩ = false) := fun W hW =>
      ⟨(hW.cell (p := ⟨Q, 2, none⟩) hQ3).trans c2, (hW.cell (p := ⟨gB2, r, none⟩) hga).trans hrow, (hW.frozen (p := ⟨gB2, r, none⟩) hga).trans hfz⟩
    obtain ⟨q1, hq1⟩ : ∃ q, t2.n - 1 = q := ⟨_, rfl⟩
    have HQ1 := Lib.hid hq1
    have hwr : IntKind.i64.wrap ((t2.n : Int) - 1) = (q1 : Int) := by rw [IntWalk.i64_in _ (by omega)]; omega
    have hwm : IntKind.i64.wrap ((q1 : Int) * 8) = (q1 : Int) * 8 := IntWalk.i64_in _ (by omega)
    clear hon hb3 hbk hsX hn hnb hq1
    go_wp2_with fail
    apply by_oneV (F := fun _ W => ∃ (o3 : Own) (s3 : Nat → Value), TbOn KR W base o3 Q 40 5 (rHdr seed t2.n t2.moved (rowV gA2 t2.A.length) (rowV gB2 t2.B.length)) (t2.B.set r (l.take j ++ l.drop (j + 1))) gB2 s3 t2.A gA2 sA2 ∧ Turns o2 o3 w3 W)
    case h1 =>
      intro HFIN
      go_region_law (go_simp; go_at_call 81; refine (HWO.out _ (by first | exact Below.refl _ _ | exact (Below.refl w3.heap.size w3).drew)).mono ?_; rintro en w5 ⟨v, rfl, hown5, hb5⟩; have hb6 : Below w3.heap.size w3 w5 := (by first | exact hb5 | exact (Below.refl w3.heap.size w3).drew.trans hb5); obtain ⟨k1, k2, k3⟩ := HKP.out w5 hb6; obtain ⟨Av, cv, rfl⟩ := own_form hown5; have HOX := Lib.hid (show w5.ownsRow w3.heap.size KR.te 2 (.slice Av (n - 1) cv) (n - 1) (encIt KR.enc (l.take j ++ l.drop (j + 1))) from hown5); have HB6 := Lib.hid hb6; clear hown5 hb5 hb6)
      all_goals
        have HROUND := rdel_store (TbOn.symm HON.out) HAT.out HB6.out HL'.out HOX.out
        obtain ⟨wf, hwf⟩ : ∃ wf, w5.setCell ⟨gB2, r, none⟩ (.slice Av (n - 1) cv) = wf := ⟨_, rfl⟩
        rw [hwf] at HROUND ⊢
        obtain ⟨v9, hv9⟩ : ∃ v9, Value.slice Av (n - 1) cv = v9 := ⟨_, rfl⟩
        rw [hv9]
        exact HFIN.out v9 wf HROUND
    case h2 =>
      intro v9 wf hround
      obtain ⟨o6, s6, h6, u6⟩ := hround
      have h7 : RT wf base o6 Q seed ⟨t2.A, t2.B.set r (l.take j ++ l.drop (j + 1)), t2.moved, t2.n⟩ gA2 sA2 gB2 s6 := by unfold RT; dsimp only; rw [List.length_set]; exact h6.symm
      have HU6 := Lib.hid (HU2.out.trans ((Turns.of_below o2 HB3.out).trans u6))
      have e4 : wf.cell? ⟨Q, 4, none⟩ = some (.int .i64 t2.n) := h7.hd.cell (i := 4) (by omega)
      have ef := h7.hd.frozen 4
      obtain ⟨h8, u8⟩ := h7.setN q1
      obtain ⟨wg, hwg⟩ : ∃ wg, wf.setCell ⟨Q, 4, none⟩ (.int .i64 q1) = wg := ⟨_, rfl⟩
      rw [hwg] at h8 u8
      have HWG := Lib.hid hwg
      have H8 := Lib.hid (show RT wg base o6 Q seed ⟨t2.A, t2.B.set r (l.take j ++ l.drop (j + 1)), t2.moved, q1⟩ gA2 sA2 gB2 s6 from h8)
      have HU8 := Lib.hid (HU6.out.trans u8)
      have c1 : wg.cell? ⟨Q, 1, none⟩ = some (rowV gA2 t2.A.length) := by have q : wg.cell? ⟨Q, 1, none⟩ = some (rowV gA2 t2.A.length) := h8.hd.cell (i := 1) (by omega); exact q
      have c2 : wg.cell? ⟨Q, 2, none⟩ = some (rowV gB2 t2.B.length) := by have q : wg.cell? ⟨Q, 2, none⟩ = some (rowV gB2 (t2.B.set r (l.take j ++ l.drop (j + 1))).length) := h8.hd.cell (i := 2) (by omega); rw [List.length_set] at q; exact q
      have c4 : wg.cell? ⟨Q, 4, none⟩ = some (.int .i64 q1) := h8.hd.cell (i := 4) (by omega)
      have HST2 := Lib.hid (fun nq => (show RT (wg.drewN nq) base o6 Q seed ⟨t2.A, t2.B.set r (l.take j ++ l.drop (j + 1)), t2.moved, q1⟩ gA2 sA2 gB2 s6 from TbOn.below H8.out (bdN _ _ _)))
      have HTT := Lib.hid (fun nq => HU8.out.trans (Turns.of_below o6 (bdN wg.heap.size wg nq)))
      clear h6 u6 h7 h8 u8 hwg hrow hfz
      have hnbi : ((nb : Int) == 0) = false := by rw [beq_eq_false_iff_ne]; have := HPP.out; omega
      rw [HNN.out, rowV_pos HPP.out] at c2
      go_wp2_with (rw [HWG.out])
      go_quiet (fail)
      go_wp2
      go_ret
      exact ⟨by rw [HC.out.look]; rfl, o6, gA2, sA2, gB2, s6, by rw [HDEL.out, HQ1.out]; exact HST2.out nq, HTT.out nq⟩
  · rw [findT_NA c] at HFD
    dsimp only at HFD
    have HC := Lib.hid c
    clear c hp2 hu2
    go_wp2_with fail
    refine HFD.out.mono ?_
    rintro e w3 ⟨rfl, hb3⟩
    have HB3 := Lib.hid hb3
    clear hb3
    go_wp2
    go_ret
    exact ⟨by rw [HC.out.look]; rfl, o2, gA2, sA2, gB2, sB2, by rw [HC.out.del]; exact HP2.out.below' HB3.out, HU2.out.trans (Turns.of_below o2 HB3.out)⟩
  · rw [findT_NB c] at HFD
    dsimp only at HFD
    have HC := Lib.hid c
    clear c hp2 hu2
    go_wp2_with fail
    refine HFD.out.mono ?_
    rintro e w3 ⟨rfl, hb3⟩
    have HB3 := Lib.hid hb3
    clear hb3
    go_wp2
    go_ret
    exact ⟨by rw [HC.out.look]; rfl, o2, gA2, sA2, gB2, sB2, by rw [HC.out.del]; exact HP2.out.below' HB3.out, HU2.out.trans (Turns.of_below o2 HB3.out)⟩

end Go.Proofs.Ytcjoakbaldeaoaa
