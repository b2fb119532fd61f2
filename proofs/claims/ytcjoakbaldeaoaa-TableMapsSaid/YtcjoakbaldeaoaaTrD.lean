/-
  The document's Put, over a table whose blocks are its own. Conditions: as typed.
-/
import Derived.Test.YtcjoakbaldeaoaaTrC
namespace Go.Proofs.Ytcjoakbaldeaoaa
open Go.RowKit

section
variable {t : Tb Int} {seed gA gB : Nat} {k : List UInt8}

theorem findT_A {j : Nat} {x : List UInt8 × Int} (c : AtA (hashT seed) t gA gB k j x) : findT seed t k = (0, hashT seed k % t.A.length, (j : Int)) := by
  unfold findT
  rw [idxL_eq, idxL_eq, c.ix, if_pos (by omega)]
theorem findT_B {j : Nat} {x : List UInt8 × Int} (c : AtB (hashT seed) t gA gB k j x) : findT seed t k = (1, hashT seed k % t.B.length, (j : Int)) := by
  unfold findT
  rw [idxL_eq, idxL_eq, c.ix.1, c.ix.2, if_neg (by omega), if_pos ⟨c.pos, by omega⟩]
theorem findT_NA (c : NowA (hashT seed) t gA gB k) : findT seed t k = (-1, 0, 0) := by
  unfold findT
  rw [idxL_eq, idxL_eq, c.ix, if_neg (by omega), if_neg (fun q => by have := q.1; have := c.zero; omega)]
theorem findT_NB (c : NowB (hashT seed) t gA gB k) : findT seed t k = (-1, 0, 0) := by
  unfold findT
  rw [idxL_eq, idxL_eq, c.ix.1, c.ix.2, if_neg (by omega), if_neg (fun q => by have := q.2; omega)]
end

theorem TbOn.itemR {base Q nh : Nat} {ow : Own} {tyT : TypeId} {hdr : Nat → Value} {RA RB : List (List (List UInt8 × Int))} {gA gB : Nat} {sA sB : Nat → Value} {w : World} (h : TbOn KR w base ow Q tyT nh hdr RA gA sA RB gB sB) {i j : Nat} {l : List (List UInt8 × Int)} {x : List UInt8 × Int} (hi : RA[i]? = some l) (hj : l[j]? = some x) :
    ∃ b c, sA i = .slice (some ⟨b, 0, none⟩) l.length c ∧ l.length ≤ c ∧ c ≤ 9223372036854775807 ∧ b < w.heap.size ∧ w.cell? ⟨b, j * 2, none⟩ = some (.string ⟨x.1.toArray⟩) ∧ w.cell? ⟨b, j * 2 + 1, none⟩ = some (.int .i64 x.2) := by
  have hb := h.a.bkt i l hi
  have hlt := (List.getElem?_eq_some_iff.1 hj).1
  rcases hb.2 with ⟨h1, h2⟩ | ⟨g, cap, cur, hv, _, hgg, hnc, hcm, _⟩
  · omega
  · rw [hv] at hb
    refine ⟨g, cap, hv, hnc, by have := hcm; simp [maxLen] at this; omega, (Array.getElem?_eq_some_iff.1 hgg).1, ?_, ?_⟩
    · rw [World.ownsRow.cellAt hb (j * 2) (by omega)]
      exact (encIt_get _ l j x hj).1
    · rw [World.ownsRow.cellAt hb (j * 2 + 1) (by omega)]
      exact (encIt_get _ l j x hj).2

theorem rput_round {base Q : Nat} {hdr : Nat → Value} {ow' : Own} {w3 w4 w5 : World} {RX RY : List (List (List UInt8 × Int))} {gX gY : Nat} {sX sY : Nat → Value} {r k cr gg cg N1 : Nat} {Ar : Option Addr} {lr : List (List UInt8 × Int)} {x : List UInt8 × Int} {S : ByteArray}
    (hT : TbOn KR w3 base ow' Q 40 5 hdr RX gX sX RY gY sY) (hB4 : Below w3.heap.size w3 w4) (hRI : RX[r]? = some lr) (hAR : sX r = .slice Ar lr.length cr) (hK : lr.length = k)
    (hGR : w4.grownBy w5 (Value.slice Ar k cr).ownBlock) (hOX : w5.ownsRow base 53 2 (.slice (some ⟨gg, 0, none⟩) (k + 1) cg) (k + 1) (encIt KR.enc lr ++ [.string S, .int .i64 x.2])) (hOR : (Value.slice Ar k cr).ownBlock = some gg ∨ gg = N1) (hz4 : w4.heap.size = N1) (hSE : (⟨x.1.toArray⟩ : ByteArray) = S) :
    ∃ (o3 : Own) (s3 : Nat → Value), TbOn KR (w5.setCell ⟨gX, r, none⟩ (.slice (some ⟨gg, 0, none⟩) (k + 1) cg)) base o3 Q 40 5 hdr (RX.set r (lr ++ [x])) gX s3 RY gY sY ∧ Turns ow' o3 w3 (w5.setCell ⟨gX, r, none⟩ (.slice (some ⟨gg, 0, none⟩) (k + 1) cg)) := by
  subst hK
  obtain ⟨o3, h1, h2⟩ := TbOn.store (hT.below hB4) (l' := lr ++ [x]) (v' := .slice (some ⟨gg, 0, none⟩) (lr.length + 1) cg) hRI (by rw [hAR]; exact hGR) (by
    rw [List.length_append, encIt_app]
    have e : encIt KR.enc [x] = [.string S, .int .i64 x.2] := by rw [← hSE]; rfl
    rw [e]
    exact hOX) (by
    rcases hOR with q | q
    · exact Or.inr (Or.inl (by rw [hAR]; exact q.symm))
    · exact Or.inr (Or.inr ⟨gg, rfl, by have := hB4.size; omega⟩))
  exact ⟨o3, _, h1, (Turns.of_below ow' hB4).trans h2⟩

set_option maxRecDepth 100000 in
set_option maxHeartbeats 16000000 in
theorem rput_any {base Q seed m : Nat} {ow : Own} {t : Tb Int} {gA gB : Nat} {sA sB : Nat → Value} (hs : seed < 18446744073709551616) (k : List UInt8) (K : ByteArray) (hK : K.data.toList = k) (hK63 : K.size ≤ 1000) (v : Int) (w : World) (h : RT w base ow Q seed t gA sA gB sB) (hg : Good (hashT seed) m t) (hm : m ≤ 50000) (hks : KeysT (fun k => k.length ≤ 1000) t) :
    Calls Try.prog 45 #[.pointer (some ⟨Q, 0, none⟩), .string K, .int .i64 v] w fun e w' => e = .returned (.bool (lookT (hashT seed) (stepT (hashT seed) t) k).isSome) ∧ ∃ ow' gA' sA' gB' sB', RT w' base ow' Q seed (putS (hashT seed) (stepT (hashT seed) t) k v) gA' sA' gB' sB' ∧ Turns ow ow' w w' := by
  have HST := Lib.hid (rstep_any hs w h hg hm hks)
  have HG2 := Lib.hid (good_step hg)
  obtain ⟨t2, ht2⟩ : ∃ t2, stepT (hashT seed) t = t2 := ⟨_, rfl⟩
  rw [ht2] at HST HG2 ⊢
  have HKK := Lib.hid hK
  clear h hg hks ht2
  go_enter Try.func45, Try.ntmps45
  go_wp2_with fail
  refine HST.out.mono ?_
  rintro e w2 ⟨rfl, o2, gA2, sA2, gB2, sB2, hp2, hu2⟩
  have HP2 := Lib.hid hp2
  have HU2 := Lib.hid hu2
  have hAm := HG2.out.a
  have hBm := HG2.out.b
  have hpos := HG2.out.kept.pos
  have HFD := Lib.hid (rfind_any hs k K HKK.out (by omega) w2 (hp2.at_ (by omega) (by omega)) hpos)
  rcases where_cases (hashT seed) HG2.out.kept gA2 gB2 k with ⟨j, x, c⟩ | ⟨j, x, c⟩ | c | c
  · rw [findT_A c] at HFD
    dsimp only at HFD
    have HC := Lib.hid c
    have hra : hashT seed k % t2.A.length < t2.A.length := Nat.mod_lt _ hpos
    have HAT := Lib.hid (getD_lt hra)
    obtain ⟨r, hr⟩ : ∃ r, hashT seed k % t2.A.length = r := ⟨_, rfl⟩
    obtain ⟨l, hl⟩ : ∃ l, t2.A.getD (hashT seed k % t2.A.length) [] = l := ⟨_, rfl⟩
    have HIT : Hid (l[j]? = some x) := by unfold Hid; rw [← hl]; exact c.at_
    have HPUT : Hid (putS (hashT seed) t2 k v = { t2 with A := t2.A.set r (l.set j (x.1, v)) }) := by unfold Hid; rw [c.put, hl, hr]
    rw [hl, hr] at HAT
    rw [hr] at HFD hra
    clear c hp2 hu2 hl hr
    go_wp2_with fail
    refine HFD.out.mono ?_
    rintro e w3 ⟨rfl, hb3⟩
    have hon := HP2.out.below' hb3
    have HON := Lib.hid hon
    have HB3 := Lib.hid hb3
    obtain ⟨b, cc, hsX, hle, hcc, hbl, _, hv⟩ := TbOn.itemR hon HAT.out HIT.out
    have hrow := (hon.a.row hpos).cell hra
    have hjl := (List.getElem?_eq_some_iff.1 HIT.out).1
    have hfz : w3.frozen? ⟨b, j * 2 + 1, none⟩ = false := by
      have hb := hon.a.bkt r l HAT.out
      rw [hsX] at hb
      exact World.ownsRow.frozenAt hb _
    have c1 : w3.cell? ⟨Q, 1, none⟩ = some (rowV gA2 t2.A.length) := hon.hd.cell (by omega)
    rw [rowV_pos hpos] at c1
    have HSX := Lib.hid hsX
    rw [hsX] at hrow
    obtain ⟨ln, hln⟩ : ∃ n, l.length = n := ⟨_, rfl⟩
    obtain ⟨na, hna⟩ : ∃ n, t2.A.length = n := ⟨_, rfl⟩
    rw [hln] at hrow hle hjl
    rw [hna] at c1 hra hAm hpos
    clear hon hb3 hsX hln hna
    go_wp2
    go_ret
    obtain ⟨o4, h1, h2⟩ := TbOn.storeV HON.out HAT.out HIT.out HSX.out v
    refine ⟨by rw [HC.out.look]; rfl, o4, gA2, sA2, gB2, sB2, ?_, HU2.out.trans ((Turns.of_below o2 HB3.out).trans h2)⟩
    rw [HPUT.out]
    unfold RT
    dsimp only
    rw [List.length_set]
    exact h1
  · rw [findT_B c] at HFD
    dsimp only at HFD
    have HC := Lib.hid c
    have hBp := c.pos
    have hra : hashT seed k % t2.B.length < t2.B.length := Nat.mod_lt _ hBp
    have HAT := Lib.hid (getD_lt hra)
    obtain ⟨r, hr⟩ : ∃ r, hashT seed k % t2.B.length = r := ⟨_, rfl⟩
    obtain ⟨l, hl⟩ : ∃ l, t2.B.getD (hashT seed k % t2.B.length) [] = l := ⟨_, rfl⟩
    have HIT : Hid (l[j]? = some x) := by unfold Hid; rw [← hl]; exact c.at_
    have HPUT : Hid (putS (hashT seed) t2 k v = { t2 with B := t2.B.set r (l.set j (x.1, v)) }) := by unfold Hid; rw [c.put, hl, hr]
    rw [hl, hr] at HAT
    rw [hr] at HFD hra
    clear c hp2 hu2 hl hr
    go_wp2_with fail
    refine HFD.out.mono ?_
    rintro e w3 ⟨rfl, hb3⟩
    have hon := HP2.out.below' hb3
    have HON := Lib.hid hon
    have HB3 := Lib.hid hb3
    obtain ⟨b, cc, hsX, hle, hcc, hbl, _, hv⟩ := TbOn.itemR (TbOn.symm hon) HAT.out HIT.out
    have hrow := (hon.b.row hBp).cell hra
    have hjl := (List.getElem?_eq_some_iff.1 HIT.out).1
    have hfz : w3.frozen? ⟨b, j * 2 + 1, none⟩ = false := by
      have hb := hon.b.bkt r l HAT.out
      rw [hsX] at hb
      exact World.ownsRow.frozenAt hb _
    have c2 : w3.cell? ⟨Q, 2, none⟩ = some (rowV gB2 t2.B.length) := hon.hd.cell (by omega)
    rw [rowV_pos hBp] at c2
    have HSX := Lib.hid hsX
    rw [hsX] at hrow
    obtain ⟨ln, hln⟩ : ∃ n, l.length = n := ⟨_, rfl⟩
    obtain ⟨nb, hnb⟩ : ∃ n, t2.B.length = n := ⟨_, rfl⟩
    rw [hln] at hrow hle hjl
    rw [hnb] at c2 hra hBm hBp
    clear hon hb3 hsX hln hnb
    go_wp2
    go_ret
    obtain ⟨o4, h1, h2⟩ := TbOn.storeV (TbOn.symm HON.out) HAT.out HIT.out HSX.out v
    refine ⟨by rw [HC.out.look]; rfl, o4, gA2, sA2, gB2, sB2, ?_, HU2.out.trans ((Turns.of_below o2 HB3.out).trans h2)⟩
    rw [HPUT.out]
    unfold RT
    dsimp only
    rw [List.length_set]
    exact h1.symm
  · rw [findT_NA c] at HFD
    dsimp only at HFD
    have HC := Lib.hid c
    have hra : hashT seed k % t2.A.length < t2.A.length := Nat.mod_lt _ hpos
    have HAT := Lib.hid (getD_lt hra)
    obtain ⟨r, hr⟩ : ∃ r, hashT seed k % t2.A.length = r := ⟨_, rfl⟩
    obtain ⟨l, hl⟩ : ∃ l, t2.A.getD (hashT seed k % t2.A.length) [] = l := ⟨_, rfl⟩
    have HPUT : Hid (putS (hashT seed) t2 k v = growT ⟨t2.A.set r (l ++ [(k, v)]), [], t2.moved, t2.n + 1⟩) := by
      unfold Hid
      rw [c.put, hl, hr]
      unfold growT
      dsimp only
      rw [List.length_set]
      by_cases hq : t2.A.length < t2.n + 1
      · rw [if_pos hq, if_pos ⟨rfl, hq⟩]
      · rw [if_neg hq, if_neg (fun q => hq q.2)]
    have HBZ : Hid (t2.B = []) := List.length_eq_zero_iff.1 c.zero
    rw [hl, hr] at HAT
    rw [hr] at hra
    have HHR := Lib.hid hr
    have hbm := HG2.out.bktA HAT.out
    have hnm := HG2.out.n
    clear c hp2 hu2 hl hr
    go_wp2_with fail
    refine HFD.out.mono ?_
    rintro e w3 ⟨rfl, hb3⟩
    have hon := HP2.out.below' hb3
    have HB3 := Lib.hid hb3
    obtain ⟨q1, hq1⟩ : ∃ q, t2.n + 1 = q := ⟨_, rfl⟩
    have hwr : IntKind.i64.wrap ((t2.n : Int) + 1) = (q1 : Int) := by rw [IntWalk.i64_in _ (by omega)]; omega
    have e4 : w3.cell? ⟨Q, 4, none⟩ = some (.int .i64 t2.n) := hon.hd.cell (by omega)
    have ef := hon.hd.frozen 4
    obtain ⟨h7, u7⟩ := hon.setN q1
    obtain ⟨w4, hw4⟩ : ∃ w4, w3.setCell ⟨Q, 4, none⟩ (.int .i64 q1) = w4 := ⟨_, rfl⟩
    rw [hw4] at h7 u7
    have HW4 := Lib.hid hw4
    have H7 := Lib.hid h7
    have HU7 := Lib.hid (HU2.out.trans ((Turns.of_below o2 hb3).trans u7))
    have c0 : w4.cell? ⟨Q, 0, none⟩ = some (.int .u64 seed) := h7.hd.cell (by omega)
    have c1 : w4.cell? ⟨Q, 1, none⟩ = some (rowV gA2 t2.A.length) := h7.hd.cell (by omega)
    have c2 : w4.cell? ⟨Q, 2, none⟩ = some (rowV gB2 t2.B.length) := h7.hd.cell (by omega)
    rw [rowV_pos hpos] at c1
    replace c2 : w4.cell? ⟨Q, 2, none⟩ = some (.slice none 0 0) := by rw [c2, HC.out.zero]; rfl
    have HQ1 := Lib.hid hq1
    obtain ⟨na, hna⟩ : ∃ n, t2.A.length = n := ⟨_, rfl⟩
    have HNN := Lib.hid hna
    rw [hna] at c1 hra
    have hpp : 0 < na := by omega
    have hpi : (0 : Int) < (na : Int) := by omega
    have hmm : na ≤ 400000 := by omega
    have hbu := rbucket_same Q seed na hs (by omega) (by omega) K w4 c0 (by omega)
    rw [HKK.out, ← hna, HHR.out, hna] at hbu
    have HBU := Lib.hid hbu
    obtain ⟨ip, hip, hyp⟩ := Option.map_eq_some_iff.1 info_item
    simp only [Prod.mk.injEq] at hyp
    have HIP := Lib.hid hyp
    have hrow := (h7.a.row (by dsimp only; omega)).cell (i := r) (by dsimp only; omega)
    have hgbl := (h7.a.row (by dsimp only; omega)).lt
    have hown := h7.a.bkt r l HAT.out
    obtain ⟨Ar, cr, hAr⟩ : ∃ A c, sA2 r = .slice A l.length c := by
      rcases hown.2 with ⟨h1, h2⟩ | ⟨g, cap, cur, hv, _⟩
      · exact ⟨none, 0, by rw [h1, h2]⟩
      · exact ⟨_, _, hv⟩
    have HNBB : Hid (∀ k, (Value.slice Ar l.length cr).ownBlock = some k → k ≠ gA2 ∧ k ≠ Q) := fun k hk =>
      ⟨TbOn.bA (h7) HAT.out (by rw [hAr]; exact hk), TbOn.bQ (h7) HAT.out (by rw [hAr]; exact hk)⟩
    have HAR := Lib.hid hAr
    rw [hAr] at hrow hown
    obtain ⟨kk, hkk⟩ : ∃ kk, l.length = kk := ⟨_, rfl⟩
    have HK := Lib.hid hkk
    rw [hkk] at hrow hown hbm HNBB
    have HOW := Lib.hid hown
    have hbase : base ≤ w4.heap.size := by have := RT.base_le h7; omega
    have qa : (w4.alloc (.cells #[.string K, .int .i64 v] 53)).cell? ⟨gA2, r, none⟩ = some (.slice Ar kk cr) := (((Below.refl w4.heap.size w4).alloc (Nat.le_refl _) _).cell (p := ⟨gA2, r, none⟩) hgbl).trans hrow
    have qc : (w4.alloc (.cells #[.string K, .int .i64 v] 53)).cell? ⟨Q, 1, none⟩ = some (.slice (some ⟨gA2, 0, none⟩) na na) := (((Below.refl w4.heap.size w4).alloc (Nat.le_refl _) _).cell (p := ⟨Q, 1, none⟩) (World.block_lt_of_cell? w4 _ c1)).trans c1
    have hQ4 : Q < w4.heap.size := (RT.base_le h7).2
    have hz4 : (w4.alloc (.cells #[.string K, .int .i64 v] 53)).drew.heap.size = w4.heap.size + 1 := by show (w4.alloc (.cells #[.string K, .int .i64 v] 53)).heap.size = _; simp
    have E1 := Lib.hid (show (w4.alloc (.cells #[.string K, .int .i64 v] 53)).drew.ownsRow base 53 2 (.slice Ar kk cr) kk (encIt KR.enc l) from HOW.out.alloc (.cells #[.string K, .int .i64 v] 53))
    have E2 := Lib.hid (show ∀ j u, [Value.string K, .int .i64 v][j]? = some u → (w4.alloc (.cells #[.string K, .int .i64 v] 53)).drew.cell? ((⟨w4.heap.size, 0, none⟩ : Addr).add j) = some u from World.news_of_block (cs := #[.string K, .int .i64 v]) (t := 53) (fr := (0, 0)) (heap_alloc_new w4 _))
    have E3 := Lib.hid (show base ≤ (w4.alloc (.cells #[.string K, .int .i64 v] 53)).drew.heap.size from by rw [hz4]; omega)
    have E4 := Lib.hid hz4
    have E5 := Lib.hid (show gA2 < (w4.alloc (.cells #[.string K, .int .i64 v] 53)).drew.heap.size from by rw [hz4]; omega)
    have E6 := Lib.hid (show (w4.alloc (.cells #[.string K, .int .i64 v] 53)).drew.cell? ⟨gA2, r, none⟩ = some (.slice Ar kk cr) from qa)
    have E7 := Lib.hid (show (w4.alloc (.cells #[.string K, .int .i64 v] 53)).drew.frozen? ⟨gA2, r, none⟩ = false from (((TbOn.below h7 ((Below.refl w4.heap.size w4).alloc (Nat.le_refl _) (.cells #[.string K, .int .i64 v] 53))).a.row (by dsimp only; omega)).frozen r))
    have E8 := Lib.hid (show Q < (w4.alloc (.cells #[.string K, .int .i64 v] 53)).drew.heap.size from by rw [hz4]; omega)
    have E9 := Lib.hid (show (w4.alloc (.cells #[.string K, .int .i64 v] 53)).drew.cell? ⟨Q, 1, none⟩ = some (.slice (some ⟨gA2, 0, none⟩) na na) from qc)
    have HB4 := Lib.hid (show Below w4.heap.size w4 (w4.alloc (.cells #[.string K, .int .i64 v] 53)).drew from ((Below.refl w4.heap.size w4).alloc (Nat.le_refl _) (.cells #[.string K, .int .i64 v] 53)).drew)
    have HSE : Hid ((⟨((k, v) : List UInt8 × Int).1.toArray⟩ : ByteArray) = K) := by
      unfold Hid
      show (⟨k.toArray⟩ : ByteArray) = K
      rw [← HKK.out]
    clear hon hb3 h7 u7 hw4 hq1 hna hbu hyp hAr hkk hown hz4
    go_wp2_with (rw [HW4.out])
    refine HBU.out.mono ?_
    rintro e wb ⟨rfl, rfl⟩
    go_wp2_with fail
    apply by_one (F := fun gg cg W => ∃ (o3 : Own) (s3 : Nat → Value), TbOn KR W base o3 Q 40 5 (rHdr seed q1 t2.moved (rowV gA2 t2.A.length) (rowV gB2 t2.B.length)) (t2.A.set r (l ++ [(k, v)])) gA2 s3 t2.B gB2 sB2 ∧ Turns o2 o3 wb W)
    case h1 =>
      intro HFIN
      go_region_law (refine step_append_lies _ (by rfl) _ _ _ (by rfl) base 53 ip _ 2 24 Try.underlying42 hip HIP.out.1 HIP.out.2.1 HIP.out.2.2 rfl (by omega) (.slice Ar kk cr) kk (encIt KR.enc l) (by simp [Act.eval]) (by exact E1.out) ⟨wb.heap.size, 0, none⟩ 1 1 [.string K, .int .i64 v] (by simp [Act.eval]) (by rfl) (by exact E2.out) (by simp [Value.oneCell']) (by omega) (by unfold maxLen; omega) (by omega) (by exact E3.out) (wb.heap.size + 1) (by exact E4.out) ?_; intro gg cg w5 hown5 hgrow hor hgg; have hz5 := hgrow.size; have hbG := hgrow.block gA2 (by exact E5.out) (fun e => (HNBB.out gA2 e.symm).1 rfl); have hbQ := hgrow.block Q (by exact E8.out) (fun e => (HNBB.out Q e.symm).2 rfl); have p2 := (World.cell?_of_block (a := ⟨Q, 1, none⟩) hbQ).trans E9.out; have p3 := (World.cell?_of_block (a := ⟨gA2, r, none⟩) hbG).trans E6.out; have pf := (World.frozen?_of_block (a := ⟨gA2, r, none⟩) hbG).trans E7.out; have HGR := Lib.hid hgrow; have HOX := Lib.hid hown5; have HOR := Lib.hid hor; clear hgrow hbG hbQ hown5 hgg hor)
      all_goals
        have HROUND := rput_round (x := (k, v)) (S := K) (H7.out) HB4.out HAT.out HAR.out HK.out HGR.out HOX.out HOR.out E4.out HSE.out
        obtain ⟨wf, hwf⟩ : ∃ wf, w5.setCell ⟨gA2, r, none⟩ (.slice (some ⟨gg, 0, none⟩) (kk + 1) cg) = wf := ⟨_, rfl⟩
        rw [hwf] at HROUND ⊢
        exact HFIN.out gg cg wf HROUND
    case h2 =>
      intro gg cg wf hround
      obtain ⟨o6, s6, h6, u6⟩ := hround
      have H6 := Lib.hid h6
      have HU6 := Lib.hid (HU7.out.trans u6)
      clear h6 u6 qc qa hrow c0 c1 c2 e4 ef
      have HP6 : Hid (RT wf base o6 Q seed ⟨t2.A.set r (l ++ [(k, v)]), [], t2.moved, q1⟩ gA2 s6 gB2 sB2) := by
        unfold Hid RT
        dsimp only
        have q := H6.out
        rw [HBZ.out] at q
        rw [List.length_set]
        exact q
      have g1 : wf.cell? ⟨Q, 1, none⟩ = some (rowV gA2 (t2.A.set r (l ++ [(k, v)])).length) := HP6.out.hd.cell (i := 1) (by omega)
      have g4 : wf.cell? ⟨Q, 4, none⟩ = some (.int .i64 q1) := HP6.out.hd.cell (i := 4) (by omega)
      rw [List.length_set, HNN.out, rowV_pos hpp] at g1
      have HST2 := Lib.hid (fun nq => (show RT (wf.drewN nq) base o6 Q seed ⟨t2.A.set r (l ++ [(k, v)]), [], t2.moved, q1⟩ gA2 s6 gB2 sB2 from TbOn.below HP6.out (bdN _ _ _)))
      have HTT := Lib.hid (fun nq => HU6.out.trans (Turns.of_below o6 (bdN wf.heap.size wf nq)))
      by_cases hgr : na < q1
      · have hgr' : (na : Int) < (q1 : Int) := by omega
        have hwN : IntKind.i64.wrap (2 * (na : Int)) = ((2 * na : Nat) : Int) := by rw [IntWalk.i64_in _ (by omega)]; omega
        have hns : 2 * na ≤ 800008 := by omega
        have HGR : Hid (putS (hashT seed) t2 k v = ⟨t2.A.set r (l ++ [(k, v)]), List.replicate (2 * na) [], t2.moved, q1⟩) := by unfold Hid; rw [HPUT.out, HQ1.out]; unfold growT; dsimp only; rw [List.length_set, HNN.out, if_pos ⟨rfl, hgr⟩]
        have HFR := Lib.hid (fun nq => RT.fresh (HST2.out nq) (2 * na) (by omega))
        obtain ⟨i0, hi0, hy⟩ := Option.map_eq_some_iff.1 info_rbkt
        simp only [Prod.mk.injEq] at hy
        have HY := Lib.hid hy
        have f2 : ∀ (nq : Nat) (o : Obj), ((wf.drewN nq).alloc o).frozen? ⟨Q, 2, none⟩ = false := fun nq o => (TbOn.below (HST2.out nq) ((Below.refl _ _).alloc (Nat.le_refl _) o)).hd.frozen 2
        have c2a : ∀ (nq : Nat) (o : Obj), ((wf.drewN nq).alloc o).cell? ⟨Q, 2, none⟩ = some (.slice none 0 0) := fun nq o => (TbOn.below (HST2.out nq) ((Below.refl _ _).alloc (Nat.le_refl _) o)).hd.cell (i := 2) (by omega)
        obtain ⟨nn, hnn⟩ : ∃ nn, 2 * na = nn := ⟨_, rfl⟩
        rw [hnn] at HFR hwN HGR hns
        clear hgr hnn hy
        go_wp2_with fail
        go_quiet (fail)
        go_wp2_with (at_make; refine wpList_make_row _ rfl _ _ _ rfl 42 i0 (.slice none 0 0) Try.underlying38 hi0 HY.out.1 HY.out.2.1 rfl .i64 .i64 nn ?m1 ?m2 ?m3 (by omega) ?_)
        try case m3 => rw [HY.out.2.2]; omega
        try case m1 => rfl
        try case m2 => rfl
        go_wp2
        go_ret
        obtain ⟨o9, gB9, sB9, h1, h2⟩ := HFR.out nq
        exact ⟨by rw [HC.out.look]; rfl, o9, _, _, gB9, sB9, by rw [HGR.out]; exact h1, (HTT.out nq).trans h2⟩
      · have hgr' : ¬ (na : Int) < (q1 : Int) := by omega
        have HGR : Hid (putS (hashT seed) t2 k v = ⟨t2.A.set r (l ++ [(k, v)]), [], t2.moved, q1⟩) := by unfold Hid; rw [HPUT.out, HQ1.out]; unfold growT; dsimp only; rw [List.length_set, HNN.out, if_neg (fun q => hgr q.2)]
        clear hgr
        go_wp2_with fail
        go_quiet (fail)
        go_wp2
        go_ret
        exact ⟨by rw [HC.out.look]; rfl, o6, gA2, s6, gB2, sB2, by rw [HGR.out]; exact HST2.out nq, HTT.out nq⟩
  · rw [findT_NB c] at HFD
    dsimp only at HFD
    have HC := Lib.hid c
    have hBp := c.pos
    have hra : hashT seed k % t2.B.length < t2.B.length := Nat.mod_lt _ hBp
    have HAT := Lib.hid (getD_lt hra)
    obtain ⟨r, hr⟩ : ∃ r, hashT seed k % t2.B.length = r := ⟨_, rfl⟩
    obtain ⟨l, hl⟩ : ∃ l, t2.B.getD (hashT seed k % t2.B.length) [] = l := ⟨_, rfl⟩
    have HPUT : Hid (putS (hashT seed) t2 k v = { t2 with B := t2.B.set r (l ++ [(k, v)]), n := t2.n + 1 }) := by unfold Hid; rw [c.put, hl, hr]
    rw [hl, hr] at HAT
    rw [hr] at hra
    have HHR := Lib.hid hr
    have hbm := HG2.out.bktB HAT.out
    have hnm := HG2.out.n
    clear c hp2 hu2 hl hr
    go_wp2_with fail
    refine HFD.out.mono ?_
    rintro e w3 ⟨rfl, hb3⟩
    have hon := HP2.out.below' hb3
    have HB3 := Lib.hid hb3
    obtain ⟨q1, hq1⟩ : ∃ q, t2.n + 1 = q := ⟨_, rfl⟩
    have hwr : IntKind.i64.wrap ((t2.n : Int) + 1) = (q1 : Int) := by rw [IntWalk.i64_in _ (by omega)]; omega
    have e4 : w3.cell? ⟨Q, 4, none⟩ = some (.int .i64 t2.n) := hon.hd.cell (by omega)
    have ef := hon.hd.frozen 4
    obtain ⟨h7, u7⟩ := hon.setN q1
    obtain ⟨w4, hw4⟩ : ∃ w4, w3.setCell ⟨Q, 4, none⟩ (.int .i64 q1) = w4 := ⟨_, rfl⟩
    rw [hw4] at h7 u7
    have HW4 := Lib.hid hw4
    have H7 := Lib.hid h7
    have HU7 := Lib.hid (HU2.out.trans ((Turns.of_below o2 hb3).trans u7))
    have c0 : w4.cell? ⟨Q, 0, none⟩ = some (.int .u64 seed) := h7.hd.cell (by omega)
    have c1 : w4.cell? ⟨Q, 1, none⟩ = some (rowV gA2 t2.A.length) := h7.hd.cell (by omega)
    have c2 : w4.cell? ⟨Q, 2, none⟩ = some (rowV gB2 t2.B.length) := h7.hd.cell (by omega)
    rw [rowV_pos hpos] at c1
    rw [rowV_pos hBp] at c2
    have HQ1 := Lib.hid hq1
    obtain ⟨nb, hnb⟩ : ∃ n, t2.B.length = n := ⟨_, rfl⟩
    have HNN := Lib.hid hnb
    rw [hnb] at c2 hra
    have hpp : 0 < nb := by omega
    have hpi : (0 : Int) < (nb : Int) := by omega
    have hmm : nb ≤ 400000 := by omega
    have hbu := rbucket_same Q seed nb hs (by omega) (by omega) K w4 c0 (by omega)
    rw [HKK.out, ← hnb, HHR.out, hnb] at hbu
    have HBU := Lib.hid hbu
    obtain ⟨ip, hip, hyp⟩ := Option.map_eq_some_iff.1 info_item
    simp only [Prod.mk.injEq] at hyp
    have HIP := Lib.hid hyp
    have hrow := (h7.b.row (by dsimp only; omega)).cell (i := r) (by dsimp only; omega)
    have hgbl := (h7.b.row (by dsimp only; omega)).lt
    have hown := h7.b.bkt r l HAT.out
    obtain ⟨Ar, cr, hAr⟩ : ∃ A c, sB2 r = .slice A l.length c := by
      rcases hown.2 with ⟨h1, h2⟩ | ⟨g, cap, cur, hv, _⟩
      · exact ⟨none, 0, by rw [h1, h2]⟩
      · exact ⟨_, _, hv⟩
    have HNBB : Hid (∀ k, (Value.slice Ar l.length cr).ownBlock = some k → k ≠ gB2 ∧ k ≠ Q) := fun k hk =>
      ⟨TbOn.bA (h7.symm) HAT.out (by rw [hAr]; exact hk), TbOn.bQ (h7.symm) HAT.out (by rw [hAr]; exact hk)⟩
    have HAR := Lib.hid hAr
    rw [hAr] at hrow hown
    obtain ⟨kk, hkk⟩ : ∃ kk, l.length = kk := ⟨_, rfl⟩
    have HK := Lib.hid hkk
    rw [hkk] at hrow hown hbm HNBB
    have HOW := Lib.hid hown
    have hbase : base ≤ w4.heap.size := by have := RT.base_le h7; omega
    have qa : (w4.alloc (.cells #[.string K, .int .i64 v] 53)).cell? ⟨gB2, r, none⟩ = some (.slice Ar kk cr) := (((Below.refl w4.heap.size w4).alloc (Nat.le_refl _) _).cell (p := ⟨gB2, r, none⟩) hgbl).trans hrow
    have qc : (w4.alloc (.cells #[.string K, .int .i64 v] 53)).cell? ⟨Q, 2, none⟩ = some (.slice (some ⟨gB2, 0, none⟩) nb nb) := (((Below.refl w4.heap.size w4).alloc (Nat.le_refl _) _).cell (p := ⟨Q, 2, none⟩) (World.block_lt_of_cell? w4 _ c2)).trans c2
    have hQ4 : Q < w4.heap.size := (RT.base_le h7).2
    have hz4 : (w4.alloc (.cells #[.string K, .int .i64 v] 53)).drew.heap.size = w4.heap.size + 1 := by show (w4.alloc (.cells #[.string K, .int .i64 v] 53)).heap.size = _; simp
    have E1 := Lib.hid (show (w4.alloc (.cells #[.string K, .int .i64 v] 53)).drew.ownsRow base 53 2 (.slice Ar kk cr) kk (encIt KR.enc l) from HOW.out.alloc (.cells #[.string K, .int .i64 v] 53))
    have E2 := Lib.hid (show ∀ j u, [Value.string K, .int .i64 v][j]? = some u → (w4.alloc (.cells #[.string K, .int .i64 v] 53)).drew.cell? ((⟨w4.heap.size, 0, none⟩ : Addr).add j) = some u from World.news_of_block (cs := #[.string K, .int .i64 v]) (t := 53) (fr := (0, 0)) (heap_alloc_new w4 _))
    have E3 := Lib.hid (show base ≤ (w4.alloc (.cells #[.string K, .int .i64 v] 53)).drew.heap.size from by rw [hz4]; omega)
    have E4 := Lib.hid hz4
    have E5 := Lib.hid (show gB2 < (w4.alloc (.cells #[.string K, .int .i64 v] 53)).drew.heap.size from by rw [hz4]; omega)
    have E6 := Lib.hid (show (w4.alloc (.cells #[.string K, .int .i64 v] 53)).drew.cell? ⟨gB2, r, none⟩ = some (.slice Ar kk cr) from qa)
    have E7 := Lib.hid (show (w4.alloc (.cells #[.string K, .int .i64 v] 53)).drew.frozen? ⟨gB2, r, none⟩ = false from (((TbOn.below h7 ((Below.refl w4.heap.size w4).alloc (Nat.le_refl _) (.cells #[.string K, .int .i64 v] 53))).b.row (by dsimp only; omega)).frozen r))
    have E8 := Lib.hid (show Q < (w4.alloc (.cells #[.string K, .int .i64 v] 53)).drew.heap.size from by rw [hz4]; omega)
    have E9 := Lib.hid (show (w4.alloc (.cells #[.string K, .int .i64 v] 53)).drew.cell? ⟨Q, 2, none⟩ = some (.slice (some ⟨gB2, 0, none⟩) nb nb) from qc)
    have HB4 := Lib.hid (show Below w4.heap.size w4 (w4.alloc (.cells #[.string K, .int .i64 v] 53)).drew from ((Below.refl w4.heap.size w4).alloc (Nat.le_refl _) (.cells #[.string K, .int .i64 v] 53)).drew)
    have HSE : Hid ((⟨((k, v) : List UInt8 × Int).1.toArray⟩ : ByteArray) = K) := by
      unfold Hid
      show (⟨k.toArray⟩ : ByteArray) = K
      rw [← HKK.out]
    clear hon hb3 h7 u7 hw4 hq1 hnb hbu hyp hAr hkk hown hz4
    go_wp2_with (rw [HW4.out])
    refine HBU.out.mono ?_
    rintro e wb ⟨rfl, rfl⟩
    go_wp2_with fail
    apply by_one (F := fun gg cg W => ∃ (o3 : Own) (s3 : Nat → Value), TbOn KR W base o3 Q 40 5 (rHdr seed q1 t2.moved (rowV gA2 t2.A.length) (rowV gB2 t2.B.length)) (t2.B.set r (l ++ [(k, v)])) gB2 s3 t2.A gA2 sA2 ∧ Turns o2 o3 wb W)
    case h1 =>
      intro HFIN
      go_region_law (refine step_append_lies _ (by rfl) _ _ _ (by rfl) base 53 ip _ 2 24 Try.underlying42 hip HIP.out.1 HIP.out.2.1 HIP.out.2.2 rfl (by omega) (.slice Ar kk cr) kk (encIt KR.enc l) (by simp [Act.eval]) (by exact E1.out) ⟨wb.heap.size, 0, none⟩ 1 1 [.string K, .int .i64 v] (by simp [Act.eval]) (by rfl) (by exact E2.out) (by simp [Value.oneCell']) (by omega) (by unfold maxLen; omega) (by omega) (by exact E3.out) (wb.heap.size + 1) (by exact E4.out) ?_; intro gg cg w5 hown5 hgrow hor hgg; have hz5 := hgrow.size; have hbG := hgrow.block gB2 (by exact E5.out) (fun e => (HNBB.out gB2 e.symm).1 rfl); have hbQ := hgrow.block Q (by exact E8.out) (fun e => (HNBB.out Q e.symm).2 rfl); have p2 := (World.cell?_of_block (a := ⟨Q, 2, none⟩) hbQ).trans E9.out; have p3 := (World.cell?_of_block (a := ⟨gB2, r, none⟩) hbG).trans E6.out; have pf := (World.frozen?_of_block (a := ⟨gB2, r, none⟩) hbG).trans E7.out; have HGR := Lib.hid hgrow; have HOX := Lib.hid hown5; have HOR := Lib.hid hor; clear hgrow hbG hbQ hown5 hgg hor)
      all_goals
        have HROUND := rput_round (x := (k, v)) (S := K) (TbOn.symm H7.out) HB4.out HAT.out HAR.out HK.out HGR.out HOX.out HOR.out E4.out HSE.out
        obtain ⟨wf, hwf⟩ : ∃ wf, w5.setCell ⟨gB2, r, none⟩ (.slice (some ⟨gg, 0, none⟩) (kk + 1) cg) = wf := ⟨_, rfl⟩
        rw [hwf] at HROUND ⊢
        exact HFIN.out gg cg wf HROUND
    case h2 =>
      intro gg cg wf hround
      obtain ⟨o6, s6, h6, u6⟩ := hround
      have H6 := Lib.hid h6
      have HU6 := Lib.hid (HU7.out.trans u6)
      clear h6 u6 qc qa hrow c0 c1 c2 e4 ef
      go_wp2
      go_ret
      refine ⟨by rw [HC.out.look]; rfl, o6, gA2, sA2, gB2, s6, ?_, HU6.out⟩
      rw [HPUT.out]
      unfold RT
      dsimp only
      rw [List.length_set, HQ1.out]
      exact H6.out.symm

end Go.Proofs.Ytcjoakbaldeaoaa
