/-
  The walk of the statement ReplyPieces: it answers true. Conditions: both replies lie in memory as trees of bulk at most 1048576; the listed variables hold what the program's own text lays; the search's own measure holds a number.
-/
import Derived.Test.YtbldahkgilkclaaDoorRiG
import Derived.Test.YtbldahkgilkclaaDoorRzV
import Derived.Test.YtbldahkgilkclaaDoorRzY
import Derived.Deep.RegionHeld3
namespace Go.Proofs.YtbldahkgilkclaaDoor
open Go.RowKit

/-- What is known of a reply that Check bears. -/
theorem borne {w : World} {x : RI} {cs : List Value} (h : RepI w x cs) : checkI x = 0 → MayR 8 (toRT x) ∧ writeI x = writeR (toRT x) ∧ mayI x = true ∧ 1 ≤ (writeI x).length := by
  intro q
  unfold checkI at q
  have h1 : nestsI x 8 = false := by
    cases hq : nestsI x 8 with
    | false => rfl
    | true => rw [hq] at q; simp at q
  have h2 : mayI x = true := by
    cases hq : mayI x with
    | true => rfl
    | false => rw [h1, hq] at q; simp at q
  obtain ⟨a, b⟩ := valid_I _ x (Nat.le_refl _) 8 _ h h2 h1
  refine ⟨a, b, h2, ?_⟩
  have h1 := decode_read a []
  have h2 := decS_pos (writeR (toRT x) ++ []) (by rw [h1])
  rw [h1] at h2
  rw [b]
  exact h2

set_option maxRecDepth 100000 in
set_option maxHeartbeats 32000000 in
theorem replyPieces_walk (x y : RI) (hbx : bulkI x ≤ 1048576) (hby : bulkI y ≤ 1048576) (cs ds : List Value) (cut : Int) (h20 : -9223372036854775808 ≤ cut) (h21 : cut ≤ 9223372036854775807) (w : World) (h6 : 6 ≤ w.heap.size) (h : RepI w x cs) (h' : RepI w y ds) (hT : Tabs8 w) (hp : Pows w) :
    Calls Tryd.prog 5 #[.agg cs.toArray, .agg ds.toArray, .int .i64 cut] w fun e w' => e = .returned (.bool true) ∧ Below w.heap.size w w' := by
  have hB := pows_lt' hp
  obtain ⟨k, T, n, A, m, c, rfl⟩ := h.parts
  obtain ⟨k', T', n', A', m', c', rfl⟩ := h'.parts
  obtain ⟨wb, hwb⟩ : ∃ wb, w.alloc (.cells #[.int .i64 k, .string T, .int .i64 n, .slice A m c] 25) = wb := ⟨_, rfl⟩
  have hnew : wb.heap[w.heap.size]? = some (.cells #[.int .i64 k, .string T, .int .i64 n, .slice A m c] 25) := by rw [← hwb]; exact World.alloc_heap_new w _
  have hbw : Below w.heap.size w wb := by rw [← hwb]; exact (Below.refl _ _).alloc (Nat.le_refl _) _
  have hsb : wb.heap.size = w.heap.size + 1 := by rw [← hwb]; simp
  obtain ⟨wc, hwc⟩ : ∃ wc, wb.alloc (.cells #[.int .i64 k', .string T', .int .i64 n', .slice A' m' c'] 25) = wc := ⟨_, rfl⟩
  have hnewc : wc.heap[w.heap.size + 1]? = some (.cells #[.int .i64 k', .string T', .int .i64 n', .slice A' m' c'] 25) := by rw [← hwc, ← hsb]; exact World.alloc_heap_new wb _
  have hbc0 : Below wb.heap.size wb wc := by rw [← hwc]; exact (Below.refl _ _).alloc (Nat.le_refl _) _
  have hsc : wc.heap.size = w.heap.size + 2 := by rw [← hwc]; simp [hsb]
  have hbc : Below w.heap.size w wc := hbw.trans (hbc0.mono (by omega))
  have hnewb := (hbc0.block w.heap.size (by omega)).trans hnew
  have HE := Lib.hid (pencode_I x hbx wc _ (h.low hbc) (hp.on hbc hB) (by omega))
  have HE' := Lib.hid (fun w1 (hb1 : Below wc.heap.size wc w1) => pencode_I y hby w1 _ ((h'.low hbc).low hb1) ((hp.on hbc hB).on hb1 (by omega)) (by have := hb1.size; omega))
  have hle := writeI_le h hbx
  have hle' := writeI_le h' hby
  have HV := Lib.hid (borne h)
  have HV' := Lib.hid (borne h')
  obtain ⟨E, hE⟩ : ∃ E, checkI x = E := ⟨_, rfl⟩
  obtain ⟨Y, hY⟩ : ∃ Y, writeI x = Y := ⟨_, rfl⟩
  rw [hE] at HE HV
  rw [hY] at HE HV hle
  obtain ⟨E', hE'⟩ : ∃ E, checkI y = E := ⟨_, rfl⟩
  obtain ⟨Y', hY'⟩ : ∃ Y, writeI y = Y := ⟨_, rfl⟩
  rw [hE'] at HE' HV'
  rw [hY'] at HE' HV' hle'
  have HX := Lib.hid h
  have HX' := Lib.hid h'
  have HT8 := Lib.hid hT
  have HP := Lib.hid hp
  have HWB := Lib.hid hwb
  have HWC := Lib.hid hwc
  have HNB := Lib.hid hnewb
  have HNC := Lib.hid hnewc
  have HBC := Lib.hid hbc
  clear hwb hwc hnew hnewb hnewc hbw hbc hbc0 h h' hT hp hE hY hE' hY'
  go_enter Tryd.func5, Tryd.ntmps5
  go_wp2_with fail
  rw [HWB.out, HWC.out]
  refine HE.out.mono ?_
  rintro e w1 ⟨hb1, hres1⟩
  have HR1 := Lib.hid hres1
  have HB1 := Lib.hid (HBC.out.trans (hb1.mono (by omega)))
  have HB1c := Lib.hid hb1
  have hz1 : w.heap.size + 2 ≤ w1.heap.size := by have := hb1.size; omega
  have HN1 := Lib.hid ((hb1.block w.heap.size (by omega)).trans HNB.out)
  have HN1' := Lib.hid ((hb1.block (w.heap.size + 1) (by omega)).trans HNC.out)
  clear hb1 hres1
  have s0 : w1.cell? ⟨w.heap.size + 1, 0, none⟩ = some (.int .i64 k') := cell_in HN1'.out
  have s1 : w1.cell? ⟨w.heap.size + 1, 1, none⟩ = some (.string T') := cell_in HN1'.out
  have s2 : w1.cell? ⟨w.heap.size + 1, 2, none⟩ = some (.int .i64 n') := cell_in HN1'.out
  have s3 : w1.cell? ⟨w.heap.size + 1, 3, none⟩ = some (.slice A' m' c') := cell_in HN1'.out
  have HE2 := Lib.hid (HE'.out w1 HB1c.out)
  rcases HR1.out with ⟨hne, rfl⟩ | ⟨rfl, v1, rfl, hown1⟩
  · have hne' : (E != 0) = true := by simp [hne]
    clear HR1
    go_wp2_with fail
    refine HE2.out.mono ?_
    rintro e w2 ⟨hb2, hres2⟩
    have HB2 := Lib.hid (HB1.out.trans (hb2.mono HB1.out.size))
    have HAL := Lib.hid (yalive_any w2 (HP.out.on HB2.out hB) (Nat.lt_of_lt_of_le hB HB2.out.size))
    clear hb2 s0 s1 s2 s3
    rcases hres2 with ⟨_, rfl⟩ | ⟨_, v2, rfl, hown2⟩
    · go_wp2_with fail
      refine HAL.out.mono ?_
      rintro e w3 ⟨rfl, hb3⟩
      have HB3 := Lib.hid (HB2.out.trans (hb3.mono HB2.out.size))
      clear hb3
      go_wp2
      go_ret
      exact ⟨rfl, HB3.out⟩
    · obtain ⟨A2, c2, rfl⟩ := ownsRow_form hown2
      clear hown2
      go_wp2_with fail
      refine HAL.out.mono ?_
      rintro e w3 ⟨rfl, hb3⟩
      have HB3 := Lib.hid (HB2.out.trans (hb3.mono HB2.out.size))
      clear hb3
      go_wp2
      go_ret
      exact ⟨rfl, HB3.out⟩
  · obtain ⟨hMay, hYe, hmay, hYp⟩ := HV.out rfl
    rcases hown1.2 with ⟨_, hl0⟩ | ⟨g1, c1, cur1, rfl, hg1, hh1, hn1, hm1, _⟩
    · omega
    have HO1 := Lib.hid hown1
    have hg1w : g1 < w1.heap.size := (Array.getElem?_eq_some_iff.1 hh1).1
    have HMAY := Lib.hid hMay
    have HYE := Lib.hid hYe
    have HMX := Lib.hid hmay
    clear hown1 hMay hYe hmay hh1 HE HV HR1
    go_wp2_with fail
    refine HE2.out.mono ?_
    rintro e w2 ⟨hb2, hres2⟩
    have HB2 := Lib.hid (HB1.out.trans (hb2.mono HB1.out.size))
    have HO2a := Lib.hid (ownsRow_below HO1.out hb2)
    have hz2 := hb2.size
    have HN2 := Lib.hid ((hb2.block w.heap.size (by omega)).trans HN1.out)
    have HN2' := Lib.hid ((hb2.block (w.heap.size + 1) (by omega)).trans HN1'.out)
    clear hb2 s0 s1 s2 s3 HE2 HE'
    rcases hres2 with ⟨hne, rfl⟩ | ⟨rfl, v2, rfl, hown2⟩
    · have hne' : (E' != 0) = true := by simp [hne]
      have HAL := Lib.hid (yalive_any w2 (HP.out.on HB2.out hB) (Nat.lt_of_lt_of_le hB HB2.out.size))
      go_wp2_with fail
      refine HAL.out.mono ?_
      rintro e w3 ⟨rfl, hb3⟩
      have HB3 := Lib.hid (HB2.out.trans (hb3.mono HB2.out.size))
      clear hb3
      go_wp2
      go_ret
      exact ⟨rfl, HB3.out⟩
    · obtain ⟨hMay', hYe', hmay', hYp'⟩ := HV'.out rfl
      rcases hown2.2 with ⟨_, hl0⟩ | ⟨g2, c2, cur2, rfl, hg2, hh2, hn2, hm2, _⟩
      · omega
      have HO2 := Lib.hid hown2
      have HALL := Lib.hid (all_two HMAY.out hMay')
      rw [← HYE.out, ← hYe'] at HALL
      have HMX' := Lib.hid hmay'
      clear hown2 hMay' hYe' hmay' hh2 HV'
      have hm1' : c1 ≤ 9223372036854775807 := by unfold maxLen at hm1; omega
      by_cases hcut : 0 ≤ cut ∧ cut < (Y.length : Int)
      · obtain ⟨q, rfl⟩ : ∃ q : Nat, cut = (q : Int) := ⟨cut.toNat, by omega⟩
        have hq : q < Y.length := by omega
        have hlq : (Y.take q).length = q := by rw [List.length_take]; omega
        have HD0 := Lib.hid (ydecode_any (some ⟨g1, 0, none⟩) g1 0 c1 (Y.take q) w2 (by have := HB2.out.size; omega) (fun _ => rfl) (fun _ => by omega) ((own_bytes HO2a.out).take q) (by omega) hm1' (HT8.out.below HB2.out h6))
        rw [show decS (Y.take q) = (rt0, (q, 31)) from by rw [HYE.out]; exact decode_cut HMAY.out (by rw [← HYE.out]; exact hq), hlq] at HD0
        dsimp only at HD0
        clear hlq
        go_wp2_with fail
        refine HD0.out.mono ?_
        rintro e w3 ⟨hb3, K0, T0, n0, A0, l0, cc0, rfl, hx3⟩
        obtain ⟨wd, hwd⟩ : ∃ wd, w3.alloc (.cells #[.int .i64 K0, .string T0, .int .i64 n0, .slice A0 l0 cc0] 25) = wd := ⟨_, rfl⟩
        have hbd : Below w3.heap.size w3 wd := by rw [← hwd]; exact (Below.refl _ _).alloc (Nat.le_refl _) _
        have hbd2 : Below w2.heap.size w2 wd := hb3.trans (hbd.mono hb3.size)
        have HBD := Lib.hid (HB2.out.trans (hbd2.mono HB2.out.size))
        have HOa := Lib.hid (ownsRow_below HO2a.out hbd2)
        have HOb := Lib.hid (ownsRow_below HO2.out hbd2)
        have HND := Lib.hid ((hbd2.block w.heap.size (by omega)).trans HN2.out)
        have HND' := Lib.hid ((hbd2.block (w.heap.size + 1) (by omega)).trans HN2'.out)
        have hzd := hbd2.size
        have HQD := Lib.hid hwd
        have hrq := congrArg World.heap hwd
        clear hb3 hx3 hbd hbd2 hwd HD0 HO2 HO2a HN2 HN2' hrq
        have hown0 : ((w3.alloc (.cells #[.int .i64 K0, .string T0, .int .i64 n0, .slice A0 l0 cc0] 25)).alloc (.cells #[] 5)).ownsRow (w3.heap.size + 1) 5 1 (.slice (some ⟨w3.heap.size + 1, 0, none⟩) 0 0) ([] : List UInt8).length (Lib.byteCells []) :=
          ⟨rfl, .inr ⟨w3.heap.size + 1, 0, #[], rfl, Nat.le_refl _, (by have q := World.alloc_heap_new (w3.alloc (.cells #[.int .i64 K0, .string T0, .int .i64 n0, .slice A0 l0 cc0] 25)) (.cells #[] 5); first | exact q | (rw [World.size_alloc] at q; exact q)), Nat.le_refl _, Nat.zero_le _, rfl, rfl⟩⟩
        have hal : Below wd.heap.size wd (wd.alloc (.cells #[] 5)) := (Below.refl _ _).alloc (Nat.le_refl _) _
        have HAL0 := Lib.hid hal
        have hsY := (SrcAt.own HOa.out).below hal
        rw [← HQD.out] at hsY
        clear hal
        go_wp2_with (at_builtin; refine wpList_append_src rfl _ _ rfl (w3.heap.size + 1) _ _ rfl hown0 _ Y rfl hsY ?c1 ?c2 ?c3 ?_)
        try case c1 => first | (show 0 + Y.length ≤ maxLen; unfold maxLen; omega) | (unfold maxLen; omega)
        try case c2 => first | (show (0 + Y.length) * 1 ≤ _; omega) | omega
        try case c3 => simp
        intro v4 w4 hown4 hgr4 _ _
        try simp only [List.nil_append] at hown4
        rw [HQD.out] at hgr4
        have hsd : wd.heap.size = w3.heap.size + 1 := by rw [← HQD.out]; simp
        rw [← hsd] at hgr4
        have hb4 : Below wd.heap.size wd w4 := HAL0.out.grown hgr4 (by simp) (fun k hk => by
          simp only [Value.ownBlock, Option.some.injEq] at hk
          exact Nat.le_of_eq hk)
        have hs4 := (SrcAt.own HOb.out).below hb4
        have hz4 := hb4.size
        obtain ⟨A4, c4, rfl⟩ := ownsRow_form hown4
        clear hown0 hgr4 hsY
        go_wp2_with (at_builtin; refine wpList_append_src rfl _ _ rfl (w3.heap.size + 1) _ Y rfl hown4 _ Y' rfl hs4 ?c4 ?c5 ?c6 ?_)
        try case c4 => unfold maxLen; omega
        try case c5 => omega
        try case c6 => omega
        intro v5 w5 hown5 hgr5 _ _
        try rw [← List.length_append] at hown5
        have hb5 : Below wd.heap.size wd w5 := hb4.grown hgr5 hz4 (fun k hk => by have := (own_lt hown4 hk).1; omega)
        have hzl : (Y ++ Y').length ≤ 20000000 := by rw [List.length_append]; omega
        have hzn : (Y ++ Y').length = Y.length + Y'.length := List.length_append
        have HA2 := Lib.hid HALL.out
        obtain ⟨Z, hZ⟩ : ∃ Z, Y ++ Y' = Z := ⟨_, rfl⟩
        rw [hZ] at hown5 HA2 hzl hzn
        have HZN := Lib.hid hzn
        rcases hown5.2 with ⟨_, hl0⟩ | ⟨g5, c5, cur5, rfl, hg5, hh5, hn5, hm5, _⟩
        · omega
        have HB5 := Lib.hid (HBD.out.trans (hb5.mono HBD.out.size))
        have HD := Lib.hid (yall_any (some ⟨g5, 0, none⟩) g5 0 c5 Z w5 (by have := HB5.out.size; omega) (fun _ => ⟨rfl, (Array.getElem?_eq_some_iff.1 hh5).1⟩) (fun h => by cases h) (own_bytes hown5) hn5 (by unfold maxLen at hm5; omega) (by omega) (HT8.out.below HB5.out h6))
        unfold AllPost at HD
        rw [HA2.out] at HD
        dsimp only at HD
        have HN5 := Lib.hid ((hb5.block w.heap.size (by omega)).trans HND.out)
        have HN5' := Lib.hid ((hb5.block (w.heap.size + 1) (by omega)).trans HND'.out)
        have hz5 := hb5.size
        try skip
        clear hb4 hs4 hown4 hgr5 hown5 hb5 hh5 hZ hz4 HA2 hzn
        go_wp2_with fail
        refine HD.out.mono ?_
        rintro e w6 ⟨hb6, A6, c6, rfl, hx6⟩
        have HB6 := Lib.hid (HB5.out.trans (hb6.mono HB5.out.size))
        have HN6 := Lib.hid ((hb6.block w.heap.size (by omega)).trans HN5.out)
        have HN6' := Lib.hid ((hb6.block (w.heap.size + 1) (by omega)).trans HN5'.out)
        have hz6 := hb6.size
        obtain ⟨T6, A6', c6', he6, _, _, hk6⟩ := hx6.form
        obtain ⟨g, o, a0, a1, a2, a3, rfl, hg, ⟨p0, p1, p2, p3⟩, hra⟩ := hk6 0 _ rfl
        obtain ⟨g', o', b0, b1, b2, b3, hAA, hg', ⟨q0, q1, q2, q3⟩, hrb⟩ := hk6 1 _ rfl
        injection hAA with hAA
        injection hAA with e1 e2 _
        subst e1 e2
        simp only [List.cons.injEq, Value.slice.injEq] at he6
        obtain ⟨_, _, _, ⟨rfl, _, rfl⟩, _⟩ := he6
        have HRX := Lib.hid (RepAt.toI _ x (Nat.le_refl _) HMX.out _ _ HX.out hra)
        have HRY := Lib.hid (RepAt.toI _ y (Nat.le_refl _) HMX'.out _ _ HX'.out hrb)
        obtain ⟨i0, i1, i2, i3, i4, i5, hi⟩ := HRX.out.parts
        injection hi with e0 hi; injection hi with e1 hi; injection hi with e2 hi; injection hi with e3 _
        subst e0 e1 e2 e3
        obtain ⟨j0, j1, j2, j3, j4, j5, hj⟩ := HRY.out.parts
        injection hj with e0 hj; injection hj with e1 hj; injection hj with e2 hj; injection hj with e3 _
        subst e0 e1 e2 e3
        have HXW := Lib.hid (HX.out.low HB6.out)
        have HYW := Lib.hid (HX'.out.low HB6.out)
        have HC1 := Lib.hid (fun (W : World) (hW : Below w6.heap.size w6 W) => rsame_I _ x (Nat.le_refl _) x W _ _ _ _ _ _ _ _ (HRX.out.low hW) (HXW.out.low hW))
        have HC2 := Lib.hid (fun (W : World) (hW : Below w6.heap.size w6 W) => rsame_I _ y (Nat.le_refl _) y W _ _ _ _ _ _ _ _ (HRY.out.low hW) (HYW.out.low hW))
        rw [sameI_refl] at HC1 HC2
        have HC3 := Lib.hid (fun (W : World) (hW : Below w6.heap.size w6 W) => yalive_any W ((HP.out.on HB6.out hB).on hW (by omega)) (by have := hW.size; omega))
        have r0 : w6.cell? ⟨w.heap.size, 0, none⟩ = some (.int .i64 k) := cell_in HN6.out
        have r1 : w6.cell? ⟨w.heap.size, 1, none⟩ = some (.string T) := cell_in HN6.out
        have r2 : w6.cell? ⟨w.heap.size, 2, none⟩ = some (.int .i64 n) := cell_in HN6.out
        have r3 : w6.cell? ⟨w.heap.size, 3, none⟩ = some (.slice A m c) := cell_in HN6.out
        have HQ0 := Lib.hid q0
        have HQ1 := Lib.hid q1
        have HQ2 := Lib.hid q2
        have HQ3 := Lib.hid q3
        have HS0 : Hid (w6.cell? ⟨w.heap.size + 1, 0, none⟩ = some (.int .i64 k')) := cell_in HN6'.out
        have HS1 : Hid (w6.cell? ⟨w.heap.size + 1, 1, none⟩ = some (.string T')) := cell_in HN6'.out
        have HS2 : Hid (w6.cell? ⟨w.heap.size + 1, 2, none⟩ = some (.int .i64 n')) := cell_in HN6'.out
        have HS3 : Hid (w6.cell? ⟨w.heap.size + 1, 3, none⟩ = some (.slice A' m' c')) := cell_in HN6'.out
        have hlg := hg
        have hls : w.heap.size + 1 < w6.heap.size := by omega
        clear hb6 hx6 hk6 hra hrb HD q0 q1 q2 q3
        simp only [Nat.zero_mul, Nat.one_mul, Nat.add_zero] at p0 p1 p2 p3 HQ0 HQ1 HQ2 HQ3
        go_wp2
        have HK : Hid (∀ W : World, Below w6.heap.size w6 W → Below w6.heap.size w6 W ∧ W.cell? ⟨g, o, none⟩ = some (.int .i64 i0) ∧ W.cell? ⟨g, o + 1, none⟩ = some (.string i1) ∧ W.cell? ⟨g, o + 2, none⟩ = some (.int .i64 i2) ∧ W.cell? ⟨g, o + 3, none⟩ = some (.slice i3 i4 i5) ∧ W.cell? ⟨g, o + 4, none⟩ = some (.int .i64 j0) ∧ W.cell? ⟨g, o + 5, none⟩ = some (.string j1) ∧ W.cell? ⟨g, o + 6, none⟩ = some (.int .i64 j2) ∧ W.cell? ⟨g, o + 7, none⟩ = some (.slice j3 j4 j5) ∧ W.cell? ⟨w.heap.size, 0, none⟩ = some (.int .i64 k) ∧ W.cell? ⟨w.heap.size, 1, none⟩ = some (.string T) ∧ W.cell? ⟨w.heap.size, 2, none⟩ = some (.int .i64 n) ∧ W.cell? ⟨w.heap.size, 3, none⟩ = some (.slice A m c) ∧ W.cell? ⟨w.heap.size + 1, 0, none⟩ = some (.int .i64 k') ∧ W.cell? ⟨w.heap.size + 1, 1, none⟩ = some (.string T') ∧ W.cell? ⟨w.heap.size + 1, 2, none⟩ = some (.int .i64 n') ∧ W.cell? ⟨w.heap.size + 1, 3, none⟩ = some (.slice A' m' c')) := fun W hW =>
          ⟨hW, (hW.cell (p := ⟨g, o, none⟩) hlg).trans p0, (hW.cell (p := ⟨g, o + 1, none⟩) hlg).trans p1, (hW.cell (p := ⟨g, o + 2, none⟩) hlg).trans p2, (hW.cell (p := ⟨g, o + 3, none⟩) hlg).trans p3,
            (hW.cell (p := ⟨g, o + 4, none⟩) hlg).trans HQ0.out, (hW.cell (p := ⟨g, o + 5, none⟩) hlg).trans HQ1.out, (hW.cell (p := ⟨g, o + 6, none⟩) hlg).trans HQ2.out, (hW.cell (p := ⟨g, o + 7, none⟩) hlg).trans HQ3.out,
            (hW.cell (p := ⟨w.heap.size, 0, none⟩) (by show w.heap.size < _; omega)).trans r0, (hW.cell (p := ⟨w.heap.size, 1, none⟩) (by show w.heap.size < _; omega)).trans r1, (hW.cell (p := ⟨w.heap.size, 2, none⟩) (by show w.heap.size < _; omega)).trans r2, (hW.cell (p := ⟨w.heap.size, 3, none⟩) (by show w.heap.size < _; omega)).trans r3,
            (hW.cell (p := ⟨w.heap.size + 1, 0, none⟩) hls).trans HS0.out, (hW.cell (p := ⟨w.heap.size + 1, 1, none⟩) hls).trans HS1.out, (hW.cell (p := ⟨w.heap.size + 1, 2, none⟩) hls).trans HS2.out, (hW.cell (p := ⟨w.heap.size + 1, 3, none⟩) hls).trans HS3.out⟩
        clear p0 p1 p2 p3 r0 r1 r2 r3 HQ0 HQ1 HQ2 HQ3 HS0 HS1 HS2 HS3
        have hwr : IntKind.i64.wrap ((Y.length : Int) + (Y'.length : Int)) = (Y.length : Int) + (Y'.length : Int) := IntWalk.i64_in _ (by omega)
        go_region_held3 (fun w' => Below w6.heap.size w6 w' ∧ w'.cell? ⟨g, o, none⟩ = some (.int .i64 i0) ∧ w'.cell? ⟨g, o + 1, none⟩ = some (.string i1) ∧ w'.cell? ⟨g, o + 2, none⟩ = some (.int .i64 i2) ∧ w'.cell? ⟨g, o + 3, none⟩ = some (.slice i3 i4 i5) ∧ w'.cell? ⟨g, o + 4, none⟩ = some (.int .i64 j0) ∧ w'.cell? ⟨g, o + 5, none⟩ = some (.string j1) ∧ w'.cell? ⟨g, o + 6, none⟩ = some (.int .i64 j2) ∧ w'.cell? ⟨g, o + 7, none⟩ = some (.slice j3 j4 j5) ∧ w'.cell? ⟨w.heap.size, 0, none⟩ = some (.int .i64 k) ∧ w'.cell? ⟨w.heap.size, 1, none⟩ = some (.string T) ∧ w'.cell? ⟨w.heap.size, 2, none⟩ = some (.int .i64 n) ∧ w'.cell? ⟨w.heap.size, 3, none⟩ = some (.slice A m c) ∧ w'.cell? ⟨w.heap.size + 1, 0, none⟩ = some (.int .i64 k') ∧ w'.cell? ⟨w.heap.size + 1, 1, none⟩ = some (.string T') ∧ w'.cell? ⟨w.heap.size + 1, 2, none⟩ = some (.int .i64 n') ∧ w'.cell? ⟨w.heap.size + 1, 3, none⟩ = some (.slice A' m' c'))
          (first | exact HK.out _ HB9.out | exact HK.out _ HB8.out | exact HK.out _ HB7.out | exact HK.out _ (Below.refl _ _).drew | exact HK.out _ (Below.refl _ _))
          (first
          | (have hq8 := HB8; clear hq8; go_at_call 12; refine (HC3.out _ HB8.out).mono ?_; rintro en w9 ⟨rfl, hb9⟩; have HB9 := Lib.hid (show Below w6.heap.size w6 w9 from HB8.out.trans (hb9.mono HB8.out.size)); clear hb9)
          | (have hq7 := HB7; clear hq7; go_at_call 11; refine (HC2.out _ HB7.out).mono ?_; rintro en w8 ⟨rfl, hb8⟩; have HB8 := Lib.hid (show Below w6.heap.size w6 w8 from HB7.out.trans (hb8.mono HB7.out.size)); clear hb8)
          | (go_at_call 11; refine (HC1.out _ (by first | exact (Below.refl _ _).drew | exact Below.refl _ _)).mono ?_; rintro en w7 ⟨rfl, hb7⟩; have HB7 := Lib.hid (show Below w6.heap.size w6 w7 from by first | exact (Below.refl w6.heap.size w6).drew.trans hb7 | exact hb7); clear hb7))
        all_goals
          go_wp2
          go_ret
          exact ⟨rfl, HB6.out.trans (HB9.out.mono HB6.out.size)⟩
      · have hcut' : ¬ 0 ≤ cut ∨ ¬ cut < (Y.length : Int) := by
          by_cases h0 : 0 ≤ cut
          · exact Or.inr (fun h => hcut ⟨h0, h⟩)
          · exact Or.inl h0
        obtain ⟨wd, hwd⟩ : ∃ wd, w2 = wd := ⟨_, rfl⟩
        subst hwd
        have HBD := Lib.hid HB2.out
        have HOa := Lib.hid HO2a.out
        have HOb := Lib.hid HO2.out
        have HND := Lib.hid HN2.out
        have HND' := Lib.hid HN2'.out
        have hzd := Nat.le_refl w2.heap.size
        clear hcut HO2 HO2a HN2 HN2'
        rcases hcut' with hcut | hcut
        · skip
          have hown0 : (w2.alloc (.cells #[] 5)).ownsRow (w2.heap.size) 5 1 (.slice (some ⟨w2.heap.size, 0, none⟩) 0 0) ([] : List UInt8).length (Lib.byteCells []) :=
            ⟨rfl, .inr ⟨w2.heap.size, 0, #[], rfl, Nat.le_refl _, (by have q := World.alloc_heap_new w2 (.cells #[] 5); first | exact q | (rw [World.size_alloc] at q; exact q)), Nat.le_refl _, Nat.zero_le _, rfl, rfl⟩⟩
          have hal : Below w2.heap.size w2 (w2.alloc (.cells #[] 5)) := (Below.refl _ _).alloc (Nat.le_refl _) _
          have HAL0 := Lib.hid hal
          have hsY := (SrcAt.own HOa.out).below hal
          clear hal
          go_wp2_with (at_builtin; refine wpList_append_src rfl _ _ rfl (w2.heap.size) _ _ rfl hown0 _ Y rfl hsY ?c1 ?c2 ?c3 ?_)
          try case c1 => first | (show 0 + Y.length ≤ maxLen; unfold maxLen; omega) | (unfold maxLen; omega)
          try case c2 => first | (show (0 + Y.length) * 1 ≤ _; omega) | omega
          try case c3 => simp
          intro v4 w4 hown4 hgr4 _ _
          try simp only [List.nil_append] at hown4
          have hb4 : Below w2.heap.size w2 w4 := HAL0.out.grown hgr4 (by simp) (fun k hk => by
            simp only [Value.ownBlock, Option.some.injEq] at hk
            exact Nat.le_of_eq hk)
          have hs4 := (SrcAt.own HOb.out).below hb4
          have hz4 := hb4.size
          obtain ⟨A4, c4, rfl⟩ := ownsRow_form hown4
          clear hown0 hgr4 hsY
          go_wp2_with (at_builtin; refine wpList_append_src rfl _ _ rfl (w2.heap.size) _ Y rfl hown4 _ Y' rfl hs4 ?c4 ?c5 ?c6 ?_)
          try case c4 => unfold maxLen; omega
          try case c5 => omega
          try case c6 => omega
          intro v5 w5 hown5 hgr5 _ _
          try rw [← List.length_append] at hown5
          have hb5 : Below w2.heap.size w2 w5 := hb4.grown hgr5 hz4 (fun k hk => by have := (own_lt hown4 hk).1; omega)
          have hzl : (Y ++ Y').length ≤ 20000000 := by rw [List.length_append]; omega
          have hzn : (Y ++ Y').length = Y.length + Y'.length := List.length_append
          have HA2 := Lib.hid HALL.out
          obtain ⟨Z, hZ⟩ : ∃ Z, Y ++ Y' = Z := ⟨_, rfl⟩
          rw [hZ] at hown5 HA2 hzl hzn
          have HZN := Lib.hid hzn
          rcases hown5.2 with ⟨_, hl0⟩ | ⟨g5, c5, cur5, rfl, hg5, hh5, hn5, hm5, _⟩
          · omega
          have HB5 := Lib.hid (HBD.out.trans (hb5.mono HBD.out.size))
          have HD := Lib.hid (yall_any (some ⟨g5, 0, none⟩) g5 0 c5 Z w5 (by have := HB5.out.size; omega) (fun _ => ⟨rfl, (Array.getElem?_eq_some_iff.1 hh5).1⟩) (fun h => by cases h) (own_bytes hown5) hn5 (by unfold maxLen at hm5; omega) (by omega) (HT8.out.below HB5.out h6))
          unfold AllPost at HD
          rw [HA2.out] at HD
          dsimp only at HD
          have HN5 := Lib.hid ((hb5.block w.heap.size (by omega)).trans HND.out)
          have HN5' := Lib.hid ((hb5.block (w.heap.size + 1) (by omega)).trans HND'.out)
          have hz5 := hb5.size
          try skip
          clear hb4 hs4 hown4 hgr5 hown5 hb5 hh5 hZ hz4 HA2 hzn
          go_wp2_with fail
          refine HD.out.mono ?_
          rintro e w6 ⟨hb6, A6, c6, rfl, hx6⟩
          have HB6 := Lib.hid (HB5.out.trans (hb6.mono HB5.out.size))
          have HN6 := Lib.hid ((hb6.block w.heap.size (by omega)).trans HN5.out)
          have HN6' := Lib.hid ((hb6.block (w.heap.size + 1) (by omega)).trans HN5'.out)
          have hz6 := hb6.size
          obtain ⟨T6, A6', c6', he6, _, _, hk6⟩ := hx6.form
          obtain ⟨g, o, a0, a1, a2, a3, rfl, hg, ⟨p0, p1, p2, p3⟩, hra⟩ := hk6 0 _ rfl
          obtain ⟨g', o', b0, b1, b2, b3, hAA, hg', ⟨q0, q1, q2, q3⟩, hrb⟩ := hk6 1 _ rfl
          injection hAA with hAA
          injection hAA with e1 e2 _
          subst e1 e2
          simp only [List.cons.injEq, Value.slice.injEq] at he6
          obtain ⟨_, _, _, ⟨rfl, _, rfl⟩, _⟩ := he6
          have HRX := Lib.hid (RepAt.toI _ x (Nat.le_refl _) HMX.out _ _ HX.out hra)
          have HRY := Lib.hid (RepAt.toI _ y (Nat.le_refl _) HMX'.out _ _ HX'.out hrb)
          obtain ⟨i0, i1, i2, i3, i4, i5, hi⟩ := HRX.out.parts
          injection hi with e0 hi; injection hi with e1 hi; injection hi with e2 hi; injection hi with e3 _
          subst e0 e1 e2 e3
          obtain ⟨j0, j1, j2, j3, j4, j5, hj⟩ := HRY.out.parts
          injection hj with e0 hj; injection hj with e1 hj; injection hj with e2 hj; injection hj with e3 _
          subst e0 e1 e2 e3
          have HXW := Lib.hid (HX.out.low HB6.out)
          have HYW := Lib.hid (HX'.out.low HB6.out)
          have HC1 := Lib.hid (fun (W : World) (hW : Below w6.heap.size w6 W) => rsame_I _ x (Nat.le_refl _) x W _ _ _ _ _ _ _ _ (HRX.out.low hW) (HXW.out.low hW))
          have HC2 := Lib.hid (fun (W : World) (hW : Below w6.heap.size w6 W) => rsame_I _ y (Nat.le_refl _) y W _ _ _ _ _ _ _ _ (HRY.out.low hW) (HYW.out.low hW))
          rw [sameI_refl] at HC1 HC2
          have HC3 := Lib.hid (fun (W : World) (hW : Below w6.heap.size w6 W) => yalive_any W ((HP.out.on HB6.out hB).on hW (by omega)) (by have := hW.size; omega))
          have r0 : w6.cell? ⟨w.heap.size, 0, none⟩ = some (.int .i64 k) := cell_in HN6.out
          have r1 : w6.cell? ⟨w.heap.size, 1, none⟩ = some (.string T) := cell_in HN6.out
          have r2 : w6.cell? ⟨w.heap.size, 2, none⟩ = some (.int .i64 n) := cell_in HN6.out
          have r3 : w6.cell? ⟨w.heap.size, 3, none⟩ = some (.slice A m c) := cell_in HN6.out
          have HQ0 := Lib.hid q0
          have HQ1 := Lib.hid q1
          have HQ2 := Lib.hid q2
          have HQ3 := Lib.hid q3
          have HS0 : Hid (w6.cell? ⟨w.heap.size + 1, 0, none⟩ = some (.int .i64 k')) := cell_in HN6'.out
          have HS1 : Hid (w6.cell? ⟨w.heap.size + 1, 1, none⟩ = some (.string T')) := cell_in HN6'.out
          have HS2 : Hid (w6.cell? ⟨w.heap.size + 1, 2, none⟩ = some (.int .i64 n')) := cell_in HN6'.out
          have HS3 : Hid (w6.cell? ⟨w.heap.size + 1, 3, none⟩ = some (.slice A' m' c')) := cell_in HN6'.out
          have hlg := hg
          have hls : w.heap.size + 1 < w6.heap.size := by omega
          clear hb6 hx6 hk6 hra hrb HD q0 q1 q2 q3
          simp only [Nat.zero_mul, Nat.one_mul, Nat.add_zero] at p0 p1 p2 p3 HQ0 HQ1 HQ2 HQ3
          go_wp2
          have HK : Hid (∀ W : World, Below w6.heap.size w6 W → Below w6.heap.size w6 W ∧ W.cell? ⟨g, o, none⟩ = some (.int .i64 i0) ∧ W.cell? ⟨g, o + 1, none⟩ = some (.string i1) ∧ W.cell? ⟨g, o + 2, none⟩ = some (.int .i64 i2) ∧ W.cell? ⟨g, o + 3, none⟩ = some (.slice i3 i4 i5) ∧ W.cell? ⟨g, o + 4, none⟩ = some (.int .i64 j0) ∧ W.cell? ⟨g, o + 5, none⟩ = some (.string j1) ∧ W.cell? ⟨g, o + 6, none⟩ = some (.int .i64 j2) ∧ W.cell? ⟨g, o + 7, none⟩ = some (.slice j3 j4 j5) ∧ W.cell? ⟨w.heap.size, 0, none⟩ = some (.int .i64 k) ∧ W.cell? ⟨w.heap.size, 1, none⟩ = some (.string T) ∧ W.cell? ⟨w.heap.size, 2, none⟩ = some (.int .i64 n) ∧ W.cell? ⟨w.heap.size, 3, none⟩ = some (.slice A m c) ∧ W.cell? ⟨w.heap.size + 1, 0, none⟩ = some (.int .i64 k') ∧ W.cell? ⟨w.heap.size + 1, 1, none⟩ = some (.string T') ∧ W.cell? ⟨w.heap.size + 1, 2, none⟩ = some (.int .i64 n') ∧ W.cell? ⟨w.heap.size + 1, 3, none⟩ = some (.slice A' m' c')) := fun W hW =>
            ⟨hW, (hW.cell (p := ⟨g, o, none⟩) hlg).trans p0, (hW.cell (p := ⟨g, o + 1, none⟩) hlg).trans p1, (hW.cell (p := ⟨g, o + 2, none⟩) hlg).trans p2, (hW.cell (p := ⟨g, o + 3, none⟩) hlg).trans p3,
              (hW.cell (p := ⟨g, o + 4, none⟩) hlg).trans HQ0.out, (hW.cell (p := ⟨g, o + 5, none⟩) hlg).trans HQ1.out, (hW.cell (p := ⟨g, o + 6, none⟩) hlg).trans HQ2.out, (hW.cell (p := ⟨g, o + 7, none⟩) hlg).trans HQ3.out,
              (hW.cell (p := ⟨w.heap.size, 0, none⟩) (by show w.heap.size < _; omega)).trans r0, (hW.cell (p := ⟨w.heap.size, 1, none⟩) (by show w.heap.size < _; omega)).trans r1, (hW.cell (p := ⟨w.heap.size, 2, none⟩) (by show w.heap.size < _; omega)).trans r2, (hW.cell (p := ⟨w.heap.size, 3, none⟩) (by show w.heap.size < _; omega)).trans r3,
              (hW.cell (p := ⟨w.heap.size + 1, 0, none⟩) hls).trans HS0.out, (hW.cell (p := ⟨w.heap.size + 1, 1, none⟩) hls).trans HS1.out, (hW.cell (p := ⟨w.heap.size + 1, 2, none⟩) hls).trans HS2.out, (hW.cell (p := ⟨w.heap.size + 1, 3, none⟩) hls).trans HS3.out⟩
          clear p0 p1 p2 p3 r0 r1 r2 r3 HQ0 HQ1 HQ2 HQ3 HS0 HS1 HS2 HS3
          have hwr : IntKind.i64.wrap ((Y.length : Int) + (Y'.length : Int)) = (Y.length : Int) + (Y'.length : Int) := IntWalk.i64_in _ (by omega)
          go_region_held3 (fun w' => Below w6.heap.size w6 w' ∧ w'.cell? ⟨g, o, none⟩ = some (.int .i64 i0) ∧ w'.cell? ⟨g, o + 1, none⟩ = some (.string i1) ∧ w'.cell? ⟨g, o + 2, none⟩ = some (.int .i64 i2) ∧ w'.cell? ⟨g, o + 3, none⟩ = some (.slice i3 i4 i5) ∧ w'.cell? ⟨g, o + 4, none⟩ = some (.int .i64 j0) ∧ w'.cell? ⟨g, o + 5, none⟩ = some (.string j1) ∧ w'.cell? ⟨g, o + 6, none⟩ = some (.int .i64 j2) ∧ w'.cell? ⟨g, o + 7, none⟩ = some (.slice j3 j4 j5) ∧ w'.cell? ⟨w.heap.size, 0, none⟩ = some (.int .i64 k) ∧ w'.cell? ⟨w.heap.size, 1, none⟩ = some (.string T) ∧ w'.cell? ⟨w.heap.size, 2, none⟩ = some (.int .i64 n) ∧ w'.cell? ⟨w.heap.size, 3, none⟩ = some (.slice A m c) ∧ w'.cell? ⟨w.heap.size + 1, 0, none⟩ = some (.int .i64 k') ∧ w'.cell? ⟨w.heap.size + 1, 1, none⟩ = some (.string T') ∧ w'.cell? ⟨w.heap.size + 1, 2, none⟩ = some (.int .i64 n') ∧ w'.cell? ⟨w.heap.size + 1, 3, none⟩ = some (.slice A' m' c'))
            (first | exact HK.out _ HB9.out | exact HK.out _ HB8.out | exact HK.out _ HB7.out | exact HK.out _ (Below.refl _ _).drew | exact HK.out _ (Below.refl _ _))
            (first
            | (have hq8 := HB8; clear hq8; go_at_call 12; refine (HC3.out _ HB8.out).mono ?_; rintro en w9 ⟨rfl, hb9⟩; have HB9 := Lib.hid (show Below w6.heap.size w6 w9 from HB8.out.trans (hb9.mono HB8.out.size)); clear hb9)
            | (have hq7 := HB7; clear hq7; go_at_call 11; refine (HC2.out _ HB7.out).mono ?_; rintro en w8 ⟨rfl, hb8⟩; have HB8 := Lib.hid (show Below w6.heap.size w6 w8 from HB7.out.trans (hb8.mono HB7.out.size)); clear hb8)
            | (go_at_call 11; refine (HC1.out _ (by first | exact (Below.refl _ _).drew | exact Below.refl _ _)).mono ?_; rintro en w7 ⟨rfl, hb7⟩; have HB7 := Lib.hid (show Below w6.heap.size w6 w7 from by first | exact (Below.refl w6.heap.size w6).drew.trans hb7 | exact hb7); clear hb7))
          all_goals
            go_wp2
            go_ret
            exact ⟨rfl, HB6.out.trans (HB9.out.mono HB6.out.size)⟩
        · skip
          have hown0 : (w2.alloc (.cells #[] 5)).ownsRow (w2.heap.size) 5 1 (.slice (some ⟨w2.heap.size, 0, none⟩) 0 0) ([] : List UInt8).length (Lib.byteCells []) :=
            ⟨rfl, .inr ⟨w2.heap.size, 0, #[], rfl, Nat.le_refl _, (by have q := World.alloc_heap_new w2 (.cells #[] 5); first | exact q | (rw [World.size_alloc] at q; exact q)), Nat.le_refl _, Nat.zero_le _, rfl, rfl⟩⟩
          have hal : Below w2.heap.size w2 (w2.alloc (.cells #[] 5)) := (Below.refl _ _).alloc (Nat.le_refl _) _
          have HAL0 := Lib.hid hal
          have hsY := (SrcAt.own HOa.out).below hal
          clear hal
          go_wp2_with (at_builtin; refine wpList_append_src rfl _ _ rfl (w2.heap.size) _ _ rfl hown0 _ Y rfl hsY ?c1 ?c2 ?c3 ?_)
          try case c1 => first | (show 0 + Y.length ≤ maxLen; unfold maxLen; omega) | (unfold maxLen; omega)
          try case c2 => first | (show (0 + Y.length) * 1 ≤ _; omega) | omega
          try case c3 => simp
          intro v4 w4 hown4 hgr4 _ _
          try simp only [List.nil_append] at hown4
          have hb4 : Below w2.heap.size w2 w4 := HAL0.out.grown hgr4 (by simp) (fun k hk => by
            simp only [Value.ownBlock, Option.some.injEq] at hk
            exact Nat.le_of_eq hk)
          have hs4 := (SrcAt.own HOb.out).below hb4
          have hz4 := hb4.size
          obtain ⟨A4, c4, rfl⟩ := ownsRow_form hown4
          clear hown0 hgr4 hsY
          go_wp2_with (at_builtin; refine wpList_append_src rfl _ _ rfl (w2.heap.size) _ Y rfl hown4 _ Y' rfl hs4 ?c4 ?c5 ?c6 ?_)
          try case c4 => unfold maxLen; omega
          try case c5 => omega
          try case c6 => omega
          intro v5 w5 hown5 hgr5 _ _
          try rw [← List.length_append] at hown5
          have hb5 : Below w2.heap.size w2 w5 := hb4.grown hgr5 hz4 (fun k hk => by have := (own_lt hown4 hk).1; omega)
          have hzl : (Y ++ Y').length ≤ 20000000 := by rw [List.length_append]; omega
          have hzn : (Y ++ Y').length = Y.length + Y'.length := List.length_append
          have HA2 := Lib.hid HALL.out
          obtain ⟨Z, hZ⟩ : ∃ Z, Y ++ Y' = Z := ⟨_, rfl⟩
          rw [hZ] at hown5 HA2 hzl hzn
          have HZN := Lib.hid hzn
          rcases hown5.2 with ⟨_, hl0⟩ | ⟨g5, c5, cur5, rfl, hg5, hh5, hn5, hm5, _⟩
          · omega
          have HB5 := Lib.hid (HBD.out.trans (hb5.mono HBD.out.size))
          have HD := Lib.hid (yall_any (some ⟨g5, 0, none⟩) g5 0 c5 Z w5 (by have := HB5.out.size; omega) (fun _ => ⟨rfl, (Array.getElem?_eq_some_iff.1 hh5).1⟩) (fun h => by cases h) (own_bytes hown5) hn5 (by unfold maxLen at hm5; omega) (by omega) (HT8.out.below HB5.out h6))
          unfold AllPost at HD
          rw [HA2.out] at HD
          dsimp only at HD
          have HN5 := Lib.hid ((hb5.block w.heap.size (by omega)).trans HND.out)
          have HN5' := Lib.hid ((hb5.block (w.heap.size + 1) (by omega)).trans HND'.out)
          have hz5 := hb5.size
          try skip
          clear hb4 hs4 hown4 hgr5 hown5 hb5 hh5 hZ hz4 HA2 hzn
          go_wp2_with fail
          refine HD.out.mono ?_
          rintro e w6 ⟨hb6, A6, c6, rfl, hx6⟩
          have HB6 := Lib.hid (HB5.out.trans (hb6.mono HB5.out.size))
          have HN6 := Lib.hid ((hb6.block w.heap.size (by omega)).trans HN5.out)
          have HN6' := Lib.hid ((hb6.block (w.heap.size + 1) (by omega)).trans HN5'.out)
          have hz6 := hb6.size
          obtain ⟨T6, A6', c6', he6, _, _, hk6⟩ := hx6.form
          obtain ⟨g, o, a0, a1, a2, a3, rfl, hg, ⟨p0, p1, p2, p3⟩, hra⟩ := hk6 0 _ rfl
          obtain ⟨g', o', b0, b1, b2, b3, hAA, hg', ⟨q0, q1, q2, q3⟩, hrb⟩ := hk6 1 _ rfl
          injection hAA with hAA
          injection hAA with e1 e2 _
          subst e1 e2
          simp only [List.cons.injEq, Value.slice.injEq] at he6
          obtain ⟨_, _, _, ⟨rfl, _, rfl⟩, _⟩ := he6
          have HRX := Lib.hid (RepAt.toI _ x (Nat.le_refl _) HMX.out _ _ HX.out hra)
          have HRY := Lib.hid (RepAt.toI _ y (Nat.le_refl _) HMX'.out _ _ HX'.out hrb)
          obtain ⟨i0, i1, i2, i3, i4, i5, hi⟩ := HRX.out.parts
          injection hi with e0 hi; injection hi with e1 hi; injection hi with e2 hi; injection hi with e3 _
          subst e0 e1 e2 e3
          obtain ⟨j0, j1, j2, j3, j4, j5, hj⟩ := HRY.out.parts
          injection hj with e0 hj; injection hj with e1 hj; injection hj with e2 hj; injection hj with e3 _
          subst e0 e1 e2 e3
          have HXW := Lib.hid (HX.out.low HB6.out)
          have HYW := Lib.hid (HX'.out.low HB6.out)
          have HC1 := Lib.hid (fun (W : World) (hW : Below w6.heap.size w6 W) => rsame_I _ x (Nat.le_refl _) x W _ _ _ _ _ _ _ _ (HRX.out.low hW) (HXW.out.low hW))
          have HC2 := Lib.hid (fun (W : World) (hW : Below w6.heap.size w6 W) => rsame_I _ y (Nat.le_refl _) y W _ _ _ _ _ _ _ _ (HRY.out.low hW) (HYW.out.low hW))
          rw [sameI_refl] at HC1 HC2
          have HC3 := Lib.hid (fun (W : World) (hW : Below w6.heap.size w6 W) => yalive_any W ((HP.out.on HB6.out hB).on hW (by omega)) (by have := hW.size; omega))
          have r0 : w6.cell? ⟨w.heap.size, 0, none⟩ = some (.int .i64 k) := cell_in HN6.out
          have r1 : w6.cell? ⟨w.heap.size, 1, none⟩ = some (.string T) := cell_in HN6.out
          have r2 : w6.cell? ⟨w.heap.size, 2, none⟩ = some (.int .i64 n) := cell_in HN6.out
          have r3 : w6.cell? ⟨w.heap.size, 3, none⟩ = some (.slice A m c) := cell_in HN6.out
          have HQ0 := Lib.hid q0
          have HQ1 := Lib.hid q1
          have HQ2 := Lib.hid q2
          have HQ3 := Lib.hid q3
          have HS0 : Hid (w6.cell? ⟨w.heap.size + 1, 0, none⟩ = some (.int .i64 k')) := cell_in HN6'.out
          have HS1 : Hid (w6.cell? ⟨w.heap.size + 1, 1, none⟩ = some (.string T')) := cell_in HN6'.out
          have HS2 : Hid (w6.cell? ⟨w.heap.size + 1, 2, none⟩ = some (.int .i64 n')) := cell_in HN6'.out
          have HS3 : Hid (w6.cell? ⟨w.heap.size + 1, 3, none⟩ = some (.slice A' m' c')) := cell_in HN6'.out
          have hlg := hg
          have hls : w.heap.size + 1 < w6.heap.size := by omega
          clear hb6 hx6 hk6 hra hrb HD q0 q1 q2 q3
          simp only [Nat.zero_mul, Nat.one_mul, Nat.add_zero] at p0 p1 p2 p3 HQ0 HQ1 HQ2 HQ3
          go_wp2
          have HK : Hid (∀ W : World, Below w6.heap.size w6 W → Below w6.heap.size w6 W ∧ W.cell? ⟨g, o, none⟩ = some (.int .i64 i0) ∧ W.cell? ⟨g, o + 1, none⟩ = some (.string i1) ∧ W.cell? ⟨g, o + 2, none⟩ = some (.int .i64 i2) ∧ W.cell? ⟨g, o + 3, none⟩ = some (.slice i3 i4 i5) ∧ W.cell? ⟨g, o + 4, none⟩ = some (.int .i64 j0) ∧ W.cell? ⟨g, o + 5, none⟩ = some (.string j1) ∧ W.cell? ⟨g, o + 6, none⟩ = some (.int .i64 j2) ∧ W.cell? ⟨g, o + 7, none⟩ = some (.slice j3 j4 j5) ∧ W.cell? ⟨w.heap.size, 0, none⟩ = some (.int .i64 k) ∧ W.cell? ⟨w.heap.size, 1, none⟩ = some (.string T) ∧ W.cell? ⟨w.heap.size, 2, none⟩ = some (.int .i64 n) ∧ W.cell? ⟨w.heap.size, 3, none⟩ = some (.slice A m c) ∧ W.cell? ⟨w.heap.size + 1, 0, none⟩ = some (.int .i64 k') ∧ W.cell? ⟨w.heap.size + 1, 1, none⟩ = some (.string T') ∧ W.cell? ⟨w.heap.size + 1, 2, none⟩ = some (.int .i64 n') ∧ W.cell? ⟨w.heap.size + 1, 3, none⟩ = some (.slice A' m' c')) := fun W hW =>
            ⟨hW, (hW.cell (p := ⟨g, o, none⟩) hlg).trans p0, (hW.cell (p := ⟨g, o + 1, none⟩) hlg).trans p1, (hW.cell (p := ⟨g, o + 2, none⟩) hlg).trans p2, (hW.cell (p := ⟨g, o + 3, none⟩) hlg).trans p3,
              (hW.cell (p := ⟨g, o + 4, none⟩) hlg).trans HQ0.out, (hW.cell (p := ⟨g, o + 5, none⟩) hlg).trans HQ1.out, (hW.cell (p := ⟨g, o + 6, none⟩) hlg).trans HQ2.out, (hW.cell (p := ⟨g, o + 7, none⟩) hlg).trans HQ3.out,
              (hW.cell (p := ⟨w.heap.size, 0, none⟩) (by show w.heap.size < _; omega)).trans r0, (hW.cell (p := ⟨w.heap.size, 1, none⟩) (by show w.heap.size < _; omega)).trans r1, (hW.cell (p := ⟨w.heap.size, 2, none⟩) (by show w.heap.size < _; omega)).trans r2, (hW.cell (p := ⟨w.heap.size, 3, none⟩) (by show w.heap.size < _; omega)).trans r3,
              (hW.cell (p := ⟨w.heap.size + 1, 0, none⟩) hls).trans HS0.out, (hW.cell (p := ⟨w.heap.size + 1, 1, none⟩) hls).trans HS1.out, (hW.cell (p := ⟨w.heap.size + 1, 2, none⟩) hls).trans HS2.out, (hW.cell (p := ⟨w.heap.size + 1, 3, none⟩) hls).trans HS3.out⟩
          clear p0 p1 p2 p3 r0 r1 r2 r3 HQ0 HQ1 HQ2 HQ3 HS0 HS1 HS2 HS3
          have hwr : IntKind.i64.wrap ((Y.length : Int) + (Y'.length : Int)) = (Y.length : Int) + (Y'.length : Int) := IntWalk.i64_in _ (by omega)
          go_region_held3 (fun w' => Below w6.heap.size w6 w' ∧ w'.cell? ⟨g, o, none⟩ = some (.int .i64 i0) ∧ w'.cell? ⟨g, o + 1, none⟩ = some (.string i1) ∧ w'.cell? ⟨g, o + 2, none⟩ = some (.int .i64 i2) ∧ w'.cell? ⟨g, o + 3, none⟩ = some (.slice i3 i4 i5) ∧ w'.cell? ⟨g, o + 4, none⟩ = some (.int .i64 j0) ∧ w'.cell? ⟨g, o + 5, none⟩ = some (.string j1) ∧ w'.cell? ⟨g, o + 6, none⟩ = some (.int .i64 j2) ∧ w'.cell? ⟨g, o + 7, none⟩ = some (.slice j3 j4 j5) ∧ w'.cell? ⟨w.heap.size, 0, none⟩ = some (.int .i64 k) ∧ w'.cell? ⟨w.heap.size, 1, none⟩ = some (.string T) ∧ w'.cell? ⟨w.heap.size, 2, none⟩ = some (.int .i64 n) ∧ w'.cell? ⟨w.heap.size, 3, none⟩ = some (.slice A m c) ∧ w'.cell? ⟨w.heap.size + 1, 0, none⟩ = some (.int .i64 k') ∧ w'.cell? ⟨w.heap.size + 1, 1, none⟩ = some (.string T') ∧ w'.cell? ⟨w.heap.size + 1, 2, none⟩ = some (.int .i64 n') ∧ w'.cell? ⟨w.heap.size + 1, 3, none⟩ = some (.slice A' m' c'))
            (first | exact HK.out _ HB9.out | exact HK.out _ HB8.out | exact HK.out _ HB7.out | exact HK.out _ (Below.refl _ _).drew | exact HK.out _ (Below.refl _ _))
            (first
            | (have hq8 := HB8; clear hq8; go_at_call 12; refine (HC3.out _ HB8.out).mono ?_; rintro en w9 ⟨rfl, hb9⟩; have HB9 := Lib.hid (show Below w6.heap.size w6 w9 from HB8.out.trans (hb9.mono HB8.out.size)); clear hb9)
            | (have hq7 := HB7; clear hq7; go_at_call 11; refine (HC2.out _ HB7.out).mono ?_; rintro en w8 ⟨rfl, hb8⟩; have HB8 := Lib.hid (show Below w6.heap.size w6 w8 from HB7.out.trans (hb8.mono HB7.out.size)); clear hb8)
            | (go_at_call 11; refine (HC1.out _ (by first | exact (Below.refl _ _).drew | exact Below.refl _ _)).mono ?_; rintro en w7 ⟨rfl, hb7⟩; have HB7 := Lib.hid (show Below w6.heap.size w6 w7 from by first | exact (Below.refl w6.heap.size w6).drew.trans hb7 | exact hb7); clear hb7))
          all_goals
            go_wp2
            go_ret
            exact ⟨rfl, HB6.out.trans (HB9.out.mono HB6.out.size)⟩

end Go.Proofs.YtbldahkgilkclaaDoor
