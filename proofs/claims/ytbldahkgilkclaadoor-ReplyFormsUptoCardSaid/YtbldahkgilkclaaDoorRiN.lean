/-
  The walk of the statement ReplyForms: it answers true. Conditions: both replies lie in memory as trees of bulk at most 1048576; the listed variables hold what the program's own text lays.
-/
import Derived.Test.YtbldahkgilkclaaDoorRiO
import Derived.Test.YtbldahkgilkclaaDoorRiQ
import Derived.Test.YtbldahkgilkclaaDoorRzS
import Derived.Deep.RegionHeld3
namespace Go.Proofs.YtbldahkgilkclaaDoor
open Go.RowKit

/-- Whatever is written has a byte at the least. -/
theorem written_pos {w : World} {x : RI} {cs : List Value} (_ : RepI w x cs) : 0 < (writeI x).length := by
  obtain ⟨k, t, n, l⟩ := x
  rw [writeI]
  repeat' split
  all_goals first | (unfold bulkW; simp) | simp

/-- A nil slice of bytes as a text. -/
theorem conv_nil_n (w : World) : (convert 26 9 (.slice none 0 0)).run Tryd.prog w = .ok (.string ⟨#[]⟩) w := by
  rw [run_convert_bytes_string _ _ _ 5 _ _ _ Tryd.underlying26 Tryd.underlying5 Tryd.underlying9]
  rfl

set_option maxRecDepth 100000 in
set_option maxHeartbeats 32000000 in
theorem replyForms_walk (x y : RI) (hbx : bulkI x ≤ 1048576) (_ : bulkI y ≤ 1048576) (cs ds : List Value) (w : World) (h6 : 6 ≤ w.heap.size) (h : RepI w x cs) (h' : RepI w y ds) (_ : Tabs8 w) (hp : Pows w) :
    Calls Tryd.prog 3 #[.agg cs.toArray, .agg ds.toArray] w fun e w' => e = .returned (.bool true) ∧ Below w.heap.size w w' := by
  have hB := pows_lt' hp
  obtain ⟨k, T, n, A, m, c, rfl⟩ := h.parts
  obtain ⟨k', T', n', A', m', c', rfl⟩ := h'.parts
  obtain ⟨wb, hwb⟩ : ∃ wb, w.alloc (.cells #[.int .i64 k, .string T, .int .i64 n, .slice A m c] 25) = wb := ⟨_, rfl⟩
  have hnew : wb.heap[w.heap.size]? = some (.cells #[.int .i64 k, .string T, .int .i64 n, .slice A m c] 25) := by rw [← hwb]; exact World.alloc_heap_new w _
  have hbw : Below w.heap.size w wb := by rw [← hwb]; exact (Below.refl _ _).alloc (Nat.le_refl _) _
  have hsb : wb.heap.size = w.heap.size + 1 := by rw [← hwb]; simp
  obtain ⟨wc, hwc⟩ : ∃ wc, wb.alloc (.cells #[.int .i64 k', .string T', .int .i64 n', .slice A' m' c'] 25) = wc := ⟨_, rfl⟩
  have hnewc : wc.heap[w.heap.size + 1]? = some (.cells #[.int .i64 k', .string T', .int .i64 n', .slice A' m' c'] 25) := by rw [← hwc, ← hsb]; exact World.alloc_heap_new wb _
  have hbc0 : Below wb.heap.size wb wc := by rw [← hwc]; exact (Below.refl _ _).alloc (Nat.le_refl _) _
  have hsc : wc.heap.size = w.heap.size + 2 := by rw [← hwc]; simp [hsb]
  have hbc : Below w.heap.size w wc := hbw.trans (hbc0.mono (by omega))
  have hnewb := (hbc0.block w.heap.size (by omega)).trans hnew
  have HE := Lib.hid (pencode_I x hbx wc _ (h.low hbc) (hp.on hbc hB) (by omega))
  have HE' := Lib.hid (fun w1 (hb1 : Below wc.heap.size wc w1) => rencode_I x hbx w1 _ ((h.low hbc).low hb1))
  have hle := writeI_le h hbx
  obtain ⟨E, hE⟩ : ∃ E, checkI x = E := ⟨_, rfl⟩
  obtain ⟨Y, hY⟩ : ∃ Y, writeI x = Y := ⟨_, rfl⟩
  have HCE := Lib.hid hE
  have HYE := Lib.hid hY
  rw [hE] at HE HE'
  rw [hY] at HE HE' hle
  have HX := Lib.hid h
  have HX' := Lib.hid h'
  have HP := Lib.hid hp
  have HWB := Lib.hid hwb
  have HWC := Lib.hid hwc
  have HNB := Lib.hid hnewb
  have HNC := Lib.hid hnewc
  have HBC := Lib.hid hbc
  clear hwb hwc hnew hnewb hnewc hbw hbc hbc0 h h' hp hE hY
  go_enter Tryd.func3, Tryd.ntmps3
  go_wp2_with fail
  rw [HWB.out, HWC.out]
  refine HE.out.mono ?_
  rintro e w1 ⟨hb1, hres1⟩
  have HB1 := Lib.hid (HBC.out.trans (hb1.mono (by omega)))
  have HE2 := Lib.hid (HE'.out w1 hb1)
  have hz1 : w.heap.size + 2 ≤ w1.heap.size := by have := hb1.size; omega
  have HN1 := Lib.hid ((hb1.block w.heap.size (by omega)).trans HNB.out)
  have HN1' := Lib.hid ((hb1.block (w.heap.size + 1) (by omega)).trans HNC.out)
  clear hb1 HE HE'
  have s0 : w1.cell? ⟨w.heap.size, 0, none⟩ = some (.int .i64 k) := cell_in HN1.out
  have s1 : w1.cell? ⟨w.heap.size, 1, none⟩ = some (.string T) := cell_in HN1.out
  have s2 : w1.cell? ⟨w.heap.size, 2, none⟩ = some (.int .i64 n) := cell_in HN1.out
  have s3 : w1.cell? ⟨w.heap.size, 3, none⟩ = some (.slice A m c) := cell_in HN1.out
  rcases hres1 with ⟨hne, rfl⟩ | ⟨rfl, v1, rfl, hown1⟩
  · go_wp2_with fail
    refine HE2.out.mono ?_
    rintro e w2 ⟨hb2, ⟨_, rfl⟩ | ⟨h0, _⟩⟩
    · have HB2 := Lib.hid (HB1.out.trans (hb2.mono HB1.out.size))
      have HN2 := Lib.hid ((hb2.block w.heap.size (by omega)).trans HN1.out)
      have HN2' := Lib.hid ((hb2.block (w.heap.size + 1) (by omega)).trans HN1'.out)
      have hz2 := hb2.size
      clear hb2 s0 s1 s2 s3 HE2
      have hcv := conv_nil_n
      have HXW := Lib.hid (HX.out.low HB2.out)
      have HYW := Lib.hid (HX'.out.low HB2.out)
      have HK1 := Lib.hid (fun (W : World) (hW : Below w2.heap.size w2 W) => pcheck_I x hbx w2 _ HXW.out W hW)
      have HK2 := Lib.hid (fun (W : World) (hW : Below w2.heap.size w2 W) => rcheck_I x hbx w2 _ HXW.out W hW)
      have HK3 := Lib.hid (fun (W : World) (hW : Below w2.heap.size w2 W) => psame_I _ x (Nat.le_refl _) hbx y w2 _ _ HXW.out HYW.out W hW)
      have HK4 := Lib.hid (fun (W : World) (hW : Below w2.heap.size w2 W) => rsame_I _ x (Nat.le_refl _) y W _ _ _ _ _ _ _ _ (HXW.out.low hW) (HYW.out.low hW))
      have HK5 := Lib.hid (fun (W : World) (hW : Below w2.heap.size w2 W) => psame_I _ x (Nat.le_refl _) hbx x w2 _ _ HXW.out HXW.out W hW)
      have HK6 := Lib.hid (fun (W : World) (hW : Below w2.heap.size w2 W) => yalive_any W ((HP.out.on HB2.out hB).on hW (by omega)) (by have := hW.size; omega))
      unfold SameTells at HK3 HK5
      rw [sameI_refl] at HK5
      rw [HCE.out] at HK1 HK2
      obtain ⟨r, hr⟩ : ∃ r, sameI x y = r := ⟨_, rfl⟩
      rw [hr] at HK3 HK4
      have HK : Hid (∀ W : World, Below w2.heap.size w2 W → Below w2.heap.size w2 W ∧ W.cell? ⟨w.heap.size, 0, none⟩ = some (.int .i64 k) ∧ W.cell? ⟨w.heap.size, 1, none⟩ = some (.string T) ∧ W.cell? ⟨w.heap.size, 2, none⟩ = some (.int .i64 n) ∧ W.cell? ⟨w.heap.size, 3, none⟩ = some (.slice A m c) ∧ W.cell? ⟨w.heap.size + 1, 0, none⟩ = some (.int .i64 k') ∧ W.cell? ⟨w.heap.size + 1, 1, none⟩ = some (.string T') ∧ W.cell? ⟨w.heap.size + 1, 2, none⟩ = some (.int .i64 n') ∧ W.cell? ⟨w.heap.size + 1, 3, none⟩ = some (.slice A' m' c')) := fun W hW =>
        ⟨hW, (hW.cell (p := ⟨w.heap.size, 0, none⟩) (by show w.heap.size < _; omega)).trans (cell_in HN2.out), (hW.cell (p := ⟨w.heap.size, 1, none⟩) (by show w.heap.size < _; omega)).trans (cell_in HN2.out), (hW.cell (p := ⟨w.heap.size, 2, none⟩) (by show w.heap.size < _; omega)).trans (cell_in HN2.out), (hW.cell (p := ⟨w.heap.size, 3, none⟩) (by show w.heap.size < _; omega)).trans (cell_in HN2.out), (hW.cell (p := ⟨w.heap.size + 1, 0, none⟩) (by show w.heap.size + 1 < _; omega)).trans (cell_in HN2'.out), (hW.cell (p := ⟨w.heap.size + 1, 1, none⟩) (by show w.heap.size + 1 < _; omega)).trans (cell_in HN2'.out), (hW.cell (p := ⟨w.heap.size + 1, 2, none⟩) (by show w.heap.size + 1 < _; omega)).trans (cell_in HN2'.out), (hW.cell (p := ⟨w.heap.size + 1, 3, none⟩) (by show w.heap.size + 1 < _; omega)).trans (cell_in HN2'.out)⟩
      clear hr HXW HYW HN1 HN1' HN2 HN2' HX HX' HP HNB HNC HBC HB1 HWB HWC
      go_wp2
      go_region_held3 (fun W => Below w2.heap.size w2 W ∧ W.cell? ⟨w.heap.size, 0, none⟩ = some (.int .i64 k) ∧ W.cell? ⟨w.heap.size, 1, none⟩ = some (.string T) ∧ W.cell? ⟨w.heap.size, 2, none⟩ = some (.int .i64 n) ∧ W.cell? ⟨w.heap.size, 3, none⟩ = some (.slice A m c) ∧ W.cell? ⟨w.heap.size + 1, 0, none⟩ = some (.int .i64 k') ∧ W.cell? ⟨w.heap.size + 1, 1, none⟩ = some (.string T') ∧ W.cell? ⟨w.heap.size + 1, 2, none⟩ = some (.int .i64 n') ∧ W.cell? ⟨w.heap.size + 1, 3, none⟩ = some (.slice A' m' c'))
        (first | exact HK.out _ HB8.out | exact HK.out _ HB7.out | exact HK.out _ HB6.out | exact HK.out _ HB5.out | exact HK.out _ HB4.out | exact HK.out _ HB3.out | exact HK.out _ (Below.refl _ _).drew | exact HK.out _ (Below.refl _ _))
        (first
        | (have hqq := HB7; clear hqq; go_at_call 12; refine Calls.mono (HK6.out _ HB7.out) ?_; rintro en w8 ⟨rfl, hbq⟩; have HB8 := Lib.hid (show Below w2.heap.size w2 w8 from HB7.out.trans (hbq.mono HB7.out.size)); clear hbq)
        | (have hqq := HB6; clear hqq; go_at_call 10; refine Calls.mono (HK5.out _ HB6.out) ?_; rintro en w7 ⟨rfl, hbq⟩; have HB7 := Lib.hid (show Below w2.heap.size w2 w7 from HB6.out.trans (hbq.mono HB6.out.size)); clear hbq)
        | (have hqq := HB5; clear hqq; go_at_call 11; refine Calls.mono (HK4.out _ HB5.out) ?_; rintro en w6 ⟨rfl, hbq⟩; have HB6 := Lib.hid (show Below w2.heap.size w2 w6 from HB5.out.trans (hbq.mono HB5.out.size)); clear hbq)
        | (have hqq := HB4; clear hqq; go_at_call 10; refine Calls.mono (HK3.out _ HB4.out) ?_; rintro en w5 ⟨rfl, hbq⟩; have HB5 := Lib.hid (show Below w2.heap.size w2 w5 from HB4.out.trans (hbq.mono HB4.out.size)); clear hbq)
        | (have hqq := HB3; clear hqq; go_at_call 9; refine Calls.mono (HK2.out _ HB3.out) ?_; rintro en w4 ⟨rfl, hbq⟩; have HB4 := Lib.hid (show Below w2.heap.size w2 w4 from HB3.out.trans (hbq.mono HB3.out.size)); clear hbq)
        | (go_at_call 8; refine Calls.mono (HK1.out _ (by first | exact (Below.refl _ _).drew | exact Below.refl _ _)) ?_; rintro en w3 ⟨rfl, hbq⟩; have HB3 := Lib.hid (show Below w2.heap.size w2 w3 from by first | exact (Below.refl w2.heap.size w2).drew.trans hbq | exact hbq); clear hbq))
      all_goals
        go_wp2
        go_ret
        exact ⟨rfl, HB2.out.trans (HB8.out.mono HB2.out.size)⟩
    · exact absurd h0 hne
  · rcases hown1.2 with ⟨hv0, hl0⟩ | ⟨g1, c1, cur1, rfl, hg1, hh1, hn1, hm1, _⟩
    · subst hv0
      obtain rfl : Y = [] := List.length_eq_zero_iff.1 hl0
      exact absurd (written_pos HX.out) (by rw [HYE.out]; simp)
    · have HO1 := Lib.hid hown1
      have hg1w : g1 < w1.heap.size := (Array.getElem?_eq_some_iff.1 hh1).1
      clear hown1 hh1
      go_wp2_with fail
      refine HE2.out.mono ?_
      rintro e w2 ⟨hb2, ⟨hne, _⟩ | ⟨_, v2, rfl, hown2⟩⟩
      · exact absurd rfl hne
      · have HB2 := Lib.hid (HB1.out.trans (hb2.mono HB1.out.size))
        have HN2 := Lib.hid ((hb2.block w.heap.size (by omega)).trans HN1.out)
        have HN2' := Lib.hid ((hb2.block (w.heap.size + 1) (by omega)).trans HN1'.out)
        have hz2 := hb2.size
        have HOa := Lib.hid (own_bytes (ownsRow_below HO1.out hb2))
        obtain ⟨g2, c2, rfl, _, hg2, _, _, _, hat2⟩ := hown2
        have HOb := Lib.hid hat2
        obtain ⟨TB, hTB⟩ : ∃ TB : ByteArray, ⟨Y.toArray⟩ = TB := ⟨_, rfl⟩
        have HTB := Lib.hid hTB
        have hg12 : g1 < w2.heap.size := by omega
        clear hb2 s0 s1 s2 s3 HE2 hat2 hTB
        have HXW := Lib.hid (HX.out.low HB2.out)
        have HYW := Lib.hid (HX'.out.low HB2.out)
        have HK1 := Lib.hid (fun (W : World) (hW : Below w2.heap.size w2 W) => pcheck_I x hbx w2 _ HXW.out W hW)
        have HK2 := Lib.hid (fun (W : World) (hW : Below w2.heap.size w2 W) => rcheck_I x hbx w2 _ HXW.out W hW)
        have HK3 := Lib.hid (fun (W : World) (hW : Below w2.heap.size w2 W) => psame_I _ x (Nat.le_refl _) hbx y w2 _ _ HXW.out HYW.out W hW)
        have HK4 := Lib.hid (fun (W : World) (hW : Below w2.heap.size w2 W) => rsame_I _ x (Nat.le_refl _) y W _ _ _ _ _ _ _ _ (HXW.out.low hW) (HYW.out.low hW))
        have HK5 := Lib.hid (fun (W : World) (hW : Below w2.heap.size w2 W) => psame_I _ x (Nat.le_refl _) hbx x w2 _ _ HXW.out HXW.out W hW)
        have HK6 := Lib.hid (fun (W : World) (hW : Below w2.heap.size w2 W) => yalive_any W ((HP.out.on HB2.out hB).on hW (by omega)) (by have := hW.size; omega))
        unfold SameTells at HK3 HK5
        rw [sameI_refl] at HK5
        rw [HCE.out] at HK1 HK2
        obtain ⟨r, hr⟩ : ∃ r, sameI x y = r := ⟨_, rfl⟩
        rw [hr] at HK3 HK4
        have HK : Hid (∀ W : World, Below w2.heap.size w2 W → Below w2.heap.size w2 W ∧ W.cell? ⟨w.heap.size, 0, none⟩ = some (.int .i64 k) ∧ W.cell? ⟨w.heap.size, 1, none⟩ = some (.string T) ∧ W.cell? ⟨w.heap.size, 2, none⟩ = some (.int .i64 n) ∧ W.cell? ⟨w.heap.size, 3, none⟩ = some (.slice A m c) ∧ W.cell? ⟨w.heap.size + 1, 0, none⟩ = some (.int .i64 k') ∧ W.cell? ⟨w.heap.size + 1, 1, none⟩ = some (.string T') ∧ W.cell? ⟨w.heap.size + 1, 2, none⟩ = some (.int .i64 n') ∧ W.cell? ⟨w.heap.size + 1, 3, none⟩ = some (.slice A' m' c') ∧ (convert 26 9 (.slice (some ⟨g1, 0, none⟩) Y.length c1)).run Tryd.prog W = .ok (.string TB) W ∧ (convert 26 9 (.slice (some ⟨g2, 0, none⟩) Y.length c2)).run Tryd.prog W = .ok (.string TB) W) := fun W hW =>
          ⟨hW, (hW.cell (p := ⟨w.heap.size, 0, none⟩) (by show w.heap.size < _; omega)).trans (cell_in HN2.out), (hW.cell (p := ⟨w.heap.size, 1, none⟩) (by show w.heap.size < _; omega)).trans (cell_in HN2.out), (hW.cell (p := ⟨w.heap.size, 2, none⟩) (by show w.heap.size < _; omega)).trans (cell_in HN2.out), (hW.cell (p := ⟨w.heap.size, 3, none⟩) (by show w.heap.size < _; omega)).trans (cell_in HN2.out), (hW.cell (p := ⟨w.heap.size + 1, 0, none⟩) (by show w.heap.size + 1 < _; omega)).trans (cell_in HN2'.out), (hW.cell (p := ⟨w.heap.size + 1, 1, none⟩) (by show w.heap.size + 1 < _; omega)).trans (cell_in HN2'.out), (hW.cell (p := ⟨w.heap.size + 1, 2, none⟩) (by show w.heap.size + 1 < _; omega)).trans (cell_in HN2'.out), (hW.cell (p := ⟨w.heap.size + 1, 3, none⟩) (by show w.heap.size + 1 < _; omega)).trans (cell_in HN2'.out), by rw [← HTB.out]; exact conv_bytes W g1 0 c1 Y (HOa.out.below hW hg12), by rw [← HTB.out]; exact conv_bytes W g2 0 c2 Y (HOb.out.below hW hg2)⟩
        clear hr HXW HYW HN1 HN1' HN2 HN2' HX HX' HP HNB HNC HBC HB1 HWB HWC HOa HOb HO1 HTB
        go_wp2
        go_region_held3 (fun W => Below w2.heap.size w2 W ∧ W.cell? ⟨w.heap.size, 0, none⟩ = some (.int .i64 k) ∧ W.cell? ⟨w.heap.size, 1, none⟩ = some (.string T) ∧ W.cell? ⟨w.heap.size, 2, none⟩ = some (.int .i64 n) ∧ W.cell? ⟨w.heap.size, 3, none⟩ = some (.slice A m c) ∧ W.cell? ⟨w.heap.size + 1, 0, none⟩ = some (.int .i64 k') ∧ W.cell? ⟨w.heap.size + 1, 1, none⟩ = some (.string T') ∧ W.cell? ⟨w.heap.size + 1, 2, none⟩ = some (.int .i64 n') ∧ W.cell? ⟨w.heap.size + 1, 3, none⟩ = some (.slice A' m' c') ∧ (convert 26 9 (.slice (some ⟨g1, 0, none⟩) Y.length c1)).run Tryd.prog W = .ok (.string TB) W ∧ (convert 26 9 (.slice (some ⟨g2, 0, none⟩) Y.length c2)).run Tryd.prog W = .ok (.string TB) W)
          (first | exact HK.out _ HB8.out | exact HK.out _ HB7.out | exact HK.out _ HB6.out | exact HK.out _ HB5.out | exact HK.out _ HB4.out | exact HK.out _ HB3.out | exact HK.out _ (Below.refl _ _).drew | exact HK.out _ (Below.refl _ _))
          (first
          | (have hqq := HB7; clear hqq; go_at_call 12; refine Calls.mono (HK6.out _ HB7.out) ?_; rintro en w8 ⟨rfl, hbq⟩; have HB8 := Lib.hid (show Below w2.heap.size w2 w8 from HB7.out.trans (hbq.mono HB7.out.size)); clear hbq)
          | (have hqq := HB6; clear hqq; go_at_call 10; refine Calls.mono (HK5.out _ HB6.out) ?_; rintro en w7 ⟨rfl, hbq⟩; have HB7 := Lib.hid (show Below w2.heap.size w2 w7 from HB6.out.trans (hbq.mono HB6.out.size)); clear hbq)
          | (have hqq := HB5; clear hqq; go_at_call 11; refine Calls.mono (HK4.out _ HB5.out) ?_; rintro en w6 ⟨rfl, hbq⟩; have HB6 := Lib.hid (show Below w2.heap.size w2 w6 from HB5.out.trans (hbq.mono HB5.out.size)); clear hbq)
          | (have hqq := HB4; clear hqq; go_at_call 10; refine Calls.mono (HK3.out _ HB4.out) ?_; rintro en w5 ⟨rfl, hbq⟩; have HB5 := Lib.hid (show Below w2.heap.size w2 w5 from HB4.out.trans (hbq.mono HB4.out.size)); clear hbq)
          | (have hqq := HB3; clear hqq; go_at_call 9; refine Calls.mono (HK2.out _ HB3.out) ?_; rintro en w4 ⟨rfl, hbq⟩; have HB4 := Lib.hid (show Below w2.heap.size w2 w4 from HB3.out.trans (hbq.mono HB3.out.size)); clear hbq)
          | (go_at_call 8; refine Calls.mono (HK1.out _ (by first | exact (Below.refl _ _).drew | exact Below.refl _ _)) ?_; rintro en w3 ⟨rfl, hbq⟩; have HB3 := Lib.hid (show Below w2.heap.size w2 w3 from by first | exact (Below.refl w2.heap.size w2).drew.trans hbq | exact hbq); clear hbq))
        all_goals
          go_wp2
          go_ret
          exact ⟨rfl, HB2.out.trans (HB8.out.mono HB2.out.size)⟩

end Go.Proofs.YtbldahkgilkclaaDoor
