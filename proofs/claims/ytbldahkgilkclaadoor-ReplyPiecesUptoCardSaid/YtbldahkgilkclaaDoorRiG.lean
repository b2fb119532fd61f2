/-
  The walk of the statement ReplyBack: it answers true. Conditions: the reply lies in memory as a tree of bulk at most 1048576; the bytes lie in memory, or nowhere; the listed variables hold what the program's own text lays; the search's own measure holds a number.
-/
import Derived.Test.YtbldahkgilkclaaDoorRiE
import Derived.Test.YtbldahkgilkclaaDoorRiS
import Derived.Test.YtbldahkgilkclaaDoorRzM
import Derived.Test.YtbldahkgilkclaaDoorRzS
namespace Go.Proofs.YtbldahkgilkclaaDoor
open Go.RowKit

/-- What is decoded of a reply's bytes reads as that reply. -/
theorem RepAt.toI {w0 w : World} {P : Nat → Prop} : ∀ (N : Nat) (x : RI), bulkI x ≤ N → mayI x = true → ∀ (cs0 cs : List Value), RepI w0 x cs0 → RepAt w P (toRT x) cs → RepI w x cs := by
  intro N
  induction N with
  | zero => intro x hx; have := bulkI_pos x; omega
  | succ N ih =>
    intro x hbk hm cs0 cs h0 h
    obtain ⟨k, t, n, l⟩ := x
    rw [bulkI] at hbk
    obtain ⟨_, _, _, _, _, _, _, _, _, _, hn64, _, _, hc0⟩ := h0.row
    have hk : ((k.toNat : Nat) : Int) = k := by
      refine Int.toNat_of_nonneg ?_
      rw [mayI] at hm
      by_cases hk : k = 6
      · omega
      · rw [if_neg hk] at hm
        unfold leafOk at hm
        by_cases h1 : k = 1 ∨ k = 2
        · omega
        · rw [if_neg h1] at hm
          by_cases h3 : k = 3
          · omega
          · rw [if_neg h3] at hm
            by_cases h4 : k = 4
            · omega
            · rw [if_neg h4] at hm
              by_cases h5 : k = 5 ∨ k = 7
              · omega
              · rw [if_neg h5] at hm
                cases hm
    rw [toRT] at h
    obtain ⟨ls, hls⟩ : ∃ ls, toRT.toRTs l = ls := ⟨_, rfl⟩
    have hlen : ls.length = l.length := by rw [← hls, toRTs_length]
    rw [hls] at h
    cases h with
    | leaf _ _ _ T hT =>
      obtain rfl : l = [] := List.length_eq_zero_iff.1 (by rw [← hlen]; rfl)
      rw [hk]
      exact .node k t n [] T none 0 0 0 (fun _ => []) hT hn64.1 hn64.2 (Nat.le_refl _) (by omega) (fun h => absurd h (Nat.lt_irrefl 0)) (fun j hj => absurd hj (Nat.not_lt_zero j)) (fun j f hj => absurd hj (Nat.not_lt_zero j)) (fun j x hx => by simp at hx)
    | row _ _ _ _ T g o c css hT hl hm63 hP hg h4 hcell hc =>
      rw [hk, hlen]
      rw [hlen] at hl h4 hcell
      refine .node k t n l T _ g o c css hT hn64.1 hn64.2 hl hm63 (fun _ => ⟨rfl, hg⟩) h4 hcell (fun j x hx => ?_)
      have hmem := List.mem_of_getElem? hx
      have hk6 : k = 6 := by
        refine Decidable.byContradiction fun hk6 => ?_
        rw [mayI, if_neg hk6] at hm
        have hl0 : l.length = 0 := by
          unfold leafOk at hm
          split at hm
          · exact (of_decide_eq_true hm).2.1
          · split at hm
            · simp only [Bool.and_eq_true, decide_eq_true_eq] at hm; exact hm.2
            · split at hm
              · exact (of_decide_eq_true hm).2.1
              · split at hm
                · simp only [Bool.and_eq_true, decide_eq_true_eq] at hm; exact hm.2.2
                · cases hm
        rw [List.length_eq_zero_iff.1 hl0] at hmem
        cases hmem
      have hmx : mayI x = true := by
        rw [mayI, if_pos hk6] at hm
        simp only [Bool.and_eq_true] at hm
        exact mayIs_mem hm.2.2.2 x hmem
      obtain ⟨y, hy⟩ : ∃ y, ls[j]? = some y := ⟨_, List.getElem?_eq_getElem (by rw [hlen]; exact (List.getElem?_eq_some_iff.1 hx).1)⟩
      have hy' := hy
      rw [← hls] at hy'
      obtain ⟨z, hz, rfl⟩ := toRTs_get hy'
      obtain rfl : x = z := by rw [hx] at hz; injection hz
      exact ih x (by have := bulkIs_mem hmem; omega) hmx _ _ (hc0 j x hx) (hc j _ hy)

theorem SrcAt.cut {w : World} {A : Option Addr} {c : Nat} {l : List UInt8} (h : SrcAt w (.slice A l.length c) l) (k : Nat) (hk : k ≤ l.length) : SrcAt w (.slice A k c) (l.take k) := by
  obtain ⟨A', c', h1, h2, h3, h4, h5⟩ := h
  simp only [Value.slice.injEq, true_and] at h1
  obtain ⟨rfl, rfl⟩ := h1
  have hl : (l.take k).length = k := by rw [List.length_take]; omega
  refine ⟨A, c, by rw [hl], by omega, h3, h4, fun ad e j hj => ?_⟩
  rw [h5 ad e j (by omega)]
  rw [List.getD_eq_getElem?_getD, List.getD_eq_getElem?_getD, List.getElem?_take, if_pos (by omega)]

set_option maxRecDepth 100000 in
set_option maxHeartbeats 16000000 in
theorem replyBack_walk (x : RI) (hbk : bulkI x ≤ 1048576) (cs : List Value) (BV : Value) (tl : List UInt8) (w : World) (h6 : 6 ≤ w.heap.size) (h : RepI w x cs) (hsrc : SrcAt w BV tl) (hT : Tabs8 w) (hp : Pows w) :
    Calls Tryd.prog 4 #[.agg cs.toArray, BV] w fun e w' => e = .returned (.bool true) ∧ Below w.heap.size w w' := by
  have hB := pows_lt' hp
  obtain ⟨k, T, n, A, m, c, rfl⟩ := h.parts
  obtain ⟨BA, bc, rfl⟩ := hsrc.form
  obtain ⟨wb, hwb⟩ : ∃ wb, w.alloc (.cells #[.int .i64 k, .string T, .int .i64 n, .slice A m c] 25) = wb := ⟨_, rfl⟩
  have hnew : wb.heap[w.heap.size]? = some (.cells #[.int .i64 k, .string T, .int .i64 n, .slice A m c] 25) := by rw [← hwb]; exact World.alloc_heap_new w _
  have hbw : Below w.heap.size w wb := by rw [← hwb]; exact (Below.refl _ _).alloc (Nat.le_refl _) _
  have hlt : w.heap.size < wb.heap.size := by rw [← hwb]; simp
  have HE := Lib.hid (pencode_I x hbk wb _ (h.low hbw) (hp.on hbw hB) (by omega))
  have hle := writeI_le h hbk
  have HV : Hid (checkI x = 0 → MayR 8 (toRT x) ∧ writeI x = writeR (toRT x) ∧ mayI x = true) := by
    intro q
    unfold checkI at q
    have h1 : nestsI x 8 = false := by
      cases hq : nestsI x 8 with
      | false => rfl
      | true => rw [hq] at q; simp at q
    have h2 : mayI x = true := by
      cases hq : mayI x with
      | true => rfl
      | false => rw [h1, hq] at q; simp at q
    obtain ⟨a, b⟩ := valid_I _ x (Nat.le_refl _) 8 _ h h2 h1
    exact ⟨a, b, h2⟩
  obtain ⟨E, hE⟩ : ∃ E, checkI x = E := ⟨_, rfl⟩
  obtain ⟨Y, hY⟩ : ∃ Y, writeI x = Y := ⟨_, rfl⟩
  rw [hE] at HE HV
  rw [hY] at HE HV hle
  have HX := Lib.hid h
  have HSRC := Lib.hid hsrc
  have HT8 := Lib.hid hT
  have HP := Lib.hid hp
  have HW := Lib.hid hwb
  have HNEW := Lib.hid hnew
  have HBW := Lib.hid hbw
  clear hwb hnew hbw h hsrc hT hp hE hY
  go_enter Tryd.func4, Tryd.ntmps4
  go_wp2_with fail
  rw [HW.out]
  refine HE.out.mono ?_
  rintro e w1 ⟨hb1, ⟨hne, rfl⟩ | ⟨rfl, v1, rfl, hown1⟩⟩
  · have HB1 := Lib.hid (HBW.out.trans (hb1.mono (by omega)))
    have HAL := Lib.hid (yalive_any w1 (HP.out.on HB1.out hB) (Nat.lt_of_lt_of_le hB HB1.out.size))
    have hne' : (E != 0) = true := by simp [hne]
    clear hb1
    go_wp2_with fail
    refine HAL.out.mono ?_
    rintro e w2 ⟨rfl, hb2⟩
    have HB2 := Lib.hid (HB1.out.trans (hb2.mono HB1.out.size))
    clear hb2
    go_wp2
    go_ret
    exact ⟨rfl, HB2.out⟩
  · obtain ⟨hMay, hYe, hmay⟩ := HV.out rfl
    have hYp : 1 ≤ Y.length := by
      have h1 := decode_read hMay []
      have h2 := decS_pos (writeR (toRT x) ++ []) (by rw [h1])
      rw [h1] at h2
      have h2 : 1 ≤ (writeR (toRT x)).length := h2
      rwa [← hYe] at h2
    rcases hown1.2 with ⟨hv0, hl0⟩ | ⟨g1, c1, cur1, rfl, hg1, hh1, hn1, hm1, _⟩
    · omega
    have HB1 := Lib.hid (HBW.out.trans (hb1.mono (by omega)))
    have HO1 := Lib.hid hown1
    have hz1 := HB1.out.size
    have hg1w : g1 < w1.heap.size := (Array.getElem?_eq_some_iff.1 hh1).1
    have HN1 := Lib.hid ((hb1.block w.heap.size (by omega)).trans HNEW.out)
    have hlt1 : w.heap.size < w1.heap.size := Nat.lt_of_lt_of_le hlt hb1.size
    have HDEC := Lib.hid (fun r => decode_read hMay r)
    have HMAY := Lib.hid hmay
    rw [← hYe] at HDEC
    have HX1 := Lib.hid (HX.out.low HB1.out)
    clear hb1 hown1 hMay hYe hmay hh1 HE HV
    by_cases h1000 : 1000 < tl.length
    · have hlb : (1000 : Int) < (tl.length : Int) := by omega
      have HSRC := Lib.hid (HSRC.out.cut 1000 (by omega))
      have hc1000 : 1000 ≤ bc ∧ bc ≤ 9223372036854775807 ∧ ∃ ad, BA = some ad := by
        obtain ⟨A', c', h1, h2, h3, h4, h5⟩ := HSRC.out
        have hl : (tl.take 1000).length = 1000 := by rw [List.length_take]; omega
        simp only [Value.slice.injEq] at h1
        obtain ⟨rfl, _, rfl⟩ := h1
        refine ⟨by omega, h3, ?_⟩
        cases BA with
        | none => have := h4 rfl; omega
        | some ad => exact ⟨ad, rfl⟩
      obtain ⟨hc1000, hbc63, ad, rfl⟩ := hc1000
      have htx : (tl.take 1000).length = 1000 := by rw [List.length_take]; omega
      obtain ⟨tx, hx⟩ : ∃ x, tl.take 1000 = x := ⟨_, rfl⟩
      rw [hx] at HSRC htx
      have HTX := Lib.hid htx
      clear hx htx
      have hown0 : (w1.alloc (.cells #[] 5)).ownsRow w1.heap.size 5 1 (.slice (some ⟨w1.heap.size, 0, none⟩) 0 0) ([] : List UInt8).length (Lib.byteCells []) :=
        ⟨rfl, .inr ⟨w1.heap.size, 0, #[], rfl, Nat.le_refl _, World.alloc_heap_new w1 _, Nat.le_refl _, Nat.zero_le _, rfl, rfl⟩⟩
      have hal : Below w1.heap.size w1 (w1.alloc (.cells #[] 5)) := (Below.refl _ _).alloc (Nat.le_refl _) _
      have HAL0 := Lib.hid hal
      have hsY := (SrcAt.own HO1.out).below hal
      clear hal
      go_wp2_with (at_builtin; refine wpList_append_src rfl _ _ rfl w1.heap.size _ _ rfl hown0 _ Y rfl hsY ?c1 ?c2 ?c3 ?_)
      case c1 => show 0 + Y.length ≤ maxLen; unfold maxLen; omega
      case c2 => show (0 + Y.length) * 1 ≤ _; omega
      case c3 => simp
      intro v2 w2 hown2 hgr2 _ _
      try simp only [List.nil_append] at hown2
      have hb2 : Below w1.heap.size w1 w2 := HAL0.out.grown hgr2 (by simp) (fun k hk => by
        simp only [Value.ownBlock, Option.some.injEq] at hk
        exact Nat.le_of_eq hk)
      have hs2 := (HSRC.out.below HB1.out).below hb2
      have hz2 := hb2.size
      obtain ⟨A2, c2, rfl⟩ := ownsRow_form hown2
      clear hown0 hgr2 hsY
      go_wp2_with (at_builtin; refine wpList_append_src rfl _ _ rfl w1.heap.size _ Y rfl hown2 _ tx rfl hs2 ?c4 ?c5 ?c6 ?_)
      case c4 => have := HTX.out; unfold maxLen; omega
      case c5 => have := HTX.out; omega
      case c6 => omega
      intro v3 w3 hown3 hgr3 _ _
      try rw [← List.length_append] at hown3
      have hb3 : Below w1.heap.size w1 w3 := hb2.grown hgr3 hz2 (fun k hk => (own_lt hown2 hk).1)
      have HDZ := Lib.hid (HDEC.out tx)
      have hzl : (Y ++ tx).length ≤ 6400000 := by have := HTX.out; rw [List.length_append]; omega
      obtain ⟨Z, hZ⟩ : ∃ Z, Y ++ tx = Z := ⟨_, rfl⟩
      rw [hZ] at hown3 HDZ hzl
      have hzp : 0 < Z.length := by rw [← hZ, List.length_append]; omega
      rcases hown3.2 with ⟨_, hl0⟩ | ⟨g3, c3, cur3, rfl, hg3, hh3, hn3, hm3, _⟩
      · omega
      have HB3 := Lib.hid (HB1.out.trans (hb3.mono hz1))
      have HD := Lib.hid (ydecode_any (some ⟨g3, 0, none⟩) g3 0 c3 Z w3 (by have := HB3.out.size; omega) (fun _ => rfl) (fun _ => (Array.getElem?_eq_some_iff.1 hh3).1) (own_bytes hown3) hn3 (by unfold maxLen at hm3; omega) (HT8.out.below HB3.out h6))
      rw [HDZ.out] at HD
      dsimp only at HD
      have HX3 := Lib.hid (HX1.out.low hb3)
      have HN3 := Lib.hid ((hb3.block w.heap.size hlt1).trans HN1.out)
      have HO3 := Lib.hid ((ownsRow_below HO1.out hb3))
      have hlt3 : w.heap.size < w3.heap.size := Nat.lt_of_lt_of_le hlt1 hb3.size
      clear hb2 hs2 hown2 hgr3 hown3 hb3 hh3 hZ hz2 HDZ
      go_wp2_with fail
      refine HD.out.mono ?_
      rintro e w4 ⟨hb4, K1, T1, n1, A1, l1, cc1, rfl, hx4⟩
      have HB4 := Lib.hid (HB3.out.trans (hb4.mono HB3.out.size))
      obtain ⟨wx, hwx⟩ : ∃ wx, w4.alloc (.cells #[.int .i64 K1, .string T1, .int .i64 n1, .slice A1 l1 cc1] 25) = wx := ⟨_, rfl⟩
      have hbx : Below w4.heap.size w4 wx := by rw [← hwx]; exact (Below.refl _ _).alloc (Nat.le_refl _) _
      have hnx : wx.heap[w4.heap.size]? = some (.cells #[.int .i64 K1, .string T1, .int .i64 n1, .slice A1 l1 cc1] 25) := by rw [← hwx]; exact World.alloc_heap_new w4 _
      have hnr : wx.heap[w.heap.size]? = some (.cells #[.int .i64 k, .string T, .int .i64 n, .slice A m c] 25) := (hbx.block w.heap.size (Nat.lt_of_lt_of_le hlt3 hb4.size)).trans ((hb4.block w.heap.size hlt3).trans HN3.out)
      have hX1 : RepI wx x [.int .i64 K1, .string T1, .int .i64 n1, .slice A1 l1 cc1] := RepAt.toI _ x (Nat.le_refl _) HMAY.out _ _ HX.out (hx4.keep (w' := wx) (Q := fun _ => True) hbx.size (fun _ _ _ => trivial) (fun g _ h => hbx.block g h))
      have HSM := Lib.hid (rsame_I _ x (Nat.le_refl _) x wx _ _ _ _ _ _ _ _ hX1 ((HX3.out.low hb4).low hbx))
      rw [sameI_refl] at HSM
      have HBX := Lib.hid (HB4.out.trans (hbx.mono HB4.out.size))
      have u0 : (w4.alloc (.cells #[.int .i64 K1, .string T1, .int .i64 n1, .slice A1 l1 cc1] 25)).cell? ⟨w4.heap.size, 0, none⟩ = some (.int .i64 K1) := by rw [hwx]; exact cell_in hnx
      have u1 : (w4.alloc (.cells #[.int .i64 K1, .string T1, .int .i64 n1, .slice A1 l1 cc1] 25)).cell? ⟨w4.heap.size, 1, none⟩ = some (.string T1) := by rw [hwx]; exact cell_in hnx
      have u2 : (w4.alloc (.cells #[.int .i64 K1, .string T1, .int .i64 n1, .slice A1 l1 cc1] 25)).cell? ⟨w4.heap.size, 2, none⟩ = some (.int .i64 n1) := by rw [hwx]; exact cell_in hnx
      have u3 : (w4.alloc (.cells #[.int .i64 K1, .string T1, .int .i64 n1, .slice A1 l1 cc1] 25)).cell? ⟨w4.heap.size, 3, none⟩ = some (.slice A1 l1 cc1) := by rw [hwx]; exact cell_in hnx
      have v0 : (w4.alloc (.cells #[.int .i64 K1, .string T1, .int .i64 n1, .slice A1 l1 cc1] 25)).cell? ⟨w.heap.size, 0, none⟩ = some (.int .i64 k) := by rw [hwx]; exact cell_in hnr
      have v1 : (w4.alloc (.cells #[.int .i64 K1, .string T1, .int .i64 n1, .slice A1 l1 cc1] 25)).cell? ⟨w.heap.size, 1, none⟩ = some (.string T) := by rw [hwx]; exact cell_in hnr
      have v2 : (w4.alloc (.cells #[.int .i64 K1, .string T1, .int .i64 n1, .slice A1 l1 cc1] 25)).cell? ⟨w.heap.size, 2, none⟩ = some (.int .i64 n) := by rw [hwx]; exact cell_in hnr
      have v3 : (w4.alloc (.cells #[.int .i64 K1, .string T1, .int .i64 n1, .slice A1 l1 cc1] 25)).cell? ⟨w.heap.size, 3, none⟩ = some (.slice A m c) := by rw [hwx]; exact cell_in hnr
      have HWX := Lib.hid hwx
      clear hb4 hx4 hbx hnx hnr hwx hX1 HD
      go_wp2_with fail
      rw [HWX.out]
      refine HSM.out.mono ?_
      rintro e w5 ⟨rfl, hb5⟩
      have HB5 := Lib.hid (HBX.out.trans (hb5.mono HBX.out.size))
      have HAL := Lib.hid (yalive_any w5 (HP.out.on HB5.out hB) (Nat.lt_of_lt_of_le hB HB5.out.size))
      clear hb5 u0 u1 u2 u3 v0 v1 v2 v3
      go_wp2_with fail
      refine HAL.out.mono ?_
      rintro e w6 ⟨rfl, hb6⟩
      have HB6 := Lib.hid (HB5.out.trans (hb6.mono HB5.out.size))
      clear hb6
      go_wp2
      go_ret
      exact ⟨rfl, HB6.out⟩
    · have hlb : ¬ ((1000 : Int) < (tl.length : Int)) := by omega
      have HTX : Hid (tl.length ≤ 1000) := by unfold Hid; omega
      have hown0 : (w1.alloc (.cells #[] 5)).ownsRow w1.heap.size 5 1 (.slice (some ⟨w1.heap.size, 0, none⟩) 0 0) ([] : List UInt8).length (Lib.byteCells []) :=
        ⟨rfl, .inr ⟨w1.heap.size, 0, #[], rfl, Nat.le_refl _, World.alloc_heap_new w1 _, Nat.le_refl _, Nat.zero_le _, rfl, rfl⟩⟩
      have hal : Below w1.heap.size w1 (w1.alloc (.cells #[] 5)) := (Below.refl _ _).alloc (Nat.le_refl _) _
      have HAL0 := Lib.hid hal
      have hsY := (SrcAt.own HO1.out).below hal
      clear hal
      go_wp2_with (at_builtin; refine wpList_append_src rfl _ _ rfl w1.heap.size _ _ rfl hown0 _ Y rfl hsY ?c1 ?c2 ?c3 ?_)
      case c1 => show 0 + Y.length ≤ maxLen; unfold maxLen; omega
      case c2 => show (0 + Y.length) * 1 ≤ _; omega
      case c3 => simp
      intro v2 w2 hown2 hgr2 _ _
      try simp only [List.nil_append] at hown2
      have hb2 : Below w1.heap.size w1 w2 := HAL0.out.grown hgr2 (by simp) (fun k hk => by
        simp only [Value.ownBlock, Option.some.injEq] at hk
        exact Nat.le_of_eq hk)
      have hs2 := (HSRC.out.below HB1.out).below hb2
      have hz2 := hb2.size
      obtain ⟨A2, c2, rfl⟩ := ownsRow_form hown2
      clear hown0 hgr2 hsY
      go_wp2_with (at_builtin; refine wpList_append_src rfl _ _ rfl w1.heap.size _ Y rfl hown2 _ tl rfl hs2 ?c4 ?c5 ?c6 ?_)
      case c4 => have := HTX.out; unfold maxLen; omega
      case c5 => have := HTX.out; omega
      case c6 => omega
      intro v3 w3 hown3 hgr3 _ _
      try rw [← List.length_append] at hown3
      have hb3 : Below w1.heap.size w1 w3 := hb2.grown hgr3 hz2 (fun k hk => (own_lt hown2 hk).1)
      have HDZ := Lib.hid (HDEC.out tl)
      have hzl : (Y ++ tl).length ≤ 6400000 := by have := HTX.out; rw [List.length_append]; omega
      obtain ⟨Z, hZ⟩ : ∃ Z, Y ++ tl = Z := ⟨_, rfl⟩
      rw [hZ] at hown3 HDZ hzl
      have hzp : 0 < Z.length := by rw [← hZ, List.length_append]; omega
      rcases hown3.2 with ⟨_, hl0⟩ | ⟨g3, c3, cur3, rfl, hg3, hh3, hn3, hm3, _⟩
      · omega
      have HB3 := Lib.hid (HB1.out.trans (hb3.mono hz1))
      have HD := Lib.hid (ydecode_any (some ⟨g3, 0, none⟩) g3 0 c3 Z w3 (by have := HB3.out.size; omega) (fun _ => rfl) (fun _ => (Array.getElem?_eq_some_iff.1 hh3).1) (own_bytes hown3) hn3 (by unfold maxLen at hm3; omega) (HT8.out.below HB3.out h6))
      rw [HDZ.out] at HD
      dsimp only at HD
      have HX3 := Lib.hid (HX1.out.low hb3)
      have HN3 := Lib.hid ((hb3.block w.heap.size hlt1).trans HN1.out)
      have HO3 := Lib.hid ((ownsRow_below HO1.out hb3))
      have hlt3 : w.heap.size < w3.heap.size := Nat.lt_of_lt_of_le hlt1 hb3.size
      clear hb2 hs2 hown2 hgr3 hown3 hb3 hh3 hZ hz2 HDZ
      go_wp2_with fail
      refine HD.out.mono ?_
      rintro e w4 ⟨hb4, K1, T1, n1, A1, l1, cc1, rfl, hx4⟩
      have HB4 := Lib.hid (HB3.out.trans (hb4.mono HB3.out.size))
      obtain ⟨wx, hwx⟩ : ∃ wx, w4.alloc (.cells #[.int .i64 K1, .string T1, .int .i64 n1, .slice A1 l1 cc1] 25) = wx := ⟨_, rfl⟩
      have hbx : Below w4.heap.size w4 wx := by rw [← hwx]; exact (Below.refl _ _).alloc (Nat.le_refl _) _
      have hnx : wx.heap[w4.heap.size]? = some (.cells #[.int .i64 K1, .string T1, .int .i64 n1, .slice A1 l1 cc1] 25) := by rw [← hwx]; exact World.alloc_heap_new w4 _
      have hnr : wx.heap[w.heap.size]? = some (.cells #[.int .i64 k, .string T, .int .i64 n, .slice A m c] 25) := (hbx.block w.heap.size (Nat.lt_of_lt_of_le hlt3 hb4.size)).trans ((hb4.block w.heap.size hlt3).trans HN3.out)
      have hX1 : RepI wx x [.int .i64 K1, .string T1, .int .i64 n1, .slice A1 l1 cc1] := RepAt.toI _ x (Nat.le_refl _) HMAY.out _ _ HX.out (hx4.keep (w' := wx) (Q := fun _ => True) hbx.size (fun _ _ _ => trivial) (fun g _ h => hbx.block g h))
      have HSM := Lib.hid (rsame_I _ x (Nat.le_refl _) x wx _ _ _ _ _ _ _ _ hX1 ((HX3.out.low hb4).low hbx))
      rw [sameI_refl] at HSM
      have HBX := Lib.hid (HB4.out.trans (hbx.mono HB4.out.size))
      have u0 : (w4.alloc (.cells #[.int .i64 K1, .string T1, .int .i64 n1, .slice A1 l1 cc1] 25)).cell? ⟨w4.heap.size, 0, none⟩ = some (.int .i64 K1) := by rw [hwx]; exact cell_in hnx
      have u1 : (w4.alloc (.cells #[.int .i64 K1, .string T1, .int .i64 n1, .slice A1 l1 cc1] 25)).cell? ⟨w4.heap.size, 1, none⟩ = some (.string T1) := by rw [hwx]; exact cell_in hnx
      have u2 : (w4.alloc (.cells #[.int .i64 K1, .string T1, .int .i64 n1, .slice A1 l1 cc1] 25)).cell? ⟨w4.heap.size, 2, none⟩ = some (.int .i64 n1) := by rw [hwx]; exact cell_in hnx
      have u3 : (w4.alloc (.cells #[.int .i64 K1, .string T1, .int .i64 n1, .slice A1 l1 cc1] 25)).cell? ⟨w4.heap.size, 3, none⟩ = some (.slice A1 l1 cc1) := by rw [hwx]; exact cell_in hnx
      have v0 : (w4.alloc (.cells #[.int .i64 K1, .string T1, .int .i64 n1, .slice A1 l1 cc1] 25)).cell? ⟨w.heap.size, 0, none⟩ = some (.int .i64 k) := by rw [hwx]; exact cell_in hnr
      have v1 : (w4.alloc (.cells #[.int .i64 K1, .string T1, .int .i64 n1, .slice A1 l1 cc1] 25)).cell? ⟨w.heap.size, 1, none⟩ = some (.string T) := by rw [hwx]; exact cell_in hnr
      have v2 : (w4.alloc (.cells #[.int .i64 K1, .string T1, .int .i64 n1, .slice A1 l1 cc1] 25)).cell? ⟨w.heap.size, 2, none⟩ = some (.int .i64 n) := by rw [hwx]; exact cell_in hnr
      have v3 : (w4.alloc (.cells #[.int .i64 K1, .string T1, .int .i64 n1, .slice A1 l1 cc1] 25)).cell? ⟨w.heap.size, 3, none⟩ = some (.slice A m c) := by rw [hwx]; exact cell_in hnr
      have HWX := Lib.hid hwx
      clear hb4 hx4 hbx hnx hnr hwx hX1 HD
      go_wp2_with fail
      rw [HWX.out]
      refine HSM.out.mono ?_
      rintro e w5 ⟨rfl, hb5⟩
      have HB5 := Lib.hid (HBX.out.trans (hb5.mono HBX.out.size))
      have HAL := Lib.hid (yalive_any w5 (HP.out.on HB5.out hB) (Nat.lt_of_lt_of_le hB HB5.out.size))
      clear hb5 u0 u1 u2 u3 v0 v1 v2 v3
      go_wp2_with fail
      refine HAL.out.mono ?_
      rintro e w6 ⟨rfl, hb6⟩
      have HB6 := Lib.hid (HB5.out.trans (hb6.mono HB5.out.size))
      clear hb6
      go_wp2
      go_ret
      exact ⟨rfl, HB6.out⟩

end Go.Proofs.YtbldahkgilkclaaDoor
