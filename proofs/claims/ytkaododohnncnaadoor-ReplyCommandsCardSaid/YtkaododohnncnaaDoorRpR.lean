/-
  The walks of package resp's copied and request. Conditions: the request that is being read holds what its state says.
-/
import Derived.Test.YtkaododohnncnaaDoorRpL
namespace Go.Proofs.YtkaododohnncnaaDoor
open Go.RowKit

theorem text_conv {w : World} {B : Nat} {tv u : Value} {t : List UInt8} (h : TextV w B tv u t) : (convert 23 9 u).run Tryd.prog w = .ok (.string ⟨t.toArray⟩) w := by
  rcases h with ⟨rfl, rfl⟩ | ⟨g, o, cap, rfl, _, h3, _⟩
  · exact conv_own w 0 _ [] ⟨rfl, .inl ⟨rfl, rfl⟩⟩
  · exact conv_bytes w g o cap t h3

/-- The row that is being filled. -/
def fillV (ts : List (List UInt8)) (j : Nat) : List Value := (ts.take j).map strV ++ List.replicate (ts.length - j) (strV [])
theorem fill_none (ts : List (List UInt8)) : fillV ts 0 = List.replicate ts.length (strV []) := by simp [fillV]
theorem fill_all (ts : List (List UInt8)) : fillV ts ts.length = ts.map strV := by simp [fillV]
theorem fill_set (ts : List (List UInt8)) (j : Nat) (t : List UInt8) (h : ts[j]? = some t) : (fillV ts j).set j (strV t) = fillV ts (j + 1) := by
  have hj : j < ts.length := (List.getElem?_eq_some_iff.1 h).1
  have hl : ((ts.take j).map strV).length = j := by rw [List.length_map, List.length_take]; omega
  unfold fillV
  rw [List.set_append, if_neg (by omega), hl, Nat.sub_self, show ts.length - j = (ts.length - (j + 1)) + 1 from by omega, List.replicate_succ, List.set_cons_zero, List.take_add_one, h]
  simp
theorem fill_len (ts : List (List UInt8)) (j : Nat) (h : j ≤ ts.length) : (fillV ts j).length = ts.length := by
  unfold fillV
  rw [List.length_append, List.length_map, List.length_take, List.length_replicate]; omega

set_option maxRecDepth 100000 in
set_option maxHeartbeats 4000000 in
theorem pcopied_any (B : Nat) (ts : List (List UInt8)) (tv : Value) (vs : List Value) (w : World) (hB : B < w.heap.size) (hc1 : w.cell? ⟨B, 1, none⟩ = some tv) (hown : w.ownsRow (B + 1) 23 1 tv ts.length vs) (htx : Texts w B tv vs ts) (hts : ts.length ≤ 1000000) :
    Calls Tryd.prog 52 #[.pointer (some ⟨B, 0, none⟩)] w fun e w' => ∃ u, e = .returned u ∧ w'.ownsRow w.heap.size 9 1 u ts.length (ts.map strV) ∧ Below w.heap.size w w' := by
  obtain ⟨i0, hi, hy0, hy1, hy2⟩ := info_parts info_str
  obtain ⟨w2, hmk, hownm, hgrm⟩ := run_makeSlice_full (P := Tryd.prog) w w.heap.size 22 9 i0 (.string ⟨#[]⟩) 1 Tryd.underlying22 hi hy0 hy1 .i64 .i64 ts.length (by omega) (by rw [hy2]; omega) (by unfold maxLen; omega) (Nat.le_refl _)
  have hbel : Below w.heap.size w w2 := (Below.refl _ _).grown hgrm (Nat.le_refl _) (fun k hk => by cases hk)
  have hrow0 : (madeCells (Value.string ⟨#[]⟩).cells (ts.length * 1)).toList = fillV ts 0 := by
    rw [Nat.mul_one, fill_none]
    exact toList_madeCells_one _ _
  rw [hrow0] at hownm
  have HT := Lib.hid htx
  have HO := Lib.hid hown
  have HM := Lib.hid hownm
  have HBL := Lib.hid hbel
  have hc2 := (hbel.cell (p := ⟨B, 1, none⟩) hB).trans hc1
  have hz2 := hbel.size
  obtain ⟨n, hn⟩ : ∃ n, ts.length = n := ⟨_, rfl⟩
  have HN := Lib.hid hn
  have HG := Lib.hid hgrm
  clear hgrm
  obtain ⟨A, c, rfl⟩ := ownsRow_form hown
  rw [hn] at hmk hts hc1 hc2
  clear htx hown hownm hbel hrow0 hn
  go_enter Tryd.func52, Tryd.ntmps52
  go_wp2
  go_loopw [4, 5, 17] (fun _ _ k wr => ∃ j : Nat, k = .int .i64 j ∧ j ≤ n ∧ wr.ownsRow w.heap.size 9 1 (.slice (some ⟨w.heap.size, 0, none⟩) n n) n (fillV ts j) ∧ Below w.heap.size w wr) (fun _ _ k _ => n - (intOf k).toNat)
  case atStart => exact ⟨0, by go_num, by omega, by have := HM.out; rw [HN.out] at this; exact this, HBL.out⟩
  case round =>
    obtain ⟨j, rfl, hj, hrow, hb⟩ := hrel
    by_cases hlt : j < n
    · have hjt : j < ts.length := by rw [HN.out]; exact hlt
      obtain ⟨t, ht⟩ : ∃ t, ts[j]? = some t := ⟨_, List.getElem?_eq_getElem hjt⟩
      obtain ⟨u, hu⟩ : ∃ u, vs[j]? = some u := ⟨_, List.getElem?_eq_getElem (by rw [HT.out.1]; exact hjt)⟩
      have htxt := HT.out.2 j u t hu ht
      have hcv := text_conv (htxt.step (w1 := wr) hb.size (fun k hk _ _ => hb.block k hk))
      rcases HO.out.2 with ⟨h1, h2⟩ | ⟨g, cap, cur, h1, h2, h3, h4, h5, h6, h7⟩
      · rw [HN.out] at h2; omega
      · simp only [Value.slice.injEq] at h1
        obtain ⟨rfl, _, rfl⟩ := h1
        have hgw := (Array.getElem?_eq_some_iff.1 h3).1
        have hcell : wr.cell? ⟨g, j, none⟩ = some u := by
          rw [hb.cell (p := ⟨g, j, none⟩) hgw]
          have := HO.out.cells (g := g) rfl j u hu
          rwa [Go.WideShapes.add_plain, Nat.zero_add] at this
        have hdst : wr.cell? ⟨w.heap.size, j, none⟩ = (fillV ts j)[j]? := hrow.cellAt j (by omega)
        rw [List.getElem?_eq_getElem (by rw [fill_len ts j (by omega), HN.out]; exact hlt)] at hdst
        have hfz := hrow.frozenAt j
        have hst := (hrow.stored j (strV t)).1
        rw [fill_set ts j t ht] at hst
        have hbs : Below w.heap.size w (wr.setCell ⟨w.heap.size, j, none⟩ (strV t)) := hb.setCell (p := ⟨w.heap.size, j, none⟩) (Nat.le_refl _) _
        have HST := Lib.hid hst
        have HBS := Lib.hid hbs
        have hgsz : w.heap.size < wr.heap.size := by
          obtain ⟨_, h⟩ := hrow
          rcases h with ⟨h, _⟩ | ⟨g', _, _, h, _, h', _⟩
          · simp at h
          · simp only [Value.slice.injEq, Option.some.injEq, Addr.mk.injEq, and_true, true_and] at h
            obtain ⟨rfl, rfl⟩ := h
            exact (Array.getElem?_eq_some_iff.1 h').1
        clear hst hbs h3 h6 h7 htxt hu ht h4 h5
        go_wp2
        go_roundw
        case rel => exact ⟨j + 1, by go_num, by omega, HST.out, HBS.out⟩
        case measure => simp only [intOf]; omega
    · obtain rfl : j = n := by omega
      go_wp2
      go_ret
      refine ⟨_, rfl, ?_, hb⟩
      rw [← fill_all ts, HN.out]
      exact hrow

/-- What a reading holds between two requests. -/
structure RIn (w : World) (B b : Nat) (l : List UInt8) (v tv : Value) (n : Nat) (vs : List Value) : Prop where
  lo : b < B
  lt : B < w.heap.size
  c0 : w.cell? ⟨B, 0, none⟩ = some v
  left : LeftV w b v l
  c1 : w.cell? ⟨B, 1, none⟩ = some tv
  f0 : w.frozen? ⟨B, 0, none⟩ = false
  f1 : w.frozen? ⟨B, 1, none⟩ = false
  own : w.ownsRow (B + 1) 23 1 tv n vs

/-- The row, cut to no text. -/
def cutV : Value → Value
  | .slice A _ c => .slice A 0 c
  | v => v

theorem RIn.reset {w : World} {B b : Nat} {l : List UInt8} {v tv : Value} {n : Nat} {vs : List Value} (h : RIn w B b l v tv n vs) : RSt w B b tv.ownBlock l [] v (cutV tv) [] (w.setCell ⟨B, 1, none⟩ (cutV tv)) := by
  have hne : tv.ownBlock ≠ some B := fun e => by have := (own_lt h.own e).1; omega
  obtain ⟨A, c, rfl⟩ := ownsRow_form h.own
  have hcut : cutV (.slice A n c) = .slice A 0 c := rfl
  rw [hcut]
  exact {
    mod := (Mod.refl h.lt hne).set
    lo := h.lo
    c0 := (World.cell?_setCell_other _ _ _ _ (by intro e; injection e with _ e _; cases e)).trans h.c0
    left := h.left
    c1 := World.cell?_setCell_same _ _ _ h.c1
    m0 := h.f0
    m1 := h.f1
    own := by
      refine ownsRow_set ?_ B (Nat.lt_succ_self B) 1 _
      refine ⟨rfl, ?_⟩
      rcases h.own.2 with ⟨h1, h2⟩ | ⟨g, cap, cur, h1, h2, h3, h4, h5, h6, h7⟩
      · simp only [Value.slice.injEq] at h1
        obtain ⟨rfl, _, rfl⟩ := h1
        exact .inl ⟨rfl, rfl⟩
      · simp only [Value.slice.injEq] at h1
        obtain ⟨rfl, _, rfl⟩ := h1
        exact .inr ⟨g, c, cur, rfl, h2, h3, Nat.zero_le _, h5, h6, by simp⟩
    tbk := fun k hk => Or.inl (by cases A with | none => cases hk | some a => exact hk)
    tbl := fun k hk => by have := (own_lt h.own hk).1; omega
    texts := ⟨rfl, fun i u t hu => by cases hu⟩ }

set_option maxRecDepth 100000 in
set_option maxHeartbeats 2000000 in
theorem prequest_any (B b : Nat) (l : List UInt8) (v tv : Value) (n : Nat) (vs : List Value) (w : World) (h : RIn w B b l v tv n vs) :
    Calls Tryd.prog 51 #[.pointer (some ⟨B, 0, none⟩)] w (ReqPost w B b tv.ownBlock l (firstS l)) := by
  have hr := h.reset
  have HR := Lib.hid hr
  have hc0 := h.c0
  have hc1 := h.c1
  have hf1 := h.f1
  have hB := h.lt
  have HO := Lib.hid h.own
  obtain ⟨o, cap, rfl, g1, g2, g3⟩ := h.left
  have hlo := h.lo
  obtain ⟨A, c, rfl⟩ := ownsRow_form h.own
  have hcut : cutV (.slice A n c) = .slice A 0 c := rfl
  rw [hcut] at HR
  have hg : A = none ∧ n = 0 ∧ c = 0 ∨ ∃ g, A = some ⟨g, 0, none⟩ ∧ n ≤ c ∧ c ≤ maxLen := by
    rcases HO.out.2 with ⟨h1, h2⟩ | ⟨g, cap, cur, h1, h2, h3, h4, h5, h6, h7⟩
    · simp only [Value.slice.injEq] at h1
      exact Or.inl ⟨h1.1, h1.2.1, h1.2.2⟩
    · simp only [Value.slice.injEq] at h1
      exact Or.inr ⟨g, h1.1, by omega, by omega⟩
  have HNB := Lib.hid ((World.cell?_setCell_other w ⟨B, 1, none⟩ ⟨b, o, none⟩ (.slice A 0 c) (by intro e; injection e with e _ _; omega)))
  have hz : (w.setCell ⟨B, 1, none⟩ (.slice A 0 c)).heap.size = w.heap.size := by simp [World.setCell]
  clear hr h hcut
  match l with
  | [] =>
    rw [List.length_nil] at hc0
    rcases hg with ⟨rfl, rfl, rfl⟩ | ⟨g, rfl, k1, k2⟩
    all_goals
      go_enter Tryd.func51, Tryd.ntmps51
      go_wp2
      go_ret
      exact ⟨rfl, HR.out.mod⟩
  | x :: r =>
    have hcell := g3 0 (by simp)
    simp only [Nat.add_zero, List.getD_cons_zero] at hcell
    rw [List.length_cons] at hc0 g1
    have hcell2 := HNB.out.trans hcell
    clear g3
    by_cases h42 : x = 42
    · subst h42
      have HF : Hid (firstS (42 :: r) = bulksS (42 :: r)) := rfl
      have HB := Lib.hid (pbulks_any w B b _ r _ _ _ _ HR.out)
      rw [HF.out]
      clear HF
      generalize bulksS (42 :: r) = RR at HB ⊢
      rcases hg with ⟨rfl, rfl, rfl⟩ | ⟨g, rfl, k1, k2⟩
      all_goals
        rcases RR with _ | f | ⟨ws, k⟩
        · go_enter Tryd.func51, Tryd.ntmps51
          go_wp2_with fail
          refine HB.out.mono ?_
          rintro e w2 ⟨rfl, hm⟩
          go_wp2
          go_ret
          exact ⟨rfl, hm⟩
        · go_enter Tryd.func51, Tryd.ntmps51
          go_wp2_with fail
          refine HB.out.mono ?_
          rintro e w2 ⟨rfl, hm⟩
          go_wp2
          exact ⟨rfl, rfl, hm⟩
        · go_enter Tryd.func51, Tryd.ntmps51
          go_wp2_with fail
          refine HB.out.mono ?_
          rintro e w2 ⟨rfl, hm⟩
          go_wp2
          go_ret
          exact ⟨rfl, hm⟩
    · have HF : Hid (firstS (x :: r) = lineS (x :: r)) := by show (if x = 42 then bulksS (x :: r) else lineS (x :: r)) = lineS (x :: r); rw [if_neg h42]
      have HB := Lib.hid (pline_any w B b _ (x :: r) _ _ _ _ HR.out)
      have hne : ((x.toNat : Int) == 42) = false := neI rfl h42
      rw [HF.out]
      clear h42
      clear HF
      generalize lineS (x :: r) = RR at HB ⊢
      rcases hg with ⟨rfl, rfl, rfl⟩ | ⟨g, rfl, k1, k2⟩
      all_goals
        rcases RR with _ | f | ⟨ws, k⟩
        · go_enter Tryd.func51, Tryd.ntmps51
          go_wp2_with fail
          refine HB.out.mono ?_
          rintro e w2 ⟨rfl, hm⟩
          go_wp2
          go_ret
          exact ⟨rfl, hm⟩
        · go_enter Tryd.func51, Tryd.ntmps51
          go_wp2_with fail
          refine HB.out.mono ?_
          rintro e w2 ⟨rfl, hm⟩
          go_wp2
          exact ⟨rfl, rfl, hm⟩
        · go_enter Tryd.func51, Tryd.ntmps51
          go_wp2_with fail
          refine HB.out.mono ?_
          rintro e w2 ⟨rfl, hm⟩
          go_wp2
          go_ret
          exact ⟨rfl, hm⟩

end Go.Proofs.YtkaododohnncnaaDoor
