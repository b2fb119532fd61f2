/-
  The walk of package resp's line. Conditions: the request that is being read holds what its state says.
-/
import Derived.Test.YtkaododohnncnaaDoorRpG
import Derived.Test.YtkaododohnncnaaDoorRpW
import Derived.Test.YtkaododohnncnaaDoorRpT
import Derived.Deep.RegionHeld3
import Derived.Deep.AppendLies
namespace Go.Proofs.YtkaododohnncnaaDoor
open Go.RowKit

theorem news_one (w : World) (x : Value) (T : TypeId) : ∀ (j : Nat) (u : Value), [x][j]? = some u → (w.alloc (.cells #[x] T)).cell? ((⟨w.heap.size, 0, none⟩ : Addr).add j) = some u := by
  intro j u hj
  cases j with
  | zero => simp at hj; subst hj; simp [Addr.add, World.cell?_alloc_at]
  | succ j => simp at hj
theorem one_cell (A : Option Addr) (n c : Nat) : ∀ u ∈ [Value.slice A n c], u.oneCell' = true := by intro u hu; simp at hu; subst hu; rfl

set_option maxRecDepth 100000 in
set_option maxHeartbeats 8000000 in
theorem pline_any (W : World) (B b : Nat) (tb : Option Nat) (l : List UInt8) (v tv : Value) (vs : List Value) (w : World) (h : RSt W B b tb l [] v tv vs w) :
    Calls Tryd.prog 73 #[.pointer (some ⟨B, 0, none⟩)] w (ReqPost W B b tb l (lineS l)) := by
  obtain ⟨i0, hi, hy0, hy1, hy2⟩ := info_parts info_bs
  have hc := h.c0
  obtain ⟨_, hnb, hb, hB, hWw⟩ := h.fresh
  have HUP := Lib.hid (pupTo_any B b v 10 (perrB ++ bigL) l w hB hc h.f0 (h.bytes h.left))
  have HH := Lib.hid h
  clear h
  cases hf1 : findL 10 l with
  | none =>
    have hS : lineS l = if 65536 < l.length then some (.inl (perrB ++ bigL)) else none := by unfold lineS; rw [hf1]
    by_cases hbig : 65536 < l.length
    · rw [if_pos hbig] at hS
      have HC2 := Lib.hid (fun e w' (k : UpPost w B b 10 (perrB ++ bigL) l e w') => (by unfold UpPost at k; rw [hf1] at k; dsimp only at k; rw [if_pos hbig] at k; exact k : Thrown (perrB ++ bigL) e ∧ Below w.heap.size w w'))
      rw [hS]
      clear hf1 hS hbig
      go_enter Tryd.func73, Tryd.ntmps73
      go_wp2_with fail
      refine HUP.out.mono ?_
      rintro e w1 hpost
      obtain ⟨rfl, hb1⟩ := HC2.out _ _ hpost
      go_wp2
      exact ⟨rfl, rfl, HH.out.mod.below hb1⟩
    · rw [if_neg hbig] at hS
      have HC2 := Lib.hid (fun e w' (k : UpPost w B b 10 (perrB ++ bigL) l e w') => (by unfold UpPost at k; rw [hf1] at k; dsimp only at k; rw [if_neg hbig] at k; exact k : e = .returned (.tuple #[.slice none 0 0, .bool false]) ∧ Below w.heap.size w w'))
      rw [hS]
      clear hf1 hS hbig
      go_enter Tryd.func73, Tryd.ntmps73
      go_wp2_with fail
      refine HUP.out.mono ?_
      rintro e w1 hpost
      obtain ⟨rfl, hb1⟩ := HC2.out _ _ hpost
      go_wp2
      go_ret
      exact ⟨rfl, HH.out.mod.below hb1⟩
  | some i =>
    obtain ⟨k1, k2, k3⟩ := findL_le hf1
    have HS := Lib.hid (lineS_eq hf1)
    rw [lineT_words l i k1] at HS
    have HC2 := Lib.hid (fun e w' (k : UpPost w B b 10 (perrB ++ bigL) l e w') => (by unfold UpPost at k; rw [hf1] at k; exact k : ∃ t v', e = .returned (.tuple #[t, .bool true]) ∧ LeftV w b t (l.take i) ∧ LeftV w b v' (l.drop (i + 1)) ∧ Put w ⟨B, 0, none⟩ v' w'))
    have htl : (l.take i).length = i := by rw [List.length_take]; omega
    obtain ⟨R, hR⟩ : ∃ R, wordsGo (i + 1) (l.take i) [] = R := ⟨_, rfl⟩
    rw [hR] at HS
    have HR := Lib.hid hR
    obtain ⟨LS, hLS⟩ : ∃ LS, lineS l = LS := ⟨_, rfl⟩
    rw [hLS] at HS ⊢
    clear hf1 k3 hR hLS
    go_enter Tryd.func73, Tryd.ntmps73
    go_wp2_with fail
    refine HUP.out.mono ?_
    rintro e w1 hpost
    obtain ⟨t, v1, rfl, ht, hv1, hp1⟩ := HC2.out _ _ hpost
    have HH1 := Lib.hid (HH.out.put hp1 (HH.out.back hv1))
    have HT := Lib.hid (HH.out.back ht)
    obtain ⟨_, _, hb1, hB1, hW1⟩ := HH1.out.fresh
    obtain ⟨o2, cp2, rfl, _⟩ := ht
    rw [htl] at HT ⊢
    clear hpost hv1 HC2 HUP HH hc hp1
    obtain ⟨w2, hw2⟩ : ∃ w2, w2 = w1.alloc (.cells #[.slice (some ⟨b, o2, none⟩) i cp2] 66) := ⟨_, rfl⟩
    have hz2 : w2.heap.size = w1.heap.size + 1 := by rw [hw2]; simp
    have hbel : Below w1.heap.size w1 w2 := by rw [hw2]; exact (Below.refl _ _).alloc (Nat.le_refl _) _
    have HH2 := Lib.hid (HH1.out.below hbel)
    have hc2 : w2.cell? ⟨w1.heap.size, 0, none⟩ = some (.slice (some ⟨b, o2, none⟩) i cp2) := by rw [hw2]; simp
    have hf2 : w2.frozen? ⟨w1.heap.size, 0, none⟩ = false := by rw [hw2]; simp
    have HPB := Lib.hid (ppass_any w1.heap.size b (.slice (some ⟨b, o2, none⟩) i cp2) (l.take i) w2 (by omega) (by omega) (by omega) hc2 hf2 (HH2.out.bytes HT.out))
    have HC2 := Lib.hid hc2
    have HF2 := Lib.hid hf2
    have HBL := Lib.hid hbel
    clear hc2 hf2 hbel
    rw [hw2] at HPB
    go_wp2_with fail
    refine HPB.out.mono ?_
    rintro e w3 ⟨vl, rfl, hvl, hp3⟩
    rw [← hw2] at hvl hp3
    obtain ⟨F0, hF0, hF1⟩ := words_drop (l.take i) (i + 1) [] (by omega)
    have HFW : Hid (wordsGo F0 ((l.take i).dropWhile blankS) [] = R) := by unfold Hid; rw [← hF1]; exact HR.out
    have hdw : ((l.take i).dropWhile blankS).length ≤ i := by have := (List.dropWhile_suffix blankS (l := l.take i)).length_le; omega
    have HHD : Hid (∀ c x, (l.take i).dropWhile blankS = c :: x → blankS c = false) := fun c x e => by
      have := List.head?_dropWhile_not blankS (l.take i)
      rw [e] at this
      simpa using this
    have HVL := Lib.hid (HH2.out.back hvl)
    have hcc := hp3.cell HC2.out
    have hff := (hp3.frozen (q := ⟨w1.heap.size, 0, none⟩) (by show w1.heap.size < w2.heap.size; omega)).trans HF2.out
    have H3 : RSt W B b tb (l.drop (i + 1)) [] v1 tv vs w3 := by
      refine HH2.out.far hp3 hW1 (fun e => ?_) (fun u hu => ?_)
      · rcases HH1.out.own.2 with ⟨h1, _⟩ | ⟨g, _, _, h1, _, h3, _⟩
        · rw [h1] at e; cases e
        · rw [h1] at e
          have := (Array.getElem?_eq_some_iff.1 h3).1
          simp only [Value.ownBlock, Option.some.injEq] at e
          omega
      · have := HH1.out.texts.1
        rw [List.length_nil, List.length_eq_zero_iff] at this
        rw [this] at hu
        cases hu
    have HH3 := Lib.hid H3
    have hz3 := hp3.size
    obtain ⟨rest0, hr0⟩ : ∃ rest, (l.take i).dropWhile blankS = rest := ⟨_, rfl⟩
    rw [hr0] at HFW hdw HHD HVL hF0
    obtain ⟨Q, hQ⟩ : ∃ Q, w1.heap.size = Q := ⟨_, rfl⟩
    rw [hQ] at hW1 hb1 hB1 hz2 hcc hff ⊢
    have htv0 : tv.ownBlock ≠ some Q := by
      rcases HH1.out.own.2 with ⟨h1, _⟩ | ⟨g, _, _, h1, _, h3, _⟩
      · rw [h1]; intro e; cases e
      · rw [h1]
        have := (Array.getElem?_eq_some_iff.1 h3).1
        intro e
        simp only [Value.ownBlock, Option.some.injEq] at e
        omega
    have hvs0 : vs = [] := by
      have := HH1.out.texts.1
      rwa [List.length_nil, List.length_eq_zero_iff] at this
    have HTV0 := Lib.hid htv0
    have HVS0 := Lib.hid hvs0
    have HCC := Lib.hid hcc
    have HFF := Lib.hid hff
    clear HPB hw2 hvl hF1 H3 hp3 hr0 HH2 HH1 HC2 HF2 HBL HT htv0 hvs0 hcc hff
    go_wp2
    go_loopw [] (fun wr => ∃ (rest : List UInt8) (acc : List (List UInt8)) (vl tv : Value) (vs : List Value) (F : Nat), wr.cell? ⟨Q, 0, none⟩ = some vl ∧ wr.frozen? ⟨Q, 0, none⟩ = false ∧ Q < wr.heap.size ∧ LeftV W b vl rest ∧ rest.length + acc.length ≤ i ∧ rest.length < F ∧ RSt W B b tb (l.drop (i + 1)) acc v1 tv vs wr ∧ tv.ownBlock ≠ some Q ∧ (∀ u ∈ vs, u.ownBlock ≠ some Q) ∧ Hid (∀ c x, rest = c :: x → blankS c = false) ∧ Hid (wordsGo F rest acc = R)) (fun wr => lenAt wr ⟨Q, 0, none⟩)
    case atStart => exact ⟨rest0, [], vl, tv, vs, F0, HCC.out, HFF.out, by omega, HVL.out, by simp only [List.length_nil]; omega, hF0, HH3.out, HTV0.out, (by rw [HVS0.out]; intro u hu; cases hu), HHD, HFW⟩
    case round =>
      clear HFW HVL HHD HH3 HTV0 HVS0 HCC HFF hF0 hdw
      obtain ⟨rest, acc, vl, tv, vs, F, hcc, hff, hQr, hvl, hlen, hF, hst, htv, hvs, HHD, HG⟩ := hrel
      have HLEN : Hid (lenAt wr ⟨Q, 0, none⟩ = rest.length) := by
        obtain ⟨o, cap, rfl, _⟩ := hvl
        exact lenAt_slice hcc
      have HST := Lib.hid hst
      have HVL := Lib.hid hvl
      have hc1 := hst.c1
      have hf1 := hst.f1
      obtain ⟨F, rfl⟩ : ∃ g, F = g + 1 := ⟨F - 1, by omega⟩
      clear hst
      match rest with
      | [] =>
        have HE : Hid (R = some acc) := by unfold Hid; rw [← HG.out]; rfl
        obtain ⟨o, cap, rfl, _⟩ := hvl
        rw [List.length_nil] at hcc
        obtain ⟨A, c', rfl⟩ := ownsRow_form HST.out.own
        clear HG
        by_cases h1024 : 1024 < acc.length
        · have HE2 : Hid (LS = some (.inl (perrB ++ badM))) := by unfold Hid; rw [HS.out, HE.out]; dsimp only; rw [if_pos h1024]
          go_wp2
          refine ⟨rfl, ?_⟩
          rw [HE2.out]
          exact ⟨rfl, HST.out.mod⟩
        · have HE2 : Hid (LS = some (.inr (acc, i + 1))) := by unfold Hid; rw [HS.out, HE.out]; dsimp only; rw [if_neg h1024]
          go_wp2
          go_ret
          rw [HE2.out]
          exact ⟨rfl, _, _, _, HST.out⟩
      | c :: rest =>
        have hbl := HHD.out c rest rfl
        obtain ⟨_, _, hbr, hBr, hWr⟩ := HST.out.fresh
        have hQb : b ≠ Q := by have := HST.out.lo; omega
        have hWQ : W.heap.size ≤ (⟨Q, 0, none⟩ : Addr).block := hW1
        have HWD := Lib.hid (pword_any Q b vl (c :: rest) ((c :: rest).length + 1) wr.drew hQr hbr hQb hcc hff (HST.out.bytes hvl) (by omega) (by omega))
        obtain ⟨o, cap, rfl, g1, g2, g3⟩ := hvl
        rw [List.length_cons] at hcc g1 hlen hF
        clear g3
        cases hw : wordGo ((c :: rest).length + 1) (c :: rest) [] with
        | none =>
          have HE : Hid (R = none) := by unfold Hid; rw [← HG.out]; exact wordsGo_bad F c rest acc hbl hw
          have HE2 : Hid (LS = some (.inl (perrB ++ unbL))) := by unfold Hid; rw [HS.out, HE.out]
          rw [hw] at HWD
          clear HG hw HHD
          go_wp2
          have HFI := Lib.hid (fun (w4 : World) (v4 : Value) (hp4 : Put wr.drew ⟨Q, 0, none⟩ v4 w4) => (by rw [HE2.out]; exact ⟨rfl, HST.out.mod.far (Put.after (Below.refl _ _).drew hp4 hQr) hWQ⟩ : ReqPost W B b tb l LS (.panicked [{ v := faultV (perrB ++ unbL), recovered := false }]) w4))
          refine wp_region_any (by kernel_rfl) ?_
          change wpAny _ _ _ _ _ _ _ (World.drew _)
          refine wpAny_take (i := 0) (v := ?v0) rfl (by kernel_rfl) (by kernel_rfl) (by kernel_rfl) (fun _ _ _ h => h) (Or.inl ⟨by rfl, ?h0⟩) ?r0
          case h0 => (intro w; go_simp; try with_reducible rfl)
          refine wpAny_take (i := 1) (v := ?v1) rfl (by kernel_rfl) (by kernel_rfl) (by kernel_rfl) (fun _ _ _ h => h) (Or.inl ⟨by rfl, ?h1⟩) ?r1
          case h1 => (intro w; go_simp; try with_reducible rfl)
          refine wpAny_take (i := 2) (v := ?v2) rfl (by kernel_rfl) (by kernel_rfl) (by kernel_rfl) (fun _ _ _ h => h) (Or.inl ⟨by rfl, ?h2⟩) ?r2
          case h2 => (intro w; go_simp; try with_reducible rfl)
          refine wpAny_take (i := 3) (v := ?v3) rfl (by kernel_rfl) (by kernel_rfl) (by kernel_rfl) (fun _ _ _ h => h) (Or.inl ⟨by rfl, ?h3⟩) ?r3
          case h3 => (intro w; go_simp; try with_reducible rfl)
          refine wpAny_ready (rs := [4, 5]) (by kernel_rfl) (by simp) ?_
          refine AllReady.cons rfl (fun K hK => ?_) (AllReady.cons rfl (fun K hK => ?_) AllReady.nil)
          · go_simp
            refine hK _ _ ?_
            clear hK K
            refine wpAny_ready (rs := [5]) (by kernel_rfl) (by simp) ?_
            refine AllReady.cons rfl (fun K hK => ?_) AllReady.nil
            go_simp
            refine HWD.out.mono ?_
            rintro e w4 ⟨rfl, v4, hp4⟩
            exact ⟨rfl, HFI.out w4 v4 hp4⟩
          · go_simp
            refine HWD.out.mono ?_
            rintro e w4 ⟨rfl, v4, hp4⟩
            exact ⟨rfl, HFI.out w4 v4 hp4⟩
        | some x =>
          obtain ⟨t, r'⟩ := x
          have HE : Hid (wordsGo F r' (acc ++ [t]) = R) := by unfold Hid; rw [← HG.out]; exact (wordsGo_on F c rest t r' acc hbl hw).symm
          obtain ⟨j, j1, hrj, j3, _⟩ := wordGo_suffix _ _ _ _ _ hw
          have hj := j3 c rest rfl hbl
          have hrl : r'.length + j = rest.length + 1 := by rw [hrj, List.length_drop, List.length_cons] ; rw [List.length_cons] at j1; omega
          rw [hw] at HWD
          obtain ⟨F2, hF2, hF3⟩ := words_drop r' F (acc ++ [t]) (by omega)
          have HFW : Hid (wordsGo F2 (r'.dropWhile blankS) (acc ++ [t]) = R) := by unfold Hid; rw [← hF3]; exact HE.out
          have hdw : (r'.dropWhile blankS).length ≤ r'.length := (List.dropWhile_suffix blankS (l := r')).length_le
          have HHD2 : Hid (∀ c x, r'.dropWhile blankS = c :: x → blankS c = false) := fun c x e => by
            have := List.head?_dropWhile_not blankS r'
            rw [e] at this
            simpa using this
          clear HG hw HHD hrj j3 hF3 HE
          go_wp2
          refine wp_region_any (by kernel_rfl) ?_
          change wpAny _ _ _ _ _ _ _ (World.drew _)
          refine wpAny_take (i := 0) (v := ?v0s) rfl (by kernel_rfl) (by kernel_rfl) (by kernel_rfl) (fun _ _ _ h => h) (Or.inl ⟨by rfl, ?h0s⟩) ?r0s
          case h0s => (intro w; go_simp; try with_reducible rfl)
          refine wpAny_take (i := 1) (v := ?v1s) rfl (by kernel_rfl) (by kernel_rfl) (by kernel_rfl) (fun _ _ _ h => h) (Or.inl ⟨by rfl, ?h1s⟩) ?r1s
          case h1s => (intro w; go_simp; try with_reducible rfl)
          refine wpAny_take (i := 2) (v := ?v2s) rfl (by kernel_rfl) (by kernel_rfl) (by kernel_rfl) (fun _ _ _ h => h) (Or.inl ⟨by rfl, ?h2s⟩) ?r2s
          case h2s => (intro w; go_simp; try with_reducible rfl)
          refine wpAny_take (i := 3) (v := ?v3s) rfl (by kernel_rfl) (by kernel_rfl) (by kernel_rfl) (fun _ _ _ h => h) (Or.inl ⟨by rfl, ?h3s⟩) ?r3s
          case h3s => (intro w; go_simp; try with_reducible rfl)
          refine wpAny_ready (rs := [4, 5]) (by kernel_rfl) (by simp) ?_
          refine AllReady.cons rfl (fun K hK => ?_) (AllReady.cons rfl (fun K hK => ?_) AllReady.nil)
          · go_simp
            refine hK _ _ ?_
            clear hK K
            refine wpAny_ready (rs := [5]) (by kernel_rfl) (by simp) ?_
            refine AllReady.cons rfl (fun K hK => ?_) AllReady.nil
            go_simp
            refine HWD.out.mono ?_
            rintro e w4 ⟨u4, v4, rfl, hown4, hv4, hp4⟩
            obtain ⟨A4, c4, rfl⟩ := ownsRow_form hown4
            have hp4' := Put.after (Below.refl _ _).drew hp4 hQr
            have hst4 := HST.out.far hp4' hWQ htv hvs
            have hc4 := hst4.c1
            have hB4 := hst4.fresh.2.2.2.1
            refine hK _ _ ?_
            clear hK K
            refine wpAny_ready (rs := [6]) (by kernel_rfl) (by simp) ?_
            refine AllReady.cons rfl (fun K hK => ?_) AllReady.nil
            go_simp
            refine hK _ _ ?_
            clear hK K
            refine wpAny_ready (rs := [7]) (by kernel_rfl) (by simp) ?_
            refine AllReady.cons rfl (fun K hK => ?_) AllReady.nil
            refine step_append_lies _ (by rfl) _ _ _ (by rfl) (B + 1) 23 i0 (.slice none 0 0) 1 24 Tryd.underlying67 hi hy0 hy1 hy2 (by rfl) (by decide) tv acc.length vs (by rfl) (hst4.own.alloc _) ⟨w4.heap.size, 0, none⟩ 1 1 [.slice A4 t.length c4] (by rfl) (by rfl) (news_one w4 _ _) (one_cell _ _ _) (by decide) (by unfold maxLen; omega) (by omega) (by have := hst4.fresh.2.2.2.1; simp; omega) (w4.heap.size + 1) (by simp) ?_
            intro g5 cap5 w5 hown5 hgr5 hat5 hlt5
            have hal := hst4.below ((Below.refl _ w4).alloc (Nat.le_refl _) (.cells #[.slice A4 t.length c4] 23))
            obtain ⟨hc5, hf5, hB5⟩ := hal.grown hgr5
            refine hK _ _ ?_
            clear hK K
            refine wpAny_take (i := 8) (v := ?v8a) rfl (by kernel_rfl) (by kernel_rfl) (by kernel_rfl) (fun _ _ _ h => h) (Or.inl ⟨by rfl, ?h8a⟩) ?r8a
            case h8a => (intro w; go_simp; try with_reducible rfl)
            refine wpAny_take (i := 9) (v := ?v9a) rfl (by kernel_rfl) (by kernel_rfl) (by kernel_rfl) (fun _ _ _ h => h) (Or.inl ⟨by rfl, ?h9a⟩) ?r9a
            case h9a => (intro w; go_simp; try with_reducible rfl)
            refine wpAny_ready (rs := [10]) (by kernel_rfl) (by simp) ?_
            refine AllReady.cons rfl (fun K hK => ?_) AllReady.nil
            go_simp
            refine hK _ _ ?_
            clear hK K
            refine wpAny_done (by kernel_rfl) ?_ _
            have htx : TextV w4 B tv (.slice A4 t.length c4) t := text_own hown4 (by show B < wr.heap.size; exact hBr) (fun k hk => (own_lt HST.out.own hk).2)
            have htx2 := htx.step (w1 := w4.alloc (.cells #[.slice A4 t.length c4] 23)) (by simp) (fun k hk _ _ => Below.heap_alloc _ _ _ hk)
            have HM := hal.more htx2 hgr5 hown5 (by
              rcases hat5 with h | h
              · exact Or.inl h.symm
              · exact Or.inr ⟨g5, rfl, by simp; omega⟩)
            have hcq : w5.cell? ⟨Q, 0, none⟩ = some v4 := by
              have e1 := hp4'.cell hcc
              have e2 : (w4.alloc (.cells #[.slice A4 t.length c4] 23)).cell? ⟨Q, 0, none⟩ = some v4 := (World.cell?_alloc_lt _ _ _ (by show Q < w4.heap.size; have := hp4'.size; omega)).trans e1
              exact hgr5.cell e2 (Ne.symm htv)
            have hfq : w5.frozen? ⟨Q, 0, none⟩ = false := by
              have hb := hgr5.block Q (by simp; have := hp4'.size; omega) (fun e => htv e.symm)
              refine (World.frozen?_of_block (w := w4.alloc (.cells #[.slice A4 t.length c4] 23)) (a := ⟨Q, 0, none⟩) hb).trans ?_
              exact ((Below.refl w4.heap.size w4).alloc (Nat.le_refl _) _ |>.frozen (p := ⟨Q, 0, none⟩) (by show Q < w4.heap.size; have := hp4'.size; omega)).trans ((hp4'.frozen (q := ⟨Q, 0, none⟩) hQr).trans hff)
            have hQ5 : Q < w5.heap.size := by have := hp4'.size; have := hgr5.size; simp at this; omega
            have hvv : LeftV W b v4 r' := HST.out.back (show LeftV wr b v4 r' from hv4)
            have htv' : (Value.slice (some ⟨g5, 0, none⟩) (acc.length + 1) cap5).ownBlock ≠ some Q := by
              intro e
              simp only [Value.ownBlock, Option.some.injEq] at e
              rcases hat5 with h | h
              · exact htv (by rw [h, e])
              · have := hp4'.size; omega
            have hvs' : ∀ u ∈ vs ++ [.slice A4 t.length c4], u.ownBlock ≠ some Q := by
              intro u hu
              rcases List.mem_append.1 hu with hu | hu
              · exact hvs u hu
              · simp only [List.mem_singleton] at hu
                subst hu
                intro e
                have := own_lt hown4 e
                have : wr.heap.size ≤ Q := this.1
                omega
            obtain ⟨w6, hw6⟩ : ∃ w6, w5.setCell ⟨B, 1, none⟩ (.slice (some ⟨g5, 0, none⟩) (acc.length + 1) cap5) = w6 := ⟨_, rfl⟩
            have hz6 : w6.heap.size = w5.heap.size := by rw [← hw6]; simp [World.setCell]
            have hBQ : B ≠ Q := by have := HST.out.mod.lt; have : W.heap.size ≤ Q := hWQ; omega
            have hc6 : w6.cell? ⟨Q, 0, none⟩ = some v4 := by rw [← hw6]; exact (World.cell?_setCell_other _ _ _ _ (by intro e; injection e with e _ _; exact hBQ e)).trans hcq
            have hf6 : w6.frozen? ⟨Q, 0, none⟩ = false := by rw [← hw6]; exact (World.frozen?_setCell _ _ _ _).trans hfq
            rw [hw6] at HM ⊢
            have HPB := Lib.hid (ppass_any Q b v4 r' w6 (by omega) HM.fresh.2.2.1 hQb hc6 hf6 (HM.bytes hvv))
            have HMM := Lib.hid HM
            have HC6 := Lib.hid hc6
            have HF6 := Lib.hid hf6
            clear hw6 hc6 hf6 hfq hcq hc5 hf5 hal htx htx2 HM hst4 hc4 hp4' hp4 hv4 hown4 hown5 hgr5 hat5 hlt5 hB5 HWD hc1 hf1
            go_wp2_with fail
            refine HPB.out.mono ?_
            rintro e w7 ⟨v7, rfl, hv7, hp7⟩
            have HFAR := Lib.hid (HMM.out.far hp7 hWQ htv' hvs')
            have hc7 := hp7.cell HC6.out
            have hf7 := (hp7.frozen (q := ⟨Q, 0, none⟩) (by show Q < w6.heap.size; omega)).trans HF6.out
            have HV7 := Lib.hid (HMM.out.back hv7)
            go_wp2
            go_roundw
            case rel => exact ⟨r'.dropWhile blankS, acc ++ [t], v7, _, _, F2, hc7, hf7, by have := hp7.size; omega, HV7.out, by rw [List.length_append]; simp only [List.length_singleton]; omega, hF2, HFAR.out, htv', hvs', HHD2, HFW⟩
            case measure =>
              obtain ⟨o, cap, rfl, _⟩ := HV7.out
              rw [HLEN.out, lenAt_slice hc7, List.length_cons]; omega
          · go_simp
            refine HWD.out.mono ?_
            rintro e w4 ⟨u4, v4, rfl, hown4, hv4, hp4⟩
            obtain ⟨A4, c4, rfl⟩ := ownsRow_form hown4
            have hp4' := Put.after (Below.refl _ _).drew hp4 hQr
            have hst4 := HST.out.far hp4' hWQ htv hvs
            have hc4 := hst4.c1
            have hB4 := hst4.fresh.2.2.2.1
            refine hK _ _ ?_
            clear hK K
            refine wpAny_ready (rs := [4, 6]) (by kernel_rfl) (by simp) ?_
            refine AllReady.cons rfl (fun K hK => ?_) (AllReady.cons rfl (fun K hK => ?_) AllReady.nil)
            · go_simp
              refine hK _ _ ?_
              clear hK K
              refine wpAny_ready (rs := [6]) (by kernel_rfl) (by simp) ?_
              refine AllReady.cons rfl (fun K hK => ?_) AllReady.nil
              go_simp
              refine hK _ _ ?_
              clear hK K
              refine wpAny_ready (rs := [7]) (by kernel_rfl) (by simp) ?_
              refine AllReady.cons rfl (fun K hK => ?_) AllReady.nil
              refine step_append_lies _ (by rfl) _ _ _ (by rfl) (B + 1) 23 i0 (.slice none 0 0) 1 24 Tryd.underlying67 hi hy0 hy1 hy2 (by rfl) (by decide) tv acc.length vs (by rfl) (hst4.own.alloc _) ⟨w4.heap.size, 0, none⟩ 1 1 [.slice A4 t.length c4] (by rfl) (by rfl) (news_one w4 _ _) (one_cell _ _ _) (by decide) (by unfold maxLen; omega) (by omega) (by have := hst4.fresh.2.2.2.1; simp; omega) (w4.heap.size + 1) (by simp) ?_
              intro g5 cap5 w5 hown5 hgr5 hat5 hlt5
              have hal := hst4.below ((Below.refl _ w4).alloc (Nat.le_refl _) (.cells #[.slice A4 t.length c4] 23))
              obtain ⟨hc5, hf5, hB5⟩ := hal.grown hgr5
              refine hK _ _ ?_
              clear hK K
              refine wpAny_take (i := 8) (v := ?v8b) rfl (by kernel_rfl) (by kernel_rfl) (by kernel_rfl) (fun _ _ _ h => h) (Or.inl ⟨by rfl, ?h8b⟩) ?r8b
              case h8b => (intro w; go_simp; try with_reducible rfl)
              refine wpAny_take (i := 9) (v := ?v9b) rfl (by kernel_rfl) (by kernel_rfl) (by kernel_rfl) (fun _ _ _ h => h) (Or.inl ⟨by rfl, ?h9b⟩) ?r9b
              case h9b => (intro w; go_simp; try with_reducible rfl)
              refine wpAny_ready (rs := [10]) (by kernel_rfl) (by simp) ?_
              refine AllReady.cons rfl (fun K hK => ?_) AllReady.nil
              go_simp
              refine hK _ _ ?_
              clear hK K
              refine wpAny_done (by kernel_rfl) ?_ _
              have htx : TextV w4 B tv (.slice A4 t.length c4) t := text_own hown4 (by show B < wr.heap.size; exact hBr) (fun k hk => (own_lt HST.out.own hk).2)
              have htx2 := htx.step (w1 := w4.alloc (.cells #[.slice A4 t.length c4] 23)) (by simp) (fun k hk _ _ => Below.heap_alloc _ _ _ hk)
              have HM := hal.more htx2 hgr5 hown5 (by
                rcases hat5 with h | h
                · exact Or.inl h.symm
                · exact Or.inr ⟨g5, rfl, by simp; omega⟩)
              have hcq : w5.cell? ⟨Q, 0, none⟩ = some v4 := by
                have e1 := hp4'.cell hcc
                have e2 : (w4.alloc (.cells #[.slice A4 t.length c4] 23)).cell? ⟨Q, 0, none⟩ = some v4 := (World.cell?_alloc_lt _ _ _ (by show Q < w4.heap.size; have := hp4'.size; omega)).trans e1
                exact hgr5.cell e2 (Ne.symm htv)
              have hfq : w5.frozen? ⟨Q, 0, none⟩ = false := by
                have hb := hgr5.block Q (by simp; have := hp4'.size; omega) (fun e => htv e.symm)
                refine (World.frozen?_of_block (w := w4.alloc (.cells #[.slice A4 t.length c4] 23)) (a := ⟨Q, 0, none⟩) hb).trans ?_
                exact ((Below.refl w4.heap.size w4).alloc (Nat.le_refl _) _ |>.frozen (p := ⟨Q, 0, none⟩) (by show Q < w4.heap.size; have := hp4'.size; omega)).trans ((hp4'.frozen (q := ⟨Q, 0, none⟩) hQr).trans hff)
              have hQ5 : Q < w5.heap.size := by have := hp4'.size; have := hgr5.size; simp at this; omega
              have hvv : LeftV W b v4 r' := HST.out.back (show LeftV wr b v4 r' from hv4)
              have htv' : (Value.slice (some ⟨g5, 0, none⟩) (acc.length + 1) cap5).ownBlock ≠ some Q := by
                intro e
                simp only [Value.ownBlock, Option.some.injEq] at e
                rcases hat5 with h | h
                · exact htv (by rw [h, e])
                · have := hp4'.size; omega
              have hvs' : ∀ u ∈ vs ++ [.slice A4 t.length c4], u.ownBlock ≠ some Q := by
                intro u hu
                rcases List.mem_append.1 hu with hu | hu
                · exact hvs u hu
                · simp only [List.mem_singleton] at hu
                  subst hu
                  intro e
                  have := own_lt hown4 e
                  have : wr.heap.size ≤ Q := this.1
                  omega
              obtain ⟨w6, hw6⟩ : ∃ w6, w5.setCell ⟨B, 1, none⟩ (.slice (some ⟨g5, 0, none⟩) (acc.length + 1) cap5) = w6 := ⟨_, rfl⟩
              have hz6 : w6.heap.size = w5.heap.size := by rw [← hw6]; simp [World.setCell]
              have hBQ : B ≠ Q := by have := HST.out.mod.lt; have : W.heap.size ≤ Q := hWQ; omega
              have hc6 : w6.cell? ⟨Q, 0, none⟩ = some v4 := by rw [← hw6]; exact (World.cell?_setCell_other _ _ _ _ (by intro e; injection e with e _ _; exact hBQ e)).trans hcq
              have hf6 : w6.frozen? ⟨Q, 0, none⟩ = false := by rw [← hw6]; exact (World.frozen?_setCell _ _ _ _).trans hfq
              rw [hw6] at HM ⊢
              have HPB := Lib.hid (ppass_any Q b v4 r' w6 (by omega) HM.fresh.2.2.1 hQb hc6 hf6 (HM.bytes hvv))
              have HMM := Lib.hid HM
              have HC6 := Lib.hid hc6
              have HF6 := Lib.hid hf6
              clear hw6 hc6 hf6 hfq hcq hc5 hf5 hal htx htx2 HM hst4 hc4 hp4' hp4 hv4 hown4 hown5 hgr5 hat5 hlt5 hB5 HWD hc1 hf1
              go_wp2_with fail
              refine HPB.out.mono ?_
              rintro e w7 ⟨v7, rfl, hv7, hp7⟩
              have HFAR := Lib.hid (HMM.out.far hp7 hWQ htv' hvs')
              have hc7 := hp7.cell HC6.out
              have hf7 := (hp7.frozen (q := ⟨Q, 0, none⟩) (by show Q < w6.heap.size; omega)).trans HF6.out
              have HV7 := Lib.hid (HMM.out.back hv7)
              go_wp2
              go_roundw
              case rel => exact ⟨r'.dropWhile blankS, acc ++ [t], v7, _, _, F2, hc7, hf7, by have := hp7.size; omega, HV7.out, by rw [List.length_append]; simp only [List.length_singleton]; omega, hF2, HFAR.out, htv', hvs', HHD2, HFW⟩
              case measure =>
                obtain ⟨o, cap, rfl, _⟩ := HV7.out
                rw [HLEN.out, lenAt_slice hc7, List.length_cons]; omega
            · go_simp
              refine hK _ _ ?_
              clear hK K
              refine wpAny_ready (rs := [4]) (by kernel_rfl) (by simp) ?_
              refine AllReady.cons rfl (fun K hK => ?_) AllReady.nil
              go_simp
              refine hK _ _ ?_
              clear hK K
              refine wpAny_ready (rs := [7]) (by kernel_rfl) (by simp) ?_
              refine AllReady.cons rfl (fun K hK => ?_) AllReady.nil
              refine step_append_lies _ (by rfl) _ _ _ (by rfl) (B + 1) 23 i0 (.slice none 0 0) 1 24 Tryd.underlying67 hi hy0 hy1 hy2 (by rfl) (by decide) tv acc.length vs (by rfl) (hst4.own.alloc _) ⟨w4.heap.size, 0, none⟩ 1 1 [.slice A4 t.length c4] (by rfl) (by rfl) (news_one w4 _ _) (one_cell _ _ _) (by decide) (by unfold maxLen; omega) (by omega) (by have := hst4.fresh.2.2.2.1; simp; omega) (w4.heap.size + 1) (by simp) ?_
              intro g5 cap5 w5 hown5 hgr5 hat5 hlt5
              have hal := hst4.below ((Below.refl _ w4).alloc (Nat.le_refl _) (.cells #[.slice A4 t.length c4] 23))
              obtain ⟨hc5, hf5, hB5⟩ := hal.grown hgr5
              refine hK _ _ ?_
              clear hK K
              refine wpAny_take (i := 8) (v := ?v8c) rfl (by kernel_rfl) (by kernel_rfl) (by kernel_rfl) (fun _ _ _ h => h) (Or.inl ⟨by rfl, ?h8c⟩) ?r8c
              case h8c => (intro w; go_simp; try with_reducible rfl)
              refine wpAny_take (i := 9) (v := ?v9c) rfl (by kernel_rfl) (by kernel_rfl) (by kernel_rfl) (fun _ _ _ h => h) (Or.inl ⟨by rfl, ?h9c⟩) ?r9c
              case h9c => (intro w; go_simp; try with_reducible rfl)
              refine wpAny_ready (rs := [10]) (by kernel_rfl) (by simp) ?_
              refine AllReady.cons rfl (fun K hK => ?_) AllReady.nil
              go_simp
              refine hK _ _ ?_
              clear hK K
              refine wpAny_done (by kernel_rfl) ?_ _
              have htx : TextV w4 B tv (.slice A4 t.length c4) t := text_own hown4 (by show B < wr.heap.size; exact hBr) (fun k hk => (own_lt HST.out.own hk).2)
              have htx2 := htx.step (w1 := w4.alloc (.cells #[.slice A4 t.length c4] 23)) (by simp) (fun k hk _ _ => Below.heap_alloc _ _ _ hk)
              have HM := hal.more htx2 hgr5 hown5 (by
                rcases hat5 with h | h
                · exact Or.inl h.symm
                · exact Or.inr ⟨g5, rfl, by simp; omega⟩)
              have hcq : w5.cell? ⟨Q, 0, none⟩ = some v4 := by
                have e1 := hp4'.cell hcc
                have e2 : (w4.alloc (.cells #[.slice A4 t.length c4] 23)).cell? ⟨Q, 0, none⟩ = some v4 := (World.cell?_alloc_lt _ _ _ (by show Q < w4.heap.size; have := hp4'.size; omega)).trans e1
                exact hgr5.cell e2 (Ne.symm htv)
              have hfq : w5.frozen? ⟨Q, 0, none⟩ = false := by
                have hb := hgr5.block Q (by simp; have := hp4'.size; omega) (fun e => htv e.symm)
                refine (World.frozen?_of_block (w := w4.alloc (.cells #[.slice A4 t.length c4] 23)) (a := ⟨Q, 0, none⟩) hb).trans ?_
                exact ((Below.refl w4.heap.size w4).alloc (Nat.le_refl _) _ |>.frozen (p := ⟨Q, 0, none⟩) (by show Q < w4.heap.size; have := hp4'.size; omega)).trans ((hp4'.frozen (q := ⟨Q, 0, none⟩) hQr).trans hff)
              have hQ5 : Q < w5.heap.size := by have := hp4'.size; have := hgr5.size; simp at this; omega
              have hvv : LeftV W b v4 r' := HST.out.back (show LeftV wr b v4 r' from hv4)
              have htv' : (Value.slice (some ⟨g5, 0, none⟩) (acc.length + 1) cap5).ownBlock ≠ some Q := by
                intro e
                simp only [Value.ownBlock, Option.some.injEq] at e
                rcases hat5 with h | h
                · exact htv (by rw [h, e])
                · have := hp4'.size; omega
              have hvs' : ∀ u ∈ vs ++ [.slice A4 t.length c4], u.ownBlock ≠ some Q := by
                intro u hu
                rcases List.mem_append.1 hu with hu | hu
                · exact hvs u hu
                · simp only [List.mem_singleton] at hu
                  subst hu
                  intro e
                  have := own_lt hown4 e
                  have : wr.heap.size ≤ Q := this.1
                  omega
              obtain ⟨w6, hw6⟩ : ∃ w6, w5.setCell ⟨B, 1, none⟩ (.slice (some ⟨g5, 0, none⟩) (acc.length + 1) cap5) = w6 := ⟨_, rfl⟩
              have hz6 : w6.heap.size = w5.heap.size := by rw [← hw6]; simp [World.setCell]
              have hBQ : B ≠ Q := by have := HST.out.mod.lt; have : W.heap.size ≤ Q := hWQ; omega
              have hc6 : w6.cell? ⟨Q, 0, none⟩ = some v4 := by rw [← hw6]; exact (World.cell?_setCell_other _ _ _ _ (by intro e; injection e with e _ _; exact hBQ e)).trans hcq
              have hf6 : w6.frozen? ⟨Q, 0, none⟩ = false := by rw [← hw6]; exact (World.frozen?_setCell _ _ _ _).trans hfq
              rw [hw6] at HM ⊢
              have HPB := Lib.hid (ppass_any Q b v4 r' w6 (by omega) HM.fresh.2.2.1 hQb hc6 hf6 (HM.bytes hvv))
              have HMM := Lib.hid HM
              have HC6 := Lib.hid hc6
              have HF6 := Lib.hid hf6
              clear hw6 hc6 hf6 hfq hcq hc5 hf5 hal htx htx2 HM hst4 hc4 hp4' hp4 hv4 hown4 hown5 hgr5 hat5 hlt5 hB5 HWD hc1 hf1
              go_wp2_with fail
              refine HPB.out.mono ?_
              rintro e w7 ⟨v7, rfl, hv7, hp7⟩
              have HFAR := Lib.hid (HMM.out.far hp7 hWQ htv' hvs')
              have hc7 := hp7.cell HC6.out
              have hf7 := (hp7.frozen (q := ⟨Q, 0, none⟩) (by show Q < w6.heap.size; omega)).trans HF6.out
              have HV7 := Lib.hid (HMM.out.back hv7)
              go_wp2
              go_roundw
              case rel => exact ⟨r'.dropWhile blankS, acc ++ [t], v7, _, _, F2, hc7, hf7, by have := hp7.size; omega, HV7.out, by rw [List.length_append]; simp only [List.length_singleton]; omega, hF2, HFAR.out, htv', hvs', HHD2, HFW⟩
              case measure =>
                obtain ⟨o, cap, rfl, _⟩ := HV7.out
                rw [HLEN.out, lenAt_slice hc7, List.length_cons]; omega

end Go.Proofs.YtkaododohnncnaaDoor
