/-
  Bytes that lie anywhere, or nowhere: a slice that reads as them, nil among others, as the source of an append; package resp's Feed at such a slice. Conditions: as typed.
-/
import Derived.Test.YtkaododohnncnaaDoorRpI
import Derived.Laws.AppendOwnNone
namespace Go.Proofs.YtkaododohnncnaaDoor
open Go.RowKit

theorem addr_block (a : Addr) (n : Nat) : (a.add n).block = a.block := by unfold Addr.add; split <;> rfl

/-- A slice that reads as some bytes: nil, or any other. -/
def SrcAt (w : World) (X : Value) (l : List UInt8) : Prop :=
  ∃ A c, X = .slice A l.length c ∧ l.length ≤ c ∧ c ≤ 9223372036854775807 ∧ (A = none → c = 0) ∧ ∀ ad, A = some ad → ∀ j, j < l.length → w.cell? (ad.add j) = some (.int .u8 ((l.getD j 0).toNat : Int))

theorem SrcAt.form {w : World} {X : Value} {l : List UInt8} (h : SrcAt w X l) : ∃ A c, X = .slice A l.length c := by
  obtain ⟨A, c, h, _⟩ := h
  exact ⟨A, c, h⟩
theorem SrcAt.nil (w : World) : SrcAt w (.slice none 0 0) [] := ⟨none, 0, rfl, Nat.le_refl _, by omega, fun _ => rfl, fun _ h => by cases h⟩
theorem SrcAt.at {w : World} {b o c : Nat} {l : List UInt8} (h : BytesAt w b o l) (hl : l.length ≤ c) (hc : c ≤ 9223372036854775807) : SrcAt w (.slice (some ⟨b, o, none⟩) l.length c) l :=
  ⟨_, _, rfl, hl, hc, (fun h => by cases h), fun ad e j hj => by cases e; rw [Go.WideShapes.add_plain]; exact h j hj⟩
theorem SrcAt.own {w : World} {base : Nat} {X : Value} {l : List UInt8} (h : w.ownsRow base 5 1 X l.length (Lib.byteCells l)) : SrcAt w X l := by
  rcases h.2 with ⟨rfl, h2⟩ | ⟨g, cap', cur, rfl, h2, h3, h4, h5, _⟩
  · obtain rfl : l = [] := List.length_eq_zero_iff.1 h2
    exact SrcAt.nil w
  · exact SrcAt.at (own_bytes h) h4 (by unfold maxLen at h5; omega)
theorem SrcAt.keep {w w' : World} {X : Value} {l : List UInt8} (h : SrcAt w X l) (hk : ∀ k, X.ownBlock = some k → k < w.heap.size → w'.heap[k]? = w.heap[k]?) : SrcAt w' X l := by
  obtain ⟨A, c, rfl, h1, h2, h3, h4⟩ := h
  refine ⟨A, c, rfl, h1, h2, h3, fun ad e j hj => ?_⟩
  subst e
  have hc := h4 ad rfl j hj
  have hlt : ad.block < w.heap.size := by rw [← addr_block ad j]; exact World.block_lt_of_cell? w (ad.add j) hc
  exact (World.cell?_of_block (w := w) (a := ad.add j) (by rw [addr_block]; exact hk ad.block rfl hlt)).trans hc
theorem SrcAt.below {w w' : World} {X : Value} {l : List UInt8} (h : SrcAt w X l) (hb : Below w.heap.size w w') : SrcAt w' X l := h.keep fun k _ hk => hb.block k hk

/-- More bytes behind a row of the call's own. -/
theorem wpList_append_src {w : World} {ops : Array Oper} {rest : List Oper} {o : Oper} {a : Act} {Q : Exit → Act → World → Prop} (hgd : o.guard = none) (s x : Operand)
    (ho : o.op = .call { callee := .builtin .append, args := #[s, x], argTypes := #[23, 23] })
    (base : Nat) (v : Value) (xs : List UInt8) (hs : a.eval s = v) (hown : w.ownsRow base 5 1 v xs.length (Lib.byteCells xs))
    (X : Value) (l : List UInt8) (hx : a.eval x = X) (hX : SrcAt w X l)
    (h63 : xs.length + l.length ≤ maxLen) (hbytes : (xs.length + l.length) * 1 ≤ 140737488355328) (hbase : base ≤ w.heap.size)
    (h : ∀ v' w', w'.ownsRow base 5 1 v' (xs ++ l).length (Lib.byteCells (xs ++ l)) → w.grownBy w' v.ownBlock → (v' = .slice none 0 0 ↔ v = .slice none 0 0 ∧ l.length = 0) → (v'.ownBlock = v.ownBlock ∨ v'.ownBlock = some w.heap.size) → wpList Tryd.prog ops Q rest (a.put o.dst v') w') :
    wpList Tryd.prog ops Q (o :: rest) a w := by
  obtain ⟨i0, hi, hy0, hy1, hy2⟩ := info_parts info_u8
  obtain ⟨A, c, rfl, h1, h2, h3, h4⟩ := hX
  rcases A with _ | ad
  · obtain rfl : c = 0 := h3 rfl
    obtain rfl : l = [] := List.length_eq_zero_iff.1 (by omega)
    refine wpList_append_own_none hgd s x 23 ho base 5 i0 1 Tryd.underlying23 hi v _ _ hs hown hx ?_
    refine h v w ?_ (World.grownBy.refl _ _) ?_ (Or.inl rfl)
    · rw [List.append_nil]; exact hown
    · simp
  · refine wpList_append_own_at w hgd s x 23 ho base 5 i0 (.int .u8 0) 1 1 Tryd.underlying23 hi hy0 hy1 hy2 rfl (by decide) v _ _ hs hown ad l.length c (Lib.byteCells l) hx ?c1 ?c2 ?c3 h63 hbytes hbase ?_
    case c1 => simp [Lib.byteCells]
    case c2 =>
      intro j u hj
      obtain ⟨h1, rfl⟩ := byte_get hj
      exact h4 ad rfl j h1
    case c3 => exact one_bytes l
    intro v' w' ho' hg' hn' ha'
    refine h v' w' ?_ hg' hn' ha'
    rw [List.length_append, byteCells_two]
    exact ho'

set_option maxRecDepth 100000 in
set_option maxHeartbeats 4000000 in
theorem pfeed_src (G : Nat) (kv X : Value) (kept : List UInt8) (x : List UInt8) (w : World) (h : RdS w G kv kept false) (hx : SrcAt w X x) (hbig : kept.length + x.length ≤ 1099511627776) :
    Calls Tryd.prog 30 #[.pointer (some ⟨G, 0, none⟩), X] w (FeedPost w G kv (kept ++ x)) := by
  obtain ⟨i0, hi, hy0, hy1, hy2⟩ := info_parts info_u8
  have HM := Lib.hid (pisMade_yes G w h.c0)
  have H0 := Lib.hid h
  obtain ⟨AX, cX, rfl⟩ := hx.form
  have HX := Lib.hid hx
  have hc1 := h.c1
  have hc2 := h.c2
  have hf1 := h.f1
  have hG := h.lt
  have hown := h.own
  obtain ⟨A, ck, rfl⟩ := ownsRow_form h.own
  clear h hx
  go_enter Tryd.func30, Tryd.ntmps30
  go_wp2_with fail
  refine HM.out.mono ?_
  rintro e w' ⟨rfl, rfl⟩
  go_wp2_with (at_builtin; refine wpList_append_src rfl _ _ rfl (G + 1) _ _ rfl hown _ _ rfl HX.out ?c4 ?c5 ?c6 ?_)
  case c4 => unfold maxLen; omega
  case c5 => omega
  case c6 => omega
  intro kv1 w1 hown1 hgr1 _ hat1
  try rw [← List.length_append] at hown1
  obtain ⟨A1, ck1, rfl⟩ := ownsRow_form hown1
  have hne : (Value.slice A kept.length ck).ownBlock ≠ some G := H0.out.mark0
  have hbG := hgr1.block G hG (fun e => hne e.symm)
  have d1 := (World.cell?_of_block (a := ⟨G, 1, none⟩) hbG).trans H0.out.c1
  have d2 := (World.cell?_of_block (a := ⟨G, 2, none⟩) hbG).trans H0.out.c2
  have d0 := (World.cell?_of_block (a := ⟨G, 0, none⟩) hbG).trans H0.out.c0
  have e1 := (World.frozen?_of_block (a := ⟨G, 1, none⟩) hbG).trans H0.out.f1
  have e2 := (World.frozen?_of_block (a := ⟨G, 2, none⟩) hbG).trans H0.out.f2
  have hz1 := hgr1.size
  have hG1 : G < w1.heap.size := by omega
  obtain ⟨y, hy⟩ : ∃ y, kept ++ x = y := ⟨_, rfl⟩
  rw [hy] at hown1 hat1 ⊢
  have hyl : kept.length + x.length = y.length := by rw [← hy, List.length_append]
  have hylen : y.length ≤ 1099511627776 := by omega
  obtain ⟨w2, hw2⟩ : ∃ w2, w1.setCell ⟨G, 1, none⟩ (.slice A1 y.length ck1) = w2 := ⟨_, rfl⟩
  have hk2 : Put w1 ⟨G, 1, none⟩ (.slice A1 y.length ck1) w2 := by rw [← hw2]; exact Put.set w1 _ hG1
  have hown2 : w2.ownsRow (G + 1) 5 1 (.slice A1 y.length ck1) y.length (Lib.byteCells y) := by rw [← hw2]; exact ownsRow_set hown1 G (Nat.lt_succ_self G) 1 _
  have hz2 := hk2.size
  have hkb : ∀ k, (Value.slice A1 y.length ck1).ownBlock = some k → (Value.slice A kept.length ck).ownBlock = some k ∨ w.heap.size ≤ k := fun k hk => by
    rcases hat1 with h | h
    · exact Or.inl (by rw [← h]; exact hk)
    · rw [h] at hk; injection hk with hk; exact Or.inr (by omega)
  have hm1 : Mod w G (Value.slice A kept.length ck).ownBlock w1 := (Mod.refl hG hne).grow hgr1 (fun k hk => ⟨fun e => hne (by rw [hk, e]), Or.inl hk⟩)
  have hm2 : Mod w G (Value.slice A kept.length ck).ownBlock w2 := by rw [← hw2]; exact hm1.set
  have HSP := Lib.hid (psplit_own ck1 A1 y (G + 1) w2 hown2 hylen)
  have g0 := (hk2.old (q := ⟨G, 0, none⟩) (by intro e; injection e with _ e _; cases e) hG1).trans d0
  have g1 := hk2.cell d1
  have g2 := (hk2.old (q := ⟨G, 2, none⟩) (by intro e; injection e with _ e _; cases e) hG1).trans d2
  have q1 := (hk2.frozen (q := ⟨G, 1, none⟩) hG1).trans e1
  have q2 := (hk2.frozen (q := ⟨G, 2, none⟩) hG1).trans e2
  have HM2 := Lib.hid hm2
  have HO2 := Lib.hid hown2
  clear hm1 hm2 hown1 hown2 hgr1 hat1 hk2 hbG hown HX
  go_wp2_with fail
  refine HSP.out.mono ?_
  clear hw2 HSP
  rintro e w3 ⟨hb3, vl, rfl, hreq⟩
  have hG2 : G < w2.heap.size := by omega
  have hz3 := hb3.size
  have t0 := (hb3.cell (p := ⟨G, 0, none⟩) hG2).trans g0
  have t1 := (hb3.cell (p := ⟨G, 1, none⟩) hG2).trans g1
  have t2 := (hb3.cell (p := ⟨G, 2, none⟩) hG2).trans g2
  have r1 := (hb3.frozen (p := ⟨G, 1, none⟩) hG2).trans q1
  have r2 := (hb3.frozen (p := ⟨G, 2, none⟩) hG2).trans q2
  have HM3 := Lib.hid (HM2.out.below hb3)
  have HO3 := Lib.hid (ownsRow_below HO2.out hb3)
  have HRQ := Lib.hid (hreq.base (base' := w.heap.size) (by omega))
  have hG3 : G < w3.heap.size := by omega
  have hSl := split_le y
  obtain ⟨S, hS⟩ : ∃ S, splitS y = S := ⟨_, rfl⟩
  obtain ⟨acc, n, F⟩ := S
  have HS := Lib.hid hS
  rw [hS] at hreq hSl HRQ ⊢
  dsimp only at hSl HRQ ⊢
  clear hreq hb3 d0 d1 d2 e1 e2 g0 g1 g2 q1 q2 hS hc1 hc2 hf1
  have HRE : Hid (restS y = if F = [] then y.drop n else []) := by unfold Hid restS; rw [HS.out]
  rcases F with _ | ⟨f0, F⟩
  · rw [if_pos rfl] at HRE
    rcases Nat.eq_zero_or_pos n with hn | hn
    · subst hn
      go_wp2
      go_ret3
      unfold FeedPost
      rw [hy, HS.out]
      refine ⟨HM3.out, ⟨_, rfl, HRQ.out⟩, _, ⟨hG3, t0, t1, t2, r1, r2, ?_⟩, hkb⟩
      rw [HRE.out, List.drop_zero]
      exact HO3.out
    · have hcl : ∃ g, A1 = some ⟨g, 0, none⟩ ∧ y.length ≤ ck1 ∧ ck1 ≤ maxLen ∧ g < w3.heap.size := by
        rcases HO3.out.2 with ⟨h1, h2⟩ | ⟨g, cap', cur, h1, h2, h3, h4, h5, _⟩
        · omega
        · simp only [Value.slice.injEq, true_and] at h1
          obtain ⟨rfl, rfl⟩ := h1
          exact ⟨g, rfl, h4, h5, (Array.getElem?_eq_some_iff.1 h3).1⟩
      obtain ⟨g, rfl, k1, k2, k3⟩ := hcl
      unfold maxLen at k2
      have hby := own_bytes HO3.out
      have hdl : (y.drop n).length = y.length - n := List.length_drop
      have fin : ∀ (u : Value) (w4 : World), w4.ownsRow w3.heap.size 5 1 u (y.drop n).length (Lib.byteCells (y.drop n)) → Below w3.heap.size w3 w4 →
          (Mod w G (Value.slice A kept.length ck).ownBlock (w4.setCell ⟨G, 1, none⟩ u) ∧ OwnsReqs (w4.setCell ⟨G, 1, none⟩ u) w.heap.size vl acc ∧ ∃ kv', RdS (w4.setCell ⟨G, 1, none⟩ u) G kv' (restS y) (decide (([] : List UInt8) ≠ [])) ∧ ∀ k, kv'.ownBlock = some k → (Value.slice A kept.length ck).ownBlock = some k ∨ w.heap.size ≤ k) := by
        intro u w4 hu hb4
        have hG4 : G < w4.heap.size := by have := hb4.size; omega
        have hk := Put.set w4 (p := ⟨G, 1, none⟩) u hG4
        have s0 := (hb4.cell (p := ⟨G, 0, none⟩) hG3).trans t0
        have s1 := (hb4.cell (p := ⟨G, 1, none⟩) hG3).trans t1
        have s2 := (hb4.cell (p := ⟨G, 2, none⟩) hG3).trans t2
        have o1 := (hb4.frozen (p := ⟨G, 1, none⟩) hG3).trans r1
        have o2 := (hb4.frozen (p := ⟨G, 2, none⟩) hG3).trans r2
        refine ⟨(HM3.out.below hb4).set, (HRQ.out.below hb4).grown hk.grown (by show G < w.heap.size; exact hG), u, ⟨by have := hk.size; omega, (hk.old (q := ⟨G, 0, none⟩) (by intro e; injection e with _ e _; cases e) hG4).trans s0, hk.cell s1, (hk.old (q := ⟨G, 2, none⟩) (by intro e; injection e with _ e _; cases e) hG4).trans s2, (hk.frozen (q := ⟨G, 1, none⟩) hG4).trans o1, (hk.frozen (q := ⟨G, 2, none⟩) hG4).trans o2, ?_⟩, fun k hk => Or.inr (by have := (own_lt hu hk).1; omega)⟩
        rw [HRE.out]
        exact ownsRow_base (ownsRow_set hu G (by omega) 1 u) (by omega)
      have HF := Lib.hid fin
      have post := fun (u : Value) (w4 : World) (hu : w4.ownsRow w3.heap.size 5 1 u (y.drop n).length (Lib.byteCells (y.drop n))) (hb4 : Below w3.heap.size w3 w4) => (⟨(hb4.cell (p := ⟨G, 1, none⟩) hG3).trans t1, (hb4.frozen (p := ⟨G, 1, none⟩) hG3).trans r1, ownsRow_form hu⟩ : w4.cell? ⟨G, 1, none⟩ = some (.slice (some ⟨g, 0, none⟩) y.length ck1) ∧ w4.frozen? ⟨G, 1, none⟩ = false ∧ ∃ A c, u = .slice A (y.drop n).length c)
      have HPO := Lib.hid post
      clear fin post
      rcases Nat.lt_or_ge n ck1 with hnc | hnc
      · have HCL := Lib.hid (pclone_any g n (ck1 - n) (y.drop n) w3 k3 (by omega) (by simpa using hby.cut n))
        rw [hdl] at HCL
        go_wp2_with fail
        refine HCL.out.mono ?_
        rintro e w4 ⟨u, rfl, hu, hb4⟩
        rw [← hdl] at hu
        have HFX := Lib.hid (HF.out u w4 hu hb4)
        obtain ⟨u1, u2, A4, c4, rfl⟩ := HPO.out u w4 hu hb4
        rw [hdl] at HFX ⊢
        clear hu hb4 HF HPO HCL
        go_wp2
        go_ret3
        unfold FeedPost
        rw [hy, HS.out]
        obtain ⟨z1, z2, z3⟩ := HFX.out
        exact ⟨z1, ⟨_, rfl, z2⟩, z3⟩
      · obtain rfl : ck1 = n := by omega
        have HCL := Lib.hid (pclone_any g 0 0 (y.drop ck1) w3 k3 (by omega) (by rw [List.drop_eq_nil_of_le (by omega)]; exact bytes_nil _ _ _))
        rw [hdl, show y.length - ck1 = 0 from by omega] at HCL
        have hyn : y.length = ck1 := by omega
        go_wp2_with fail
        refine HCL.out.mono ?_
        rintro e w4 ⟨u, rfl, hu, hb4⟩
        have hu2 : w4.ownsRow w3.heap.size 5 1 u (y.drop ck1).length (Lib.byteCells (y.drop ck1)) := by rw [hdl, show y.length - ck1 = 0 from by omega]; exact hu
        have HFX := Lib.hid (HF.out u w4 hu2 hb4)
        obtain ⟨u1, u2, A4, c4, rfl⟩ := HPO.out u w4 hu2 hb4
        rw [hdl, show y.length - ck1 = 0 from by omega] at HFX ⊢
        clear hu hu2 hb4 HF HPO HCL
        go_wp2
        go_ret3
        unfold FeedPost
        rw [hy, HS.out]
        obtain ⟨z1, z2, z3⟩ := HFX.out
        exact ⟨z1, ⟨_, rfl, z2⟩, z3⟩
  · rw [if_neg (by simp)] at HRE
    obtain ⟨T, hT⟩ : ∃ T : ByteArray, ⟨(f0 :: F).toArray⟩ = T := ⟨_, rfl⟩
    have hTs : 0 < T.size := by rw [← hT]; show 0 < (f0 :: F).toArray.size; simp
    obtain ⟨j1, j2, j3, _⟩ := toList_cons T hTs
    have hk1 := Put.set w3 (p := ⟨G, 1, none⟩) (.slice none 0 0) hG3
    have hG4 : G < (w3.setCell ⟨G, 1, none⟩ (.slice none 0 0)).heap.size := by have := hk1.size; omega
    have hk2 := Put.set (w3.setCell ⟨G, 1, none⟩ (.slice none 0 0)) (p := ⟨G, 2, none⟩) (.bool true) hG4
    have fin : Mod w G (Value.slice A kept.length ck).ownBlock ((w3.setCell ⟨G, 1, none⟩ (.slice none 0 0)).setCell ⟨G, 2, none⟩ (.bool true)) ∧ OwnsReqs ((w3.setCell ⟨G, 1, none⟩ (.slice none 0 0)).setCell ⟨G, 2, none⟩ (.bool true)) w.heap.size vl acc ∧ ∃ kv', RdS ((w3.setCell ⟨G, 1, none⟩ (.slice none 0 0)).setCell ⟨G, 2, none⟩ (.bool true)) G kv' (restS y) (decide ((f0 :: F) ≠ [])) ∧ ∀ k, kv'.ownBlock = some k → (Value.slice A kept.length ck).ownBlock = some k ∨ w.heap.size ≤ k := by
      refine ⟨HM3.out.set.set, (HRQ.out.grown hk1.grown (by show G < w.heap.size; exact hG)).grown hk2.grown (by show G < w.heap.size; exact hG), .slice none 0 0, ⟨by have := hk2.size; omega, ?_, ?_, ?_, ?_, ?_, ?_⟩, fun k hk => by cases hk⟩
      · exact (hk2.old (q := ⟨G, 0, none⟩) (by intro e; injection e with _ e _; cases e) hG4).trans ((hk1.old (q := ⟨G, 0, none⟩) (by intro e; injection e with _ e _; cases e) hG3).trans t0)
      · exact (hk2.old (q := ⟨G, 1, none⟩) (by intro e; injection e with _ e _; cases e) hG4).trans (hk1.cell t1)
      · have := hk2.cell ((hk1.old (q := ⟨G, 2, none⟩) (by intro e; injection e with _ e _; cases e) hG3).trans t2)
        simpa using this
      · exact (hk2.frozen (q := ⟨G, 1, none⟩) hG4).trans ((hk1.frozen (q := ⟨G, 1, none⟩) hG3).trans r1)
      · exact (hk2.frozen (q := ⟨G, 2, none⟩) hG4).trans ((hk1.frozen (q := ⟨G, 2, none⟩) hG3).trans r2)
      · rw [HRE.out]
        exact ⟨rfl, .inl ⟨rfl, rfl⟩⟩
    have HFX := Lib.hid fin
    have HT := Lib.hid hT
    rw [hT]
    clear hk1 hk2 fin hT
    go_wp2
    go_ret3
    unfold FeedPost
    rw [hy, HS.out]
    obtain ⟨z1, z2, z3⟩ := HFX.out
    exact ⟨z1, ⟨_, by rw [HT.out]; rfl, z2⟩, z3⟩

end Go.Proofs.YtkaododohnncnaaDoor
