/-
  MembersAlgebra walked. Conditions: the arguments lie in memory.
-/
import Derived.Test.YtkobhlhkkpnmkaaMbV
namespace Go.Proofs.Ytkobhlhkkpnmkaa
open Go.RowKit

set_option maxRecDepth 100000 in
set_option maxHeartbeats 32000000 in
theorem algebra_any {A B C : Option Addr} {n m l cp cq cr : Nat} {L K H : List Tx} (w : World) (h1 : TxAt w A n cp L) (h2 : TxAt w B m cq K) (h3 : TxAt w C l cr H) :
    Calls Try.prog 7 #[.slice A n cp, .slice B m cq, .slice C l cr] w fun e w' => e = .returned (.bool true) ∧ Below w.heap.size w w' := by
  have Wa : Hid (∀ X, Below w.heap.size w X → Calls Try.prog 10 #[.slice A n cp] X fun e w' => e = .returned (.slice A (min n 200) cp) ∧ w' = X) := fun X hX => few_any X (h1.below hX)
  obtain ⟨pa, LLa, hpa, hqa, ta⟩ := few_tx h1
  rw [hpa] at Wa
  have Oa : Hid (∀ X, Below w.heap.size w X → Calls Try.prog 14 #[.slice A pa cp] X fun e w' => ∃ A' c', e = .returned (.slice A' (ofX [] LLa).length c') ∧ TxAt w' A' (ofX [] LLa).length c' (ofX [] LLa) ∧ Below X.heap.size X w' ∧ Frh X.heap.size A') := fun X hX => of_any X (ta.below hX) (by omega)
  have ra : Ris (ofX [] LLa) := ofX_ris List.Pairwise.nil LLa
  have la := ofX_length [] LLa
  rw [ta.len, List.length_nil] at la
  obtain ⟨Sa, hSa⟩ : ∃ S, ofX [] LLa = S := ⟨_, rfl⟩
  rw [hSa] at Oa ra la
  obtain ⟨ka, hka⟩ : ∃ k, Sa.length = k := ⟨_, rfl⟩
  have Ka := Lib.hid hka
  rw [hka] at Oa la
  have Ra := Lib.hid ra
  have Ba : ka ≤ 200 := by omega

  have Wb : Hid (∀ X, Below w.heap.size w X → Calls Try.prog 10 #[.slice B m cq] X fun e w' => e = .returned (.slice B (min m 200) cq) ∧ w' = X) := fun X hX => few_any X (h2.below hX)
  obtain ⟨pb, LLb, hpb, hqb, tb⟩ := few_tx h2
  rw [hpb] at Wb
  have Ob : Hid (∀ X, Below w.heap.size w X → Calls Try.prog 14 #[.slice B pb cq] X fun e w' => ∃ A' c', e = .returned (.slice A' (ofX [] LLb).length c') ∧ TxAt w' A' (ofX [] LLb).length c' (ofX [] LLb) ∧ Below X.heap.size X w' ∧ Frh X.heap.size A') := fun X hX => of_any X (tb.below hX) (by omega)
  have rb : Ris (ofX [] LLb) := ofX_ris List.Pairwise.nil LLb
  have lb := ofX_length [] LLb
  rw [tb.len, List.length_nil] at lb
  obtain ⟨Sb, hSb⟩ : ∃ S, ofX [] LLb = S := ⟨_, rfl⟩
  rw [hSb] at Ob rb lb
  obtain ⟨kb, hkb⟩ : ∃ k, Sb.length = k := ⟨_, rfl⟩
  have Kb := Lib.hid hkb
  rw [hkb] at Ob lb
  have Rb := Lib.hid rb
  have Bb : kb ≤ 200 := by omega

  have Wc : Hid (∀ X, Below w.heap.size w X → Calls Try.prog 10 #[.slice C l cr] X fun e w' => e = .returned (.slice C (min l 200) cr) ∧ w' = X) := fun X hX => few_any X (h3.below hX)
  obtain ⟨pc, LLc, hpc, hqc, tc⟩ := few_tx h3
  rw [hpc] at Wc
  have Oc : Hid (∀ X, Below w.heap.size w X → Calls Try.prog 14 #[.slice C pc cr] X fun e w' => ∃ A' c', e = .returned (.slice A' (ofX [] LLc).length c') ∧ TxAt w' A' (ofX [] LLc).length c' (ofX [] LLc) ∧ Below X.heap.size X w' ∧ Frh X.heap.size A') := fun X hX => of_any X (tc.below hX) (by omega)
  have rc : Ris (ofX [] LLc) := ofX_ris List.Pairwise.nil LLc
  have lc := ofX_length [] LLc
  rw [tc.len, List.length_nil] at lc
  obtain ⟨Sc, hSc⟩ : ∃ S, ofX [] LLc = S := ⟨_, rfl⟩
  rw [hSc] at Oc rc lc
  obtain ⟨kc, hkc⟩ : ∃ k, Sc.length = k := ⟨_, rfl⟩
  have Kc := Lib.hid hkc
  rw [hkc] at Oc lc
  have Rc := Lib.hid rc
  have Bc : kc ≤ 200 := by omega

  have E1 := Lib.hid (alg1 Sa Sb Sc)
  have E2 := Lib.hid (alg2 ra rb Sc)
  have E3 := Lib.hid (alg3 ra Sb)
  have E4 := Lib.hid (alg4 Sa Sb)
  have E5 := Lib.hid (alg5 Sa Sb)
  have Rp := Lib.hid (ris_filter ra (fun x => decide (x ∈ Sb)))
  have Rq := Lib.hid (ris_filter ra (fun x => decide (x ∉ Sb)))
  have Lu : Hid ((ofX [] (Sa ++ (Sb ++ Sc))).length ≤ 600) := by
    have q := ofX_length [] (Sa ++ (Sb ++ Sc))
    rw [List.length_append, List.length_append, List.length_nil] at q
    unfold Hid
    omega
  have Lv : Hid ((Sa.filter (fun x => decide (x ∈ Sb ∧ x ∈ Sc))).length ≤ 200) := Nat.le_trans (List.length_filter_le _ _) (by omega)
  have Lp : Hid ((Sa.filter (fun x => decide (x ∈ Sb))).length ≤ 200) := Nat.le_trans (List.length_filter_le _ _) (by omega)
  have Lq : Hid ((Sa.filter (fun x => decide (x ∉ Sb))).length ≤ 200) := Nat.le_trans (List.length_filter_le _ _) (by omega)
  obtain ⟨SU, hU⟩ : ∃ S, ofX [] (Sa ++ (Sb ++ Sc)) = S := ⟨_, rfl⟩
  obtain ⟨SV, hV⟩ : ∃ S, Sa.filter (fun x => decide (x ∈ Sb ∧ x ∈ Sc)) = S := ⟨_, rfl⟩
  obtain ⟨SP, hP⟩ : ∃ S, Sa.filter (fun x => decide (x ∈ Sb)) = S := ⟨_, rfl⟩
  obtain ⟨SQ, hQ⟩ : ∃ S, Sa.filter (fun x => decide (x ∉ Sb)) = S := ⟨_, rfl⟩
  rw [hU] at E1 Lu
  rw [hV] at E2 Lv
  rw [hP, hQ] at E3 E5
  rw [hQ, hP] at E4
  rw [hP] at Rp Lp
  rw [hQ] at Rq Lq
  rw [Ka.out] at E5
  have EU := Lib.hid hU
  have EV := Lib.hid hV
  have EP := Lib.hid hP
  have EQ := Lib.hid hQ
  obtain ⟨M, hM⟩ : ∃ M, w.heap.size = M := ⟨_, rfl⟩
  have HM := Lib.hid hM
  rw [hM] at Wa Wb Wc Oa Ob Oc ⊢
  clear h1 h2 h3 hpa hpb hpc ta tb tc hSa hSb hSc hka hkb hkc ra rb rc hM hU hV hP hQ
  go_enter Try.func7, Try.ntmps7
  go_wp2_with fail
  refine (awake_any w).mono ?_
  rintro e w1 ⟨rfl, hb1⟩
  have HB1 : Hid (Below M w w1) := by unfold Hid; rw [← HM.out]; exact hb1
  clear hb1
  go_wp2_with fail
  refine (Wa.out w1 HB1.out).mono ?_
  rintro e w2 ⟨rfl, hw1⟩
  rw [hw1]
  clear hw1 w2
  go_wp2_with fail
  refine (Oa.out w1 HB1.out).mono ?_
  rintro e w2 ⟨Aa, ca, rfl, hf, hb2, _⟩
  have Fa := Lib.hid hf
  have HB2 : Hid (Below M w w2) := HB1.out.trans (hb2.mono (by have := HB1.out.size; have := HM.out; omega))
  clear hf hb2
  go_wp2_with fail
  refine (Wb.out w2 HB2.out).mono ?_
  rintro e w3 ⟨rfl, hw1⟩
  rw [hw1]
  clear hw1 w3
  go_wp2_with fail
  refine (Ob.out w2 HB2.out).mono ?_
  rintro e w3 ⟨Ab, cb, rfl, hf, hb3, _⟩
  have Fb := Lib.hid hf
  have Fa := Lib.hid (Fa.out.below hb3)
  have HB3 : Hid (Below M w w3) := HB2.out.trans (hb3.mono (by have := HB2.out.size; have := HM.out; omega))
  clear hf hb3
  go_wp2_with fail
  refine (Wc.out w3 HB3.out).mono ?_
  rintro e w4 ⟨rfl, hw1⟩
  rw [hw1]
  clear hw1 w4
  go_wp2_with fail
  refine (Oc.out w3 HB3.out).mono ?_
  rintro e w4 ⟨Ac, cc, rfl, hf, hb4, _⟩
  have Fc := Lib.hid hf
  have Fa := Lib.hid (Fa.out.below hb4)
  have Fb := Lib.hid (Fb.out.below hb4)
  have HB4 : Hid (Below M w w4) := HB3.out.trans (hb4.mono (by have := HB3.out.size; have := HM.out; omega))
  clear hf hb4
  go_wp2_with fail
  refine (rcheck_any w4 Fa.out (by omega)).mono ?_
  rw [ckX_ok Ra.out]
  rintro e w5 ⟨rfl, hb5⟩
  have Fa := Lib.hid (Fa.out.below hb5)
  have Fb := Lib.hid (Fb.out.below hb5)
  have Fc := Lib.hid (Fc.out.below hb5)
  have HB5 : Hid (Below M w w5) := HB4.out.trans (hb5.mono (by have := HB4.out.size; have := HM.out; omega))
  clear hb5
  go_wp2_with fail
  refine (rcheck_any w5 Fb.out (by omega)).mono ?_
  rw [ckX_ok Rb.out]
  rintro e w6 ⟨rfl, hb6⟩
  have Fa := Lib.hid (Fa.out.below hb6)
  have Fb := Lib.hid (Fb.out.below hb6)
  have Fc := Lib.hid (Fc.out.below hb6)
  have HB6 : Hid (Below M w w6) := HB5.out.trans (hb6.mono (by have := HB5.out.size; have := HM.out; omega))
  clear hb6
  go_wp2_with fail
  refine (rcheck_any w6 Fc.out (by omega)).mono ?_
  rw [ckX_ok Rc.out]
  rintro e w7 ⟨rfl, hb7⟩
  have Fa := Lib.hid (Fa.out.below hb7)
  have Fb := Lib.hid (Fb.out.below hb7)
  have Fc := Lib.hid (Fc.out.below hb7)
  have HB7 : Hid (Below M w w7) := HB6.out.trans (hb7.mono (by have := HB6.out.size; have := HM.out; omega))
  clear hb7
  have HU : Hid (∀ {A : Option Addr} {n cp : Nat} {S : List Rw} (w : World), TtAt w A n cp S → n ≤ 20 → Sml S 1000 → Calls Try.prog 24 #[.slice A n cp] w fun e w' => ∃ A' k c', e = .returned (.tuple #[.slice A' k c', .int .i64 (ckA S)]) ∧ TxAt w' A' k c' (unX S) ∧ Below w.heap.size w w') := fun w h hn hs => (pUnion_any w h hn hs).mono (fun e w' ⟨A', k, c', q1, q2, q3, _⟩ => ⟨A', k, c', q1, q2, q3⟩)
  obtain ⟨w8, hw8⟩ : ∃ w', w7.alloc (.cells #[.slice Aa ka ca, .slice Ab kb cb, .slice Ac kc cc] 22) = w' := ⟨_, rfl⟩
  have hb8 : Below w7.heap.size w7 w8 := by rw [← hw8]; exact (Below.refl _ _).alloc (Nat.le_refl _) _
  have HT8 : Hid (TtAt w8 (some ⟨w7.heap.size, 0, none⟩) 3 3 [⟨Aa, ka, ca, Sa⟩, ⟨Ab, kb, cb, Sb⟩, ⟨Ac, kc, cc, Sc⟩]) := by
    unfold Hid
    rw [← hw8]
    exact TtAt.lit [⟨Aa, ka, ca, Sa⟩, ⟨Ab, kb, cb, Sb⟩, ⟨Ac, kc, cc, Sc⟩] (fun r hr => by
      simp only [List.mem_cons, List.not_mem_nil, or_false] at hr
      rcases hr with rfl | rfl | rfl
      · exact Fa.out
      · exact Fb.out
      · exact Fc.out) (by show 3 ≤ 1000; decide) (by show 0 < 3; decide) _ rfl
  have HS8 : Hid (Sml [⟨Aa, ka, ca, Sa⟩, ⟨Ab, kb, cb, Sb⟩, ⟨Ac, kc, cc, Sc⟩] 1000) := fun r hr => by
    simp only [List.mem_cons, List.not_mem_nil, or_false] at hr
    rcases hr with rfl | rfl | rfl
    · show ka ≤ 1000; omega
    · show kb ≤ 1000; omega
    · show kc ≤ 1000; omega
  have HW8 := Lib.hid hw8
  have Fa := Lib.hid (Fa.out.below hb8)
  have Fb := Lib.hid (Fb.out.below hb8)
  have Fc := Lib.hid (Fc.out.below hb8)
  have HB8 : Hid (Below M w w8) := HB7.out.trans (hb8.mono (by have := HB7.out.size; have := HM.out; omega))
  clear hb8 hw8
  go_wp2_with fail
  rw [HW8.out]
  refine (HU.out w8 HT8.out (by omega) HS8.out).mono ?_
  rw [unX_three Ra.out Rb.out Rc.out, ckA_three Ra.out Rb.out Rc.out, EU.out]
  rintro e w9 ⟨Ax, kx, cx, rfl, hf, hb9⟩
  have Fx := Lib.hid hf
  have Fa := Lib.hid (Fa.out.below hb9)
  have Fb := Lib.hid (Fb.out.below hb9)
  have Fc := Lib.hid (Fc.out.below hb9)
  have HB9 : Hid (Below M w w9) := HB8.out.trans (hb9.mono (by have := HB8.out.size; have := HM.out; omega))
  clear hf hb9
  obtain ⟨w10, hw10⟩ : ∃ w', w9.alloc (.cells #[.slice Ac kc cc, .slice Aa ka ca, .slice Ab kb cb] 22) = w' := ⟨_, rfl⟩
  have hb10 : Below w9.heap.size w9 w10 := by rw [← hw10]; exact (Below.refl _ _).alloc (Nat.le_refl _) _
  have HT10 : Hid (TtAt w10 (some ⟨w9.heap.size, 0, none⟩) 3 3 [⟨Ac, kc, cc, Sc⟩, ⟨Aa, ka, ca, Sa⟩, ⟨Ab, kb, cb, Sb⟩]) := by
    unfold Hid
    rw [← hw10]
    exact TtAt.lit [⟨Ac, kc, cc, Sc⟩, ⟨Aa, ka, ca, Sa⟩, ⟨Ab, kb, cb, Sb⟩] (fun r hr => by
      simp only [List.mem_cons, List.not_mem_nil, or_false] at hr
      rcases hr with rfl | rfl | rfl
      · exact Fc.out
      · exact Fa.out
      · exact Fb.out) (by show 3 ≤ 1000; decide) (by show 0 < 3; decide) _ rfl
  have HS10 : Hid (Sml [⟨Ac, kc, cc, Sc⟩, ⟨Aa, ka, ca, Sa⟩, ⟨Ab, kb, cb, Sb⟩] 1000) := fun r hr => by
    simp only [List.mem_cons, List.not_mem_nil, or_false] at hr
    rcases hr with rfl | rfl | rfl
    · show kc ≤ 1000; omega
    · show ka ≤ 1000; omega
    · show kb ≤ 1000; omega
  have HW10 := Lib.hid hw10
  have Fa := Lib.hid (Fa.out.below hb10)
  have Fb := Lib.hid (Fb.out.below hb10)
  have Fc := Lib.hid (Fc.out.below hb10)
  have Fx := Lib.hid (Fx.out.below hb10)
  have HB10 : Hid (Below M w w10) := HB9.out.trans (hb10.mono (by have := HB9.out.size; have := HM.out; omega))
  clear hb10 hw10
  go_wp2_with fail
  rw [HW10.out]
  refine (HU.out w10 HT10.out (by omega) HS10.out).mono ?_
  rw [unX_three Rc.out Ra.out Rb.out, ckA_three Rc.out Ra.out Rb.out, E1.out]
  rintro e w11 ⟨Ay, ky, cy, rfl, hf, hb11⟩
  have Fy := Lib.hid hf
  have Fa := Lib.hid (Fa.out.below hb11)
  have Fb := Lib.hid (Fb.out.below hb11)
  have Fc := Lib.hid (Fc.out.below hb11)
  have Fx := Lib.hid (Fx.out.below hb11)
  have HB11 : Hid (Below M w w11) := HB10.out.trans (hb11.mono (by have := HB10.out.size; have := HM.out; omega))
  clear hf hb11
  obtain ⟨w12, hw12⟩ : ∃ w', w11.alloc (.cells #[.slice Aa ka ca, .slice Ab kb cb, .slice Ac kc cc] 22) = w' := ⟨_, rfl⟩
  have hb12 : Below w11.heap.size w11 w12 := by rw [← hw12]; exact (Below.refl _ _).alloc (Nat.le_refl _) _
  have HT12 : Hid (TtAt w12 (some ⟨w11.heap.size, 0, none⟩) 3 3 [⟨Aa, ka, ca, Sa⟩, ⟨Ab, kb, cb, Sb⟩, ⟨Ac, kc, cc, Sc⟩]) := by
    unfold Hid
    rw [← hw12]
    exact TtAt.lit [⟨Aa, ka, ca, Sa⟩, ⟨Ab, kb, cb, Sb⟩, ⟨Ac, kc, cc, Sc⟩] (fun r hr => by
      simp only [List.mem_cons, List.not_mem_nil, or_false] at hr
      rcases hr with rfl | rfl | rfl
      · exact Fa.out
      · exact Fb.out
      · exact Fc.out) (by show 3 ≤ 1000; decide) (by show 0 < 3; decide) _ rfl
  have HS12 : Hid (Sml [⟨Aa, ka, ca, Sa⟩, ⟨Ab, kb, cb, Sb⟩, ⟨Ac, kc, cc, Sc⟩] 1000) := fun r hr => by
    simp only [List.mem_cons, List.not_mem_nil, or_false] at hr
    rcases hr with rfl | rfl | rfl
    · show ka ≤ 1000; omega
    · show kb ≤ 1000; omega
    · show kc ≤ 1000; omega
  have HW12 := Lib.hid hw12
  have Fa := Lib.hid (Fa.out.below hb12)
  have Fb := Lib.hid (Fb.out.below hb12)
  have Fc := Lib.hid (Fc.out.below hb12)
  have Fx := Lib.hid (Fx.out.below hb12)
  have Fy := Lib.hid (Fy.out.below hb12)
  have HB12 : Hid (Below M w w12) := HB11.out.trans (hb12.mono (by have := HB11.out.size; have := HM.out; omega))
  clear hb12 hw12
  go_wp2_with fail
  rw [HW12.out]
  refine (pMeet_any w12 HT12.out (by omega) HS12.out).mono ?_
  rw [meet3 Ra.out Rb.out Rc.out (by omega), ckA_three Ra.out Rb.out Rc.out, EV.out]
  rintro e w13 ⟨Au, ku, cu, rfl, hf, hb13⟩
  have Fu := Lib.hid hf
  have Fa := Lib.hid (Fa.out.below hb13)
  have Fb := Lib.hid (Fb.out.below hb13)
  have Fc := Lib.hid (Fc.out.below hb13)
  have Fx := Lib.hid (Fx.out.below hb13)
  have Fy := Lib.hid (Fy.out.below hb13)
  have HB13 : Hid (Below M w w13) := HB12.out.trans (hb13.mono (by have := HB12.out.size; have := HM.out; omega))
  clear hf hb13
  obtain ⟨w14, hw14⟩ : ∃ w', w13.alloc (.cells #[.slice Ab kb cb, .slice Ac kc cc, .slice Aa ka ca] 22) = w' := ⟨_, rfl⟩
  have hb14 : Below w13.heap.size w13 w14 := by rw [← hw14]; exact (Below.refl _ _).alloc (Nat.le_refl _) _
  have HT14 : Hid (TtAt w14 (some ⟨w13.heap.size, 0, none⟩) 3 3 [⟨Ab, kb, cb, Sb⟩, ⟨Ac, kc, cc, Sc⟩, ⟨Aa, ka, ca, Sa⟩]) := by
    unfold Hid
    rw [← hw14]
    exact TtAt.lit [⟨Ab, kb, cb, Sb⟩, ⟨Ac, kc, cc, Sc⟩, ⟨Aa, ka, ca, Sa⟩] (fun r hr => by
      simp only [List.mem_cons, List.not_mem_nil, or_false] at hr
      rcases hr with rfl | rfl | rfl
      · exact Fb.out
      · exact Fc.out
      · exact Fa.out) (by show 3 ≤ 1000; decide) (by show 0 < 3; decide) _ rfl
  have HS14 : Hid (Sml [⟨Ab, kb, cb, Sb⟩, ⟨Ac, kc, cc, Sc⟩, ⟨Aa, ka, ca, Sa⟩] 1000) := fun r hr => by
    simp only [List.mem_cons, List.not_mem_nil, or_false] at hr
    rcases hr with rfl | rfl | rfl
    · show kb ≤ 1000; omega
    · show kc ≤ 1000; omega
    · show ka ≤ 1000; omega
  have HW14 := Lib.hid hw14
  have Fa := Lib.hid (Fa.out.below hb14)
  have Fb := Lib.hid (Fb.out.below hb14)
  have Fc := Lib.hid (Fc.out.below hb14)
  have Fx := Lib.hid (Fx.out.below hb14)
  have Fy := Lib.hid (Fy.out.below hb14)
  have Fu := Lib.hid (Fu.out.below hb14)
  have HB14 : Hid (Below M w w14) := HB13.out.trans (hb14.mono (by have := HB13.out.size; have := HM.out; omega))
  clear hb14 hw14
  go_wp2_with fail
  rw [HW14.out]
  refine (pMeet_any w14 HT14.out (by omega) HS14.out).mono ?_
  rw [meet3 Rb.out Rc.out Ra.out (by omega), ckA_three Rb.out Rc.out Ra.out, E2.out]
  rintro e w15 ⟨Av, kv, cv, rfl, hf, hb15⟩
  have Fv := Lib.hid hf
  have Fa := Lib.hid (Fa.out.below hb15)
  have Fb := Lib.hid (Fb.out.below hb15)
  have Fc := Lib.hid (Fc.out.below hb15)
  have Fx := Lib.hid (Fx.out.below hb15)
  have Fy := Lib.hid (Fy.out.below hb15)
  have Fu := Lib.hid (Fu.out.below hb15)
  have HB15 : Hid (Below M w w15) := HB14.out.trans (hb15.mono (by have := HB14.out.size; have := HM.out; omega))
  clear hf hb15
  obtain ⟨w16, hw16⟩ : ∃ w', w15.alloc (.cells #[.slice Aa ka ca, .slice Ab kb cb] 22) = w' := ⟨_, rfl⟩
  have hb16 : Below w15.heap.size w15 w16 := by rw [← hw16]; exact (Below.refl _ _).alloc (Nat.le_refl _) _
  have HT16 : Hid (TtAt w16 (some ⟨w15.heap.size, 0, none⟩) 2 2 [⟨Aa, ka, ca, Sa⟩, ⟨Ab, kb, cb, Sb⟩]) := by
    unfold Hid
    rw [← hw16]
    exact TtAt.lit [⟨Aa, ka, ca, Sa⟩, ⟨Ab, kb, cb, Sb⟩] (fun r hr => by
      simp only [List.mem_cons, List.not_mem_nil, or_false] at hr
      rcases hr with rfl | rfl
      · exact Fa.out
      · exact Fb.out) (by show 2 ≤ 1000; decide) (by show 0 < 2; decide) _ rfl
  have HS16 : Hid (Sml [⟨Aa, ka, ca, Sa⟩, ⟨Ab, kb, cb, Sb⟩] 1000) := fun r hr => by
    simp only [List.mem_cons, List.not_mem_nil, or_false] at hr
    rcases hr with rfl | rfl
    · show ka ≤ 1000; omega
    · show kb ≤ 1000; omega
  have HW16 := Lib.hid hw16
  have Fa := Lib.hid (Fa.out.below hb16)
  have Fb := Lib.hid (Fb.out.below hb16)
  have Fc := Lib.hid (Fc.out.below hb16)
  have Fx := Lib.hid (Fx.out.below hb16)
  have Fy := Lib.hid (Fy.out.below hb16)
  have Fu := Lib.hid (Fu.out.below hb16)
  have Fv := Lib.hid (Fv.out.below hb16)
  have HB16 : Hid (Below M w w16) := HB15.out.trans (hb16.mono (by have := HB15.out.size; have := HM.out; omega))
  clear hb16 hw16
  go_wp2_with fail
  rw [HW16.out]
  refine (pMeet_any w16 HT16.out (by omega) HS16.out).mono ?_
  rw [meet2 Ra.out Rb.out (by omega), ckA_two Ra.out Rb.out, EP.out]
  rintro e w17 ⟨Ap, kp, cp, rfl, hf, hb17⟩
  have Fp := Lib.hid hf
  have Fa := Lib.hid (Fa.out.below hb17)
  have Fb := Lib.hid (Fb.out.below hb17)
  have Fc := Lib.hid (Fc.out.below hb17)
  have Fx := Lib.hid (Fx.out.below hb17)
  have Fy := Lib.hid (Fy.out.below hb17)
  have Fu := Lib.hid (Fu.out.below hb17)
  have Fv := Lib.hid (Fv.out.below hb17)
  have HB17 : Hid (Below M w w17) := HB16.out.trans (hb17.mono (by have := HB16.out.size; have := HM.out; omega))
  clear hf hb17
  obtain ⟨w18, hw18⟩ : ∃ w', w17.alloc (.cells #[.slice Aa ka ca, .slice Ab kb cb] 22) = w' := ⟨_, rfl⟩
  have hb18 : Below w17.heap.size w17 w18 := by rw [← hw18]; exact (Below.refl _ _).alloc (Nat.le_refl _) _
  have HT18 : Hid (TtAt w18 (some ⟨w17.heap.size, 0, none⟩) 2 2 [⟨Aa, ka, ca, Sa⟩, ⟨Ab, kb, cb, Sb⟩]) := by
    unfold Hid
    rw [← hw18]
    exact TtAt.lit [⟨Aa, ka, ca, Sa⟩, ⟨Ab, kb, cb, Sb⟩] (fun r hr => by
      simp only [List.mem_cons, List.not_mem_nil, or_false] at hr
      rcases hr with rfl | rfl
      · exact Fa.out
      · exact Fb.out) (by show 2 ≤ 1000; decide) (by show 0 < 2; decide) _ rfl
  have HS18 : Hid (Sml [⟨Aa, ka, ca, Sa⟩, ⟨Ab, kb, cb, Sb⟩] 1000) := fun r hr => by
    simp only [List.mem_cons, List.not_mem_nil, or_false] at hr
    rcases hr with rfl | rfl
    · show ka ≤ 1000; omega
    · show kb ≤ 1000; omega
  have HW18 := Lib.hid hw18
  have Fa := Lib.hid (Fa.out.below hb18)
  have Fb := Lib.hid (Fb.out.below hb18)
  have Fc := Lib.hid (Fc.out.below hb18)
  have Fx := Lib.hid (Fx.out.below hb18)
  have Fy := Lib.hid (Fy.out.below hb18)
  have Fu := Lib.hid (Fu.out.below hb18)
  have Fv := Lib.hid (Fv.out.below hb18)
  have Fp := Lib.hid (Fp.out.below hb18)
  have HB18 : Hid (Below M w w18) := HB17.out.trans (hb18.mono (by have := HB17.out.size; have := HM.out; omega))
  clear hb18 hw18
  go_wp2_with fail
  rw [HW18.out]
  refine (pLess_any w18 HT18.out (by omega) HS18.out).mono ?_
  rw [less2 Ra.out Rb.out, ckA_two Ra.out Rb.out, EQ.out]
  rintro e w19 ⟨Aq, kq, cq, rfl, hf, hb19⟩
  have Fq := Lib.hid hf
  have Fa := Lib.hid (Fa.out.below hb19)
  have Fb := Lib.hid (Fb.out.below hb19)
  have Fc := Lib.hid (Fc.out.below hb19)
  have Fx := Lib.hid (Fx.out.below hb19)
  have Fy := Lib.hid (Fy.out.below hb19)
  have Fu := Lib.hid (Fu.out.below hb19)
  have Fv := Lib.hid (Fv.out.below hb19)
  have Fp := Lib.hid (Fp.out.below hb19)
  have HB19 : Hid (Below M w w19) := HB18.out.trans (hb19.mono (by have := HB18.out.size; have := HM.out; omega))
  clear hf hb19
  obtain ⟨w20, hw20⟩ : ∃ w', w19.alloc (.cells #[.slice Ap kp cp, .slice Aq kq cq] 22) = w' := ⟨_, rfl⟩
  have hb20 : Below w19.heap.size w19 w20 := by rw [← hw20]; exact (Below.refl _ _).alloc (Nat.le_refl _) _
  have HT20 : Hid (TtAt w20 (some ⟨w19.heap.size, 0, none⟩) 2 2 [⟨Ap, kp, cp, SP⟩, ⟨Aq, kq, cq, SQ⟩]) := by
    unfold Hid
    rw [← hw20]
    exact TtAt.lit [⟨Ap, kp, cp, SP⟩, ⟨Aq, kq, cq, SQ⟩] (fun r hr => by
      simp only [List.mem_cons, List.not_mem_nil, or_false] at hr
      rcases hr with rfl | rfl
      · exact Fp.out
      · exact Fq.out) (by show 2 ≤ 1000; decide) (by show 0 < 2; decide) _ rfl
  have HS20 : Hid (Sml [⟨Ap, kp, cp, SP⟩, ⟨Aq, kq, cq, SQ⟩] 1000) := fun r hr => by
    simp only [List.mem_cons, List.not_mem_nil, or_false] at hr
    rcases hr with rfl | rfl
    · show kp ≤ 1000; have := Fp.out.len; have := Lp.out; omega
    · show kq ≤ 1000; have := Fq.out.len; have := Lq.out; omega
  have HW20 := Lib.hid hw20
  have Fa := Lib.hid (Fa.out.below hb20)
  have Fb := Lib.hid (Fb.out.below hb20)
  have Fc := Lib.hid (Fc.out.below hb20)
  have Fx := Lib.hid (Fx.out.below hb20)
  have Fy := Lib.hid (Fy.out.below hb20)
  have Fu := Lib.hid (Fu.out.below hb20)
  have Fv := Lib.hid (Fv.out.below hb20)
  have Fp := Lib.hid (Fp.out.below hb20)
  have Fq := Lib.hid (Fq.out.below hb20)
  have HB20 : Hid (Below M w w20) := HB19.out.trans (hb20.mono (by have := HB19.out.size; have := HM.out; omega))
  clear hb20 hw20
  go_wp2_with fail
  rw [HW20.out]
  refine (HU.out w20 HT20.out (by omega) HS20.out).mono ?_
  rw [unX_two Rp.out Rq.out, ckA_two Rp.out Rq.out, E3.out]
  rintro e w21 ⟨Al, kl, cl, rfl, hf, hb21⟩
  have Fl := Lib.hid hf
  have Fa := Lib.hid (Fa.out.below hb21)
  have Fb := Lib.hid (Fb.out.below hb21)
  have Fc := Lib.hid (Fc.out.below hb21)
  have Fx := Lib.hid (Fx.out.below hb21)
  have Fy := Lib.hid (Fy.out.below hb21)
  have Fu := Lib.hid (Fu.out.below hb21)
  have Fv := Lib.hid (Fv.out.below hb21)
  have Fp := Lib.hid (Fp.out.below hb21)
  have Fq := Lib.hid (Fq.out.below hb21)
  have HB21 : Hid (Below M w w21) := HB20.out.trans (hb21.mono (by have := HB20.out.size; have := HM.out; omega))
  clear hf hb21
  obtain ⟨w22, hw22⟩ : ∃ w', w21.alloc (.cells #[.slice Ap kp cp, .slice Aq kq cq] 22) = w' := ⟨_, rfl⟩
  have hb22 : Below w21.heap.size w21 w22 := by rw [← hw22]; exact (Below.refl _ _).alloc (Nat.le_refl _) _
  have HT22 : Hid (TtAt w22 (some ⟨w21.heap.size, 0, none⟩) 2 2 [⟨Ap, kp, cp, SP⟩, ⟨Aq, kq, cq, SQ⟩]) := by
    unfold Hid
    rw [← hw22]
    exact TtAt.lit [⟨Ap, kp, cp, SP⟩, ⟨Aq, kq, cq, SQ⟩] (fun r hr => by
      simp only [List.mem_cons, List.not_mem_nil, or_false] at hr
      rcases hr with rfl | rfl
      · exact Fp.out
      · exact Fq.out) (by show 2 ≤ 1000; decide) (by show 0 < 2; decide) _ rfl
  have HS22 : Hid (Sml [⟨Ap, kp, cp, SP⟩, ⟨Aq, kq, cq, SQ⟩] 1000) := fun r hr => by
    simp only [List.mem_cons, List.not_mem_nil, or_false] at hr
    rcases hr with rfl | rfl
    · show kp ≤ 1000; have := Fp.out.len; have := Lp.out; omega
    · show kq ≤ 1000; have := Fq.out.len; have := Lq.out; omega
  have HW22 := Lib.hid hw22
  have Fa := Lib.hid (Fa.out.below hb22)
  have Fb := Lib.hid (Fb.out.below hb22)
  have Fc := Lib.hid (Fc.out.below hb22)
  have Fx := Lib.hid (Fx.out.below hb22)
  have Fy := Lib.hid (Fy.out.below hb22)
  have Fu := Lib.hid (Fu.out.below hb22)
  have Fv := Lib.hid (Fv.out.below hb22)
  have Fp := Lib.hid (Fp.out.below hb22)
  have Fq := Lib.hid (Fq.out.below hb22)
  have Fl := Lib.hid (Fl.out.below hb22)
  have HB22 : Hid (Below M w w22) := HB21.out.trans (hb22.mono (by have := HB21.out.size; have := HM.out; omega))
  clear hb22 hw22
  go_wp2_with fail
  rw [HW22.out]
  refine (pMeet_any w22 HT22.out (by omega) HS22.out).mono ?_
  rw [meet2 Rp.out Rq.out (by omega), ckA_two Rp.out Rq.out, E4.out]
  rintro e w23 ⟨An, kn, cn, rfl, hf, hb23⟩
  have Fn := Lib.hid hf
  have Fa := Lib.hid (Fa.out.below hb23)
  have Fb := Lib.hid (Fb.out.below hb23)
  have Fc := Lib.hid (Fc.out.below hb23)
  have Fx := Lib.hid (Fx.out.below hb23)
  have Fy := Lib.hid (Fy.out.below hb23)
  have Fu := Lib.hid (Fu.out.below hb23)
  have Fv := Lib.hid (Fv.out.below hb23)
  have Fp := Lib.hid (Fp.out.below hb23)
  have Fq := Lib.hid (Fq.out.below hb23)
  have Fl := Lib.hid (Fl.out.below hb23)
  have HB23 : Hid (Below M w w23) := HB22.out.trans (hb23.mono (by have := HB22.out.size; have := HM.out; omega))
  clear hf hb23
  obtain rfl : kx = ky := Fx.out.len.symm.trans Fy.out.len
  obtain rfl : ku = kv := Fu.out.len.symm.trans Fv.out.len
  obtain rfl : kl = ka := Fl.out.len.symm.trans Fa.out.len
  obtain rfl : kn = 0 := Fn.out.len.symm
  have hsum : IntKind.i64.wrap ((kp : Int) + (kq : Int)) = (kl : Int) := by
    have := Fp.out.len; have := Fq.out.len; have := E5.out
    rw [IntWalk.i64_in _ (by omega)]
    omega
  go_wp2_with fail
  refine (rsame_yes w23 Fx.out Fy.out (by have := Fx.out.len; have := Lu.out; omega)).mono ?_
  rintro e w24 ⟨rfl, hb24⟩
  have Fa := Lib.hid (Fa.out.below hb24)
  have Fb := Lib.hid (Fb.out.below hb24)
  have Fc := Lib.hid (Fc.out.below hb24)
  have Fx := Lib.hid (Fx.out.below hb24)
  have Fy := Lib.hid (Fy.out.below hb24)
  have Fu := Lib.hid (Fu.out.below hb24)
  have Fv := Lib.hid (Fv.out.below hb24)
  have Fp := Lib.hid (Fp.out.below hb24)
  have Fq := Lib.hid (Fq.out.below hb24)
  have Fl := Lib.hid (Fl.out.below hb24)
  have Fn := Lib.hid (Fn.out.below hb24)
  have HB24 : Hid (Below M w w24) := HB23.out.trans (hb24.mono (by have := HB23.out.size; have := HM.out; omega))
  clear hb24
  go_wp2_with fail
  refine (rsame_yes w24 Fu.out Fv.out (by have := Fu.out.len; have := Lv.out; omega)).mono ?_
  rintro e w25 ⟨rfl, hb25⟩
  have Fa := Lib.hid (Fa.out.below hb25)
  have Fb := Lib.hid (Fb.out.below hb25)
  have Fc := Lib.hid (Fc.out.below hb25)
  have Fx := Lib.hid (Fx.out.below hb25)
  have Fy := Lib.hid (Fy.out.below hb25)
  have Fu := Lib.hid (Fu.out.below hb25)
  have Fv := Lib.hid (Fv.out.below hb25)
  have Fp := Lib.hid (Fp.out.below hb25)
  have Fq := Lib.hid (Fq.out.below hb25)
  have Fl := Lib.hid (Fl.out.below hb25)
  have Fn := Lib.hid (Fn.out.below hb25)
  have HB25 : Hid (Below M w w25) := HB24.out.trans (hb25.mono (by have := HB24.out.size; have := HM.out; omega))
  clear hb25
  go_wp2_with fail
  refine (rsame_yes w25 Fl.out Fa.out (by omega)).mono ?_
  rintro e w26 ⟨rfl, hb26⟩
  have Fa := Lib.hid (Fa.out.below hb26)
  have Fb := Lib.hid (Fb.out.below hb26)
  have Fc := Lib.hid (Fc.out.below hb26)
  have Fx := Lib.hid (Fx.out.below hb26)
  have Fy := Lib.hid (Fy.out.below hb26)
  have Fu := Lib.hid (Fu.out.below hb26)
  have Fv := Lib.hid (Fv.out.below hb26)
  have Fp := Lib.hid (Fp.out.below hb26)
  have Fq := Lib.hid (Fq.out.below hb26)
  have Fl := Lib.hid (Fl.out.below hb26)
  have Fn := Lib.hid (Fn.out.below hb26)
  have HB26 : Hid (Below M w w26) := HB25.out.trans (hb26.mono (by have := HB25.out.size; have := HM.out; omega))
  clear hb26
  go_wp2
  go_ret
  exact ⟨rfl, HB26.out⟩

end Go.Proofs.Ytkobhlhkkpnmkaa
