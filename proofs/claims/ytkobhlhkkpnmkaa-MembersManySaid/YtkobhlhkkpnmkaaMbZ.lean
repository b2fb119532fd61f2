/-
  The law's sets; MembersMany walked. Conditions: the rows lie in memory.
-/
import Derived.Test.YtkobhlhkkpnmkaaMbZb
import Derived.Test.YtkobhlhkkpnmkaaMbZa
import Derived.Test.YtkobhlhkkpnmkaaMbSa
namespace Go.Proofs.Ytkobhlhkkpnmkaa
open Go.RowKit

def encRw (r : Rw) : Value := .slice r.A r.n r.c
theorem info_row : (Try.prog.info? 22).map (fun i => (i.zero, i.size, i.bytes)) = some (some (.slice none 0 0), 1, 24) := by kernel_rfl
/-- A value owns a row of rows. -/
def TtO (w : World) (base : Nat) (v : Value) (n : Nat) (S : List Rw) : Prop := w.ownsRow base 22 1 v n (S.map encRw)

theorem tt_own {w : World} {base : Nat} {A : Option Addr} {n c : Nat} {S : List Rw} (h : TtO w base (.slice A n c) n S) (hf : ∀ r ∈ S, TxAt w r.A r.n r.c r.L) : TtAt w A n c S := by
  obtain ⟨h1, h2⟩ := h
  rw [Nat.mul_one, List.length_map] at h1
  rcases h2 with ⟨q, q2⟩ | ⟨g, cap, cur, q, _, q3, q4, q5, q6, q7⟩
  · injection q with q q3 q4
    subst q q3 q4
    exact ⟨h1, Nat.le_refl _, by omega, fun _ => rfl, hf, fun h => absurd h (Nat.lt_irrefl 0)⟩
  · injection q with q q8 q9
    subst q q9
    refine ⟨h1, q4, by simpa [maxLen] using q5, (fun e => by cases e), hf, fun hn => ⟨g, 0, rfl, (Array.getElem?_eq_some_iff.1 q3).1, fun j u hu => ?_⟩⟩
    rw [Nat.mul_one] at q7
    have hu2 : (S.map encRw)[j]? = some (encRw u) := by rw [List.getElem?_map, hu]; rfl
    rw [← q7, List.getElem?_take] at hu2
    rw [Nat.zero_add]
    split at hu2
    · simp [World.cell?, q3]
      simpa [encRw] using hu2
    · cases hu2

theorem wpList_append_tt {w : World} {ops : Array Oper} {rest : List Oper} {o : Oper} {a : Act} {Q : Exit → Act → World → Prop} (hgd : o.guard = none) (s x : Operand)
    (ho : o.op = .call { callee := .builtin .append, args := #[s, x], argTypes := #[35, 35] })
    (base : Nat) (v : Value) (n : Nat) (xs : List Rw) (hs : a.eval s = v) (hown : TtO w base v n xs) (g : Nat) (r : Rw) (hx : a.eval x = .slice (some ⟨g, 0, none⟩) 1 1) (hr : w.cell? ⟨g, 0, none⟩ = some (encRw r))
    (h63 : n ≤ 1000) (hbase : base ≤ w.heap.size)
    (h : ∀ v' w', TtO w' base v' (n + 1) (xs ++ [r]) → w.grownBy w' v.ownBlock → wpList Try.prog ops Q rest (a.put o.dst v') w') :
    wpList Try.prog ops Q (o :: rest) a w := by
  obtain ⟨i, hi, hz⟩ := Option.map_eq_some_iff.1 info_row
  simp only [Prod.mk.injEq] at hz
  obtain ⟨z1, z2, z3⟩ := hz
  obtain ⟨v', w', hrun, h2, h3, _, _⟩ := run_append_own_at (P := Try.prog) w base 35 o.type 22 i _ 1 24 Try.underlying35 hi z1 z2 z3 rfl (by omega) v n _ hown ⟨g, 0, none⟩ 1 1 ([r].map encRw) rfl (fun j u hu => by
      rcases j with _ | j
      · simp at hu
        subst hu
        exact hr
      · simp at hu) (fun u hu => by
      simp at hu
      subst hu
      rfl) (by unfold maxLen; omega) (by omega) hbase
  rw [← List.map_append] at h2
  refine wpList_plain hgd fun K hK => ?_
  unfold Oper.wp
  simp [execOp, ho, resolve, invoke, builtin, hs, hx, hrun, Result.andThen]
  exact hK _ _ (h v' w' h2 h3)

/-- A row's first texts. -/
def fewR (r : Rw) : Rw := ⟨r.A, min r.n 200, r.c, r.L.take (min r.n 200)⟩
def fwT (S : List Rw) (i : Nat) : List Rw := (S.take i).map fewR

set_option maxRecDepth 100000 in
set_option maxHeartbeats 8000000 in
theorem lsets_any {A : Option Addr} {n cp : Nat} {S : List Rw} (w : World) (h : TtAt w A n cp S) :
    Calls Try.prog 23 #[.slice A n cp] w fun e w' => ∃ A' k c' S', e = .returned (.slice A' k c') ∧ TtAt w' A' k c' S' ∧ k ≤ 8 ∧ Sml S' 200 ∧ Below w.heap.size w w' := by
  have HL := Lib.hid h
  have hle := h.le
  have hmx := h.max
  obtain ⟨M, hM⟩ : ∃ M, w.heap.size = M := ⟨_, rfl⟩
  have HM := Lib.hid hM
  rw [hM]
  clear h hM
  go_enter Try.func23, Try.ntmps23
  go_wp2_with fail
  go_loopw [3, 4] (fun ov iv wr => ∃ (i : Nat) (A' : Option Addr) (c' : Nat), ov = .slice A' i c' ∧ iv = .int .i64 i ∧ i ≤ n ∧ i ≤ 8 ∧ TtO wr M (.slice A' i c') i (fwT S i) ∧ Below M w wr) (fun _ iv _ => n - (intOf iv).toNat)
  case atStart => exact ⟨0, none, 0, rfl, rfl, Nat.zero_le _, Nat.zero_le _, ⟨rfl, Or.inl ⟨rfl, rfl⟩⟩, by unfold Hid at HM; rw [← HM]; exact Below.refl _ _⟩
  case round =>
    obtain ⟨i, A', c', rfl, rfl, hi, hi8, ht, hbw⟩ := hrel
    have HT := Lib.hid ht
    have HB := Lib.hid hbw
    by_cases hlt : i < n ∧ i < 8
    · obtain ⟨hl1, hl2⟩ := hlt
      obtain ⟨q, hq⟩ := HL.out.get hl1
      obtain ⟨b, o, rfl, hbl, hc⟩ := (HL.out.below (w' := wr) (by rw [HM.out]; exact hbw)).at_ (by omega)
      have c0 := hc i q hq
      have hl1' : (i : Int) < (n : Int) := by omega
      have hl2' : (i : Int) < 8 := by omega
      have HF := Lib.hid (few_any wr ((HL.out.row hq).below (w' := wr) (by rw [HM.out]; exact hbw)))
      have hmw : M ≤ wr.heap.size := by have q := hbw.size; have q2 := HM.out; omega
      have HE : Hid (fwT S (i + 1) = fwT S i ++ [fewR q]) := by
        unfold Hid fwT
        rw [List.take_add_one, hq, List.map_append]
        rfl
      have HRW : Hid (encRw (fewR q) = .slice q.A (min q.n 200) q.c) := rfl
      obtain ⟨FQ, hFQ⟩ : ∃ FQ, fewR q = FQ := ⟨_, rfl⟩
      rw [hFQ] at HE HRW
      obtain ⟨QA, hQA⟩ : ∃ QA, q.A = QA := ⟨_, rfl⟩
      obtain ⟨Qn, hQn⟩ : ∃ Qn, q.n = Qn := ⟨_, rfl⟩
      obtain ⟨Qc, hQc⟩ : ∃ Qc, q.c = Qc := ⟨_, rfl⟩
      rw [hQA, hQn, hQc] at c0 HF HRW
      obtain ⟨Qm, hQm⟩ : ∃ Qm, min Qn 200 = Qm := ⟨_, rfl⟩
      rw [hQm] at HF HRW
      have HW : Hid (TtO (wr.alloc (.cells #[.slice QA Qm Qc] 22)) M (.slice A' i c') i (fwT S i)) := World.ownsRow.alloc (w := wr) ht _
      have HONE : Hid ((wr.alloc (.cells #[.slice QA Qm Qc] 22)).cell? ⟨wr.heap.size, 0, none⟩ = some (encRw FQ)) := by
        unfold Hid
        rw [HRW.out]
        exact (World.rowIs_alloc wr #[.slice QA Qm Qc] 22 (fun _ => .slice QA Qm Qc) (fun i hi => by
          have hi : i < 1 := hi
          obtain rfl : i = 0 := by omega
          rfl)).cell (i := 0) Nat.one_pos
      have hzw : M ≤ (wr.alloc (.cells #[.slice QA Qm Qc] 22)).heap.size := by rw [World.size_alloc]; omega
      have HBA : Hid (Below M w (wr.alloc (.cells #[.slice QA Qm Qc] 22))) := hbw.alloc hmw _
      clear hc hq hFQ hQA hQn hQc hQm ht hbw
      go_wp2_with fail
      refine HF.out.mono ?_
      rintro e w2 ⟨rfl, hw2⟩
      rw [hw2]
      clear hw2
      go_wp2_with (at_builtin; refine wpList_append_tt rfl _ _ rfl M (.slice A' i c') i (fwT S i) rfl HW.out wr.heap.size FQ rfl HONE.out (by omega) hzw ?_)
      intro v5 w5 hown hgr
      obtain ⟨A5, c5, rfl⟩ := own_slice hown
      have HO5 : Hid (TtO w5 M (.slice A5 (i + 1) c5) (i + 1) (fwT S (i + 1))) := by unfold Hid; rw [HE.out]; exact hown
      have HB5 : Hid (Below M w w5) := HBA.out.grown hgr hzw (fun k e => (World.ownsRow.lt HW.out k e).1)
      clear hown hgr
      go_wp2
      go_roundw
      case rel => exact ⟨i + 1, A5, c5, rfl, by go_num, by omega, by omega, HO5.out, HB5.out⟩
      case measure => simp only [intOf]; omega
    · have HRS : Hid (∀ r ∈ fwT S i, TxAt wr r.A r.n r.c r.L ∧ r.n ≤ 200) := fun r hr => by
        unfold fwT at hr
        obtain ⟨q, hq, rfl⟩ := List.mem_map.1 hr
        have t := (HL.out.rows q (List.mem_of_mem_take hq)).below (w' := wr) (by rw [HM.out]; exact HB.out)
        exact ⟨t.first (Nat.min_le_left _ _), Nat.min_le_right _ _⟩
      have HTT := Lib.hid (tt_own HT.out (fun r hr => (HRS.out r hr).1))
      have HSM : Hid (Sml (fwT S i) 200) := fun r hr => (HRS.out r hr).2
      clear ht hbw
      rcases (by omega : (¬ i < n) ∨ (i < n ∧ i = 8)) with hge | ⟨hl1, hge⟩
      · have hge' : ¬ (i : Int) < (n : Int) := by omega
        clear hlt
        go_wp2
        go_ret
        exact ⟨A', i, c', rfl, _, HTT.out, hi8, HSM.out, HB.out⟩
      · have hl1' : (i : Int) < (n : Int) := by omega
        have hge' : ¬ (i : Int) < 8 := by omega
        clear hlt hge hl1
        go_wp2
        go_ret
        exact ⟨A', i, c', rfl, _, HTT.out, hi8, HSM.out, HB.out⟩

theorem ffX_len {w : World} {A : Option Addr} {n c : Nat} {S : List Rw} (h : TtAt w A n c S) (hs : Sml S 1000) (z : Int) : (ffX S z).length ≤ 1000 := by
  rcases S with _ | ⟨r, R⟩
  · simp [ffX]
  · simp only [ffX]
    split
    · have h1 := (h.rows r (List.mem_cons_self ..)).len
      have h2 := hs r (List.mem_cons_self ..)
      exact Nat.le_trans (List.length_filter_le _ _) (by omega)
    · simp

set_option maxRecDepth 100000 in
set_option maxHeartbeats 32000000 in
theorem many_any {A : Option Addr} {n cp : Nat} {S : List Rw} (w : World) (h : TtAt w A n cp S) :
    Calls Try.prog 5 #[.slice A n cp] w fun e w' => e = .returned (.bool true) ∧ Below w.heap.size w w' := by
  have HS := Lib.hid (lsets_any w h)
  obtain ⟨M, hM⟩ : ∃ M, w.heap.size = M := ⟨_, rfl⟩
  have HM := Lib.hid hM
  rw [hM] at HS ⊢
  clear h hM
  go_enter Try.func5, Try.ntmps5
  go_wp2_with fail
  refine HS.out.mono ?_
  rintro e w1 ⟨B, k, c, Z, rfl, h1, hk8, hs, hb1⟩
  have HB1 := Lib.hid hb1
  have HZ := Lib.hid h1
  have HK : Hid (k ≤ 20) := by unfold Hid; omega
  have HSM : Hid (Sml Z 1000) := fun r hr => Nat.le_trans (hs r hr) (by omega)
  have HUL := Lib.hid (unX_len h1 HK.out HSM.out)
  have HML := Lib.hid (ffX_len h1 HSM.out ((k : Int) - 1))
  have HLL := Lib.hid (ffX_len h1 HSM.out 0)
  obtain ⟨U, hU⟩ : ∃ U, unX Z = U := ⟨_, rfl⟩
  obtain ⟨V, hV⟩ : ∃ V, ffX Z ((k : Int) - 1) = V := ⟨_, rfl⟩
  obtain ⟨Y, hY⟩ : ∃ Y, ffX Z 0 = Y := ⟨_, rfl⟩
  obtain ⟨E, hE⟩ : ∃ E, ckA Z = E := ⟨_, rfl⟩
  rw [hU] at HUL
  rw [hV] at HML
  rw [hY] at HLL
  have EU := Lib.hid hU
  have EV := Lib.hid hV
  have EY := Lib.hid hY
  have EE := Lib.hid hE
  clear h1 hs hb1 hU hV hY hE hk8
  go_wp2_with fail
  refine (pUnion_any w1 HZ.out HK.out HSM.out).mono ?_
  rw [EU.out, EE.out]
  rintro e w2 ⟨A2, k2, c2, rfl, h2, hb2, _⟩
  have F2 := Lib.hid h2
  have HZ := Lib.hid (HZ.out.below hb2)
  have HB2 : Hid (Below M w w2) := HB1.out.trans (hb2.mono (by have := HB1.out.size; have := HM.out; omega))
  clear h2 hb2
  go_wp2_with fail
  refine (rUnion_any w2 HZ.out HK.out HSM.out).mono ?_
  rw [EU.out, EE.out]
  rintro e w3 ⟨A3, k3, c3, rfl, h3, hb3⟩
  obtain rfl : k2 = k3 := F2.out.len.symm.trans h3.len
  have F3 := Lib.hid h3
  have F2 := Lib.hid (F2.out.below hb3)
  have HZ := Lib.hid (HZ.out.below hb3)
  have HB3 : Hid (Below M w w3) := HB2.out.trans (hb3.mono (by have := HB2.out.size; have := HM.out; omega))
  clear h3 hb3
  go_wp2_with fail
  refine (pMeet_any w3 HZ.out HK.out HSM.out).mono ?_
  rw [EV.out, EE.out]
  rintro e w4 ⟨A4, k4, c4, rfl, h4, hb4⟩
  have F4 := Lib.hid h4
  have F2 := Lib.hid (F2.out.below hb4)
  have F3 := Lib.hid (F3.out.below hb4)
  have HZ := Lib.hid (HZ.out.below hb4)
  have HB4 : Hid (Below M w w4) := HB3.out.trans (hb4.mono (by have := HB3.out.size; have := HM.out; omega))
  clear h4 hb4
  go_wp2_with fail
  refine (rMeet_any w4 HZ.out HK.out HSM.out).mono ?_
  rw [EV.out, EE.out]
  rintro e w5 ⟨A5, k5, c5, rfl, h5, hb5⟩
  obtain rfl : k4 = k5 := F4.out.len.symm.trans h5.len
  have F5 := Lib.hid h5
  have F2 := Lib.hid (F2.out.below hb5)
  have F3 := Lib.hid (F3.out.below hb5)
  have F4 := Lib.hid (F4.out.below hb5)
  have HZ := Lib.hid (HZ.out.below hb5)
  have HB5 : Hid (Below M w w5) := HB4.out.trans (hb5.mono (by have := HB4.out.size; have := HM.out; omega))
  clear h5 hb5
  go_wp2_with fail
  refine (pLess_any w5 HZ.out HK.out HSM.out).mono ?_
  rw [EY.out, EE.out]
  rintro e w6 ⟨A6, k6, c6, rfl, h6, hb6⟩
  have F6 := Lib.hid h6
  have F2 := Lib.hid (F2.out.below hb6)
  have F3 := Lib.hid (F3.out.below hb6)
  have F4 := Lib.hid (F4.out.below hb6)
  have F5 := Lib.hid (F5.out.below hb6)
  have HZ := Lib.hid (HZ.out.below hb6)
  have HB6 : Hid (Below M w w6) := HB5.out.trans (hb6.mono (by have := HB5.out.size; have := HM.out; omega))
  clear h6 hb6
  go_wp2_with fail
  refine (rLess_any w6 HZ.out HK.out HSM.out).mono ?_
  rw [EY.out, EE.out]
  rintro e w7 ⟨A7, k7, c7, rfl, h7, hb7⟩
  obtain rfl : k6 = k7 := F6.out.len.symm.trans h7.len
  have F7 := Lib.hid h7
  have F2 := Lib.hid (F2.out.below hb7)
  have F3 := Lib.hid (F3.out.below hb7)
  have F4 := Lib.hid (F4.out.below hb7)
  have F5 := Lib.hid (F5.out.below hb7)
  have F6 := Lib.hid (F6.out.below hb7)
  have HB7 : Hid (Below M w w7) := HB6.out.trans (hb7.mono (by have := HB6.out.size; have := HM.out; omega))
  clear h7 hb7
  go_wp2_with fail
  refine (rsame_yes w7 F2.out F3.out (by have := HUL.out; have := F2.out.len; omega)).mono ?_
  rintro e w8 ⟨rfl, hb8⟩
  have F4 := Lib.hid (F4.out.below hb8)
  have F5 := Lib.hid (F5.out.below hb8)
  have F6 := Lib.hid (F6.out.below hb8)
  have F7 := Lib.hid (F7.out.below hb8)
  have HB8 : Hid (Below M w w8) := HB7.out.trans (hb8.mono (by have := HB7.out.size; have := HM.out; omega))
  clear hb8
  go_wp2_with fail
  refine (rsame_yes w8 F4.out F5.out (by have := HML.out; have := F4.out.len; omega)).mono ?_
  rintro e w9 ⟨rfl, hb9⟩
  have F6 := Lib.hid (F6.out.below hb9)
  have F7 := Lib.hid (F7.out.below hb9)
  have HB9 : Hid (Below M w w9) := HB8.out.trans (hb9.mono (by have := HB8.out.size; have := HM.out; omega))
  clear hb9
  go_wp2_with fail
  refine (rsame_yes w9 F6.out F7.out (by have := HLL.out; have := F6.out.len; omega)).mono ?_
  rintro e w10 ⟨rfl, hb10⟩
  have HB10 : Hid (Below M w w10) := HB9.out.trans (hb10.mono (by have := HB9.out.size; have := HM.out; omega))
  clear hb10
  go_wp2_with fail
  refine (awake_any w10).mono ?_
  rintro e w11 ⟨rfl, hb11⟩
  have HB11 : Hid (Below M w w11) := HB10.out.trans (hb11.mono (by have := HB10.out.size; have := HM.out; omega))
  clear hb11
  go_wp2
  go_ret
  exact ⟨rfl, HB11.out⟩

end Go.Proofs.Ytkobhlhkkpnmkaa
