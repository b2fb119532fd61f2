/-
  The walk of package resp's Split. Conditions: the bytes lie in memory as a slice that reads as them, at most 2^40 of them.
-/
import Derived.Test.YtkaododohnncnaaDoorRpH
namespace Go.Proofs.YtkaododohnncnaaDoor
open Go.RowKit
attribute [local go_sem] Oper.semAt_some

set_option maxRecDepth 100000 in
set_option maxHeartbeats 4000000 in
theorem psplit_any (b o cap : Nat) (l : List UInt8) (w : World) (hl : l.length ≤ cap) (hcap : cap ≤ 9223372036854775807) (hbig : l.length ≤ 1099511627776) (hb : b < w.heap.size) (hc : BytesAt w b o l) :
    Calls Tryd.prog 13 #[.slice (some ⟨b, o, none⟩) l.length cap] w (SplitPost w (splitS l)) := by
  have HC := Lib.hid hc
  clear hc
  have hmf : ∀ (fn : Fn) (first cap : Array Value) (w : World), (Instr.makeFunc fn first cap).run Tryd.prog w = .ok (.func fn first cap) w := fun _ _ _ _ => rfl
  refine (callsIn_wide (n := 9)).1 ?_
  refine callsIn_of_wp_marks Tryd.func13 rfl trivial ?_
  refine wpIn_wide.2 ?_
  simp only [Tryd.ntmps13, List.size_toArray, List.length_cons, List.length_nil, Nat.reduceAdd, Nat.reduceSub, Array.replicate_succ, Array.replicate_zero, List.push_toArray, List.append_toArray, List.nil_append, List.cons_append]
  go_wp2_with (go_at_call 36; refine (prequests_any _ _).mono ?_; rintro e w' ⟨rfl, rfl⟩)
  obtain ⟨H, hH⟩ : ∃ H, w.heap.size = H := ⟨_, rfl⟩
  rw [hH] at hb ⊢
  simp only [Nat.add_assoc, Nat.reduceAdd]
  obtain ⟨os, hos⟩ : ∃ os : List Obj, os = [.cells #[.slice (some ⟨b, o, none⟩) l.length cap] 23, .cells #[.slice none 0 0] 29, .cells #[.int .i64 0] 3, .cells #[.string ⟨#[]⟩] 9, .cells #[.slice (some ⟨b, o, none⟩) l.length cap, .slice none 0 0] 69, .cells #[.pointer (some ⟨H + 4, 0, none⟩)] 93] := ⟨_, rfl⟩
  have hWz := allocs_size os w
  have hWb := allocs_below os w
  have hWh := allocs_heap os w
  rw [hH] at hWz hWb hWh
  have hol : os.length = 6 := by rw [hos]; rfl
  obtain ⟨W, hW⟩ : ∃ W, os.foldl World.alloc w = W := ⟨_, rfl⟩
  rw [hW, hol] at hWz
  rw [hW] at hWb hWh
  have h0 := hWh 0 (by omega)
  have h1 := hWh 1 (by omega)
  have h2 := hWh 2 (by omega)
  have h3 := hWh 3 (by omega)
  have h4 := hWh 4 (by omega)
  have h5 := hWh 5 (by omega)
  rw [hos] at h0 h1 h2 h3 h4 h5 hW
  simp only [List.foldl_cons, List.foldl_nil] at hW
  rw [hW]
  simp only [List.getElem?_cons_zero, List.getElem?_cons_succ, Nat.add_zero] at h0 h1 h2 h3 h4 h5
  refine range_on (n := 8) (gf := 50) (lb := #[.pointer (some ⟨H + 5, 0, none⟩)]) rfl (enters_of Tryd.func50 (by kernel_rfl) rfl) ?_
  rw [hWz]
  intro rec W1 hrec hz1 hb1 hD hL hY
  have hbw : Below H w W1 := hWb.trans (hb1.mono (by omega))
  have hk : ∀ q, q < H + 6 → W1.heap[q]? = W.heap[q]? := hb1.block
  have g0 := (hk H (by omega)).trans h0
  have g1 := (hk (H + 1) (by omega)).trans h1
  have g2 := (hk (H + 2) (by omega)).trans h2
  have g3 := (hk (H + 3) (by omega)).trans h3
  have g4 := (hk (H + 4) (by omega)).trans h4
  have g5 := (hk (H + 5) (by omega)).trans h5
  have hc1 : BytesAt W1 b o l := HC.out.below hbw hb
  have HK : SpK w H (.slice (some ⟨b, o, none⟩) l.length cap) (rec .ready) 0 [] (.slice none 0 0) W1 := {
    below := hbw
    size := by omega
    loop := hL
    defs := hD
    cb := (cell_in g0).trans rfl
    cl := (cell_in g1).trans rfl
    fl := mark_in g1
    cn := (cell_in g2).trans rfl
    fn := mark_in g2
    ct := (cell_in g3).trans rfl
    ft := mark_in g3
    cp := (cell_in g5).trans rfl
    req := ⟨[], rfl, ⟨rfl, .inl ⟨rfl, rfl⟩⟩, fun i u r hu => by cases hu⟩ }
  have HR : RIn W1 (H + 4) b l (.slice (some ⟨b, o, none⟩) l.length cap) (.slice none 0 0) 0 [] := {
    lo := by omega
    lt := by omega
    c0 := (cell_in g4).trans rfl
    left := ⟨o, cap, rfl, hl, hcap, hc1⟩
    c1 := (cell_in g4).trans rfl
    f0 := mark_in g4
    f1 := mark_in g4
    own := ⟨rfl, .inl ⟨rfl, rfl⟩⟩ }
  have HKK := Lib.hid HK
  have HRR := Lib.hid HR
  clear HK HR g0 g1 g2 g3 g4 g5 h0 h1 h2 h3 h4 h5 hk hW hWh hWz hb1 hD hL hc1 hos hol hz1 hWb
  have HIT : CallsIn Fence.wide 8 Tryd.prog 50 (#[.func (.yield (H + 7)) #[] #[]] ++ #[.pointer (some ⟨H + 5, 0, none⟩)]) W1 fun e W2 =>
      (∃ x, e = .returned x ∧ ∃ n acc vl, SpK w H (.slice (some ⟨b, o, none⟩) l.length cap) (rec .ready) n acc vl W2 ∧ splitS l = (acc, n, [])) ∨ (∃ f, Thrown f e ∧ ∃ n acc vl, SpK w H (.slice (some ⟨b, o, none⟩) l.length cap) (rec .ready) n acc vl W2 ∧ splitS l = (acc, n, f)) := by
    obtain ⟨i0, hi, hy0, hy1, hy2⟩ := info_parts info_sl
    refine callsIn_of_wp Tryd.func50 rfl trivial ?_ rfl
    simp only [Tryd.ntmps50, List.size_toArray, List.length_cons, List.length_nil, Nat.reduceAdd, Nat.reduceSub, Array.replicate_succ, Array.replicate_zero, List.push_toArray, List.append_toArray, List.nil_append, List.cons_append]
    gi_wp2
    gi_loopw [] (fun wr => ∃ (n f : Nat) (acc : List (List (List UInt8))) (vl v tv : Value) (k : Nat) (vs : List Value), SpK w H (.slice (some ⟨b, o, none⟩) l.length cap) (rec .ready) n acc vl wr ∧ RIn wr (H + 4) b (l.drop n) v tv k vs ∧ (∀ i, tv.ownBlock = some i → H + 8 ≤ i) ∧ n ≤ l.length ∧ l.length < f + n ∧ acc.length ≤ n ∧ Hid (splitGo f l n acc = splitS l)) (fun wr => lenAt wr ⟨H + 4, 0, none⟩)
    case atStart => exact ⟨0, l.length + 1, [], _, _, _, _, _, HKK.out, by rw [List.drop_zero]; exact HRR.out, (fun i hi => by cases hi), by omega, by omega, by simp, rfl⟩
    case round =>
      obtain ⟨n, f, acc, vl, v, tv, k, vs, hK, hR, htb, hn, hf, han, HG⟩ := hrel
      obtain ⟨f, rfl⟩ : ∃ g, f = g + 1 := ⟨f - 1, by omega⟩
      have HKr := Lib.hid hK
      have HRr := Lib.hid hR
      have hcp := hK.cp
      have HLEN : Hid (lenAt wr ⟨H + 4, 0, none⟩ = l.length - n) := by
        obtain ⟨o', cap', rfl, _⟩ := hR.left
        exact (lenAt_slice hR.c0).trans List.length_drop
      have HRQ := Lib.hid (prequest_any (H + 4) b (l.drop n) v tv k vs wr hR)
      clear hK hR
      gi_wp2_with fail
      refine ⟨trivial, (callsIn_wide.2 HRQ.out).mono ?_⟩
      rintro e w1 hpost
      cases hR1 : firstS (l.drop n) with
      | none =>
        rw [hR1] at hpost
        obtain ⟨rfl, hm⟩ := hpost
        have HE : Hid (splitS l = (acc, n, [])) := by unfold Hid; rw [← HG.out]; exact splitGo_none f l n acc hR1
        have HK1 := Lib.hid (HKr.out.mod HRr.out.own hm htb)
        have hcp1 := HK1.out.cp
        clear HG hR1 hm
        gi_wp2
        refine ⟨trivial, ?_⟩
        gi_wp2
        refine ⟨fun _ h => (by cases h), ?_⟩
        gi_wp2
        go_end0
        exact Or.inl ⟨_, rfl, n, acc, vl, HK1.out, HE.out⟩
      | some x =>
        rcases x with f1 | ⟨ws, j⟩
        · rw [hR1] at hpost
          obtain ⟨rfl, hm⟩ := hpost
          have HE : Hid (splitS l = (acc, n, f1)) := by unfold Hid; rw [← HG.out]; exact splitGo_inl f l n acc f1 hR1
          have HK1 := Lib.hid (HKr.out.mod HRr.out.own hm htb)
          clear HG hR1 hm
          gi_wp2
          exact ⟨rfl, Or.inr ⟨f1, rfl, n, acc, vl, HK1.out, HE.out⟩⟩
        · obtain ⟨k1, k2⟩ := firstS_inr hR1
          rw [List.length_drop] at k2
          have HE : Hid (splitGo f l (n + j) (if ws = [] then acc else acc ++ [ws]) = splitS l) := by unfold Hid; rw [← HG.out]; exact (splitGo_inr f l n acc ws j hR1).symm
          rw [hR1] at hpost
          obtain ⟨rfl, v1, tv1, vs1, hst⟩ := hpost
          rw [List.drop_drop] at hst
          have HK1 := Lib.hid (HKr.out.mod HRr.out.own hst.mod htb)
          have HR1 := Lib.hid (RIn.of_st hst)
          have htb1 : ∀ i, tv1.ownBlock = some i → H + 8 ≤ i := fun i hi => by
            rcases hst.tbk i hi with h | h
            · exact htb i h
            · have := HKr.out.size; omega
          have HTX := Lib.hid hst.texts
          have hcp1 := HK1.out.cp
          have hz1 := HK1.out.size
          have hR1' := hR1
          clear HG hR1
          have hws : ws.length ≤ 1000000 := Nat.le_trans (firstS_len hR1') (by omega)
          have HCP := Lib.hid (pcopied_any (H + 4) ws tv1 vs1 w1 (by omega) HR1.out.c1 HR1.out.own HTX.out hws)
          clear hst
          gi_wp2_with fail
          refine ⟨trivial, (callsIn_wide.2 HCP.out).mono ?_⟩
          rintro e w2 ⟨u, rfl, hu, hb2⟩
          have HK2 := Lib.hid (HK1.out.on hb2)
          have HR2 := Lib.hid (HR1.out.keep (w1 := w2) hb2.size (fun q hq _ => hb2.block q hq))
          obtain ⟨Au, cu, rfl⟩ := ownsRow_form hu
          have hloop := HK2.out.loop
          obtain ⟨ACC, hACC⟩ : ∃ ACC, (if ws = [] then acc else acc ++ [ws]) = ACC := ⟨_, rfl⟩
          rw [hACC] at HE
          have HACC := Lib.hid hACC
          have hAn : ACC.length ≤ n + j := by rw [← hACC]; split <;> (try rw [List.length_append]) <;> (try simp only [List.length_singleton]) <;> omega
          clear hACC
          have HYY : YieldAt Fence.wide 7 Tryd.prog (H + 7) #[.slice Au ws.length cu] w2 (fun e W' => e = .returned (.bool true) ∧ ∃ vl', SpK w H (.slice (some ⟨b, o, none⟩) l.length cap) (rec .ready) (n + j) ACC vl' W' ∧ RIn W' (H + 4) b (l.drop (n + j)) v1 tv1 ws.length vs1) := by
            apply hY 7 #[.slice Au ws.length cu] w2 _ _ rfl hloop
            · intro K hK
              gi_wp2
              exact hK
            · have HK3 := Lib.hid (HK2.out.put (rec .busy))
              have HR3 := Lib.hid (HR2.out.keep (w1 := w2.putObj (H + 7) (.loop (rec .busy))) (by simp) (fun q hq hx => World.putObj_heap_other (by
                rcases hx with rfl | rfl | hx
                · omega
                · omega
                · have := htb1 q hx; omega)))
              have hu3 := own_grown hu (grownBy_putObj' w2 (H + 7) (.loop (rec .busy))) (by omega)
              obtain ⟨w3, hw3⟩ : ∃ w3, w2.putObj (H + 7) (.loop (rec .busy)) = w3 := ⟨_, rfl⟩
              rw [hw3] at HK3 HR3 hu3 ⊢
              have HU3 := Lib.hid hu3
              have hcb := HK3.out.cb
              have hcl := HK3.out.cl
              have hfl := HK3.out.fl
              have hcn := HK3.out.cn
              have hfn := HK3.out.fn
              have hc0 := HR3.out.c0
              have hz3 := HK3.out.size
              obtain ⟨o1, cap1, e1, _⟩ := HR3.out.left
              obtain ⟨m, hm⟩ : ∃ m, (l.drop (n + j)).length = m := ⟨_, rfl⟩
              rw [e1, hm] at hc0
              rw [List.length_drop] at hm
              have hsub : (l.length : Int) - (m : Int) = ((n + j : Nat) : Int) := by omega
              have hsub2 : (l.length : Int) - (m : Int) = (n : Int) + (j : Int) := by omega
              obtain ⟨Al, cl', rfl⟩ : ∃ A c, vl = .slice A acc.length c := by
                obtain ⟨xs, _, h2, _⟩ := HK3.out.req
                exact ownsRow_form h2
              have e2 : ((n + j : Nat) : Int) = (n : Int) + (j : Int) := by omega
              have HK4 := HK3.out.setn (n + j)
              rw [e2] at HK4
              have HKK4 := Lib.hid HK4
              have HR4 := Lib.hid (HR3.out.keep (w1 := w3.setCell ⟨H + 2, 0, none⟩ (.int .i64 ((n : Int) + (j : Int)))) (by simp [World.setCell]) (fun q hq hx => Below.heap_setCell _ _ _ _ (by
                show q ≠ H + 2
                rcases hx with rfl | rfl | hx
                · omega
                · omega
                · have := htb1 q hx; omega)))
              by_cases hw0 : ws = []
              · subst hw0
                clear hw3 hu3 hu e1 hm HK4
                have HA : Hid (ACC = acc) := by unfold Hid; rw [← HACC.out, if_pos rfl]
                gi_wp2
                rw [HA.out]
                refine ⟨HKK4.out.loop, ⟨_, HKK4.out.put (rec .ready)⟩, HR4.out.keep (by simp) (fun q hq hx => World.putObj_heap_other (by
                  rcases hx with rfl | rfl | hx
                  · omega
                  · omega
                  · have := htb1 q hx; omega))⟩
              · have hwl : 0 < ws.length := List.length_pos_iff.2 hw0
                have hacc : acc.length + 1 ≤ 1099511627777 := by omega
                obtain ⟨xs, x1, x2, x3⟩ := HK4.req
                have X1 := Lib.hid x1
                have X2 := Lib.hid x2
                have X3 := Lib.hid x3
                have HN0 : Hid (ACC = acc ++ [ws]) := by unfold Hid; rw [← HACC.out, if_neg hw0]
                have hu4 := own_grown HU3.out (Put.set w3 (p := ⟨H + 2, 0, none⟩) (.int .i64 ((n : Int) + (j : Int))) (by show H + 2 < _; omega)).grown (by show H + 2 < _; omega)
                have HU4 := Lib.hid (ownsRow_base hu4 (base' := H + 8) (by omega))
                clear hw3 hu3 hu e1 hm HK4 x1 x3 hw0 hu4
                gi_wp2_with (gi_at_builtin; refine wpListIn_append_own _ rfl _ _ 29 rfl (H + 8) 22 i0 (.slice none 0 0) 1 24 Tryd.underlying29 hi hy0 hy1 hy2 rfl (by decide) _ _ _ rfl (x2.alloc _) ⟨w3.heap.size, 0, none⟩ 1 1 [.slice Au ws.length cu] rfl rfl ?c1y ?c2y ?c3y ?c4y ?c5y ?_)
                case c1y =>
                  intro j u hj
                  cases j with
                  | zero =>
                    simp at hj
                    subst hj
                    have hnew := World.alloc_heap_new (w3.setCell ⟨H + 2, 0, none⟩ (.int .i64 ((n : Int) + (j : Int)))) (.cells #[.slice Au ws.length cu] 22)
                    rw [show (w3.setCell ⟨H + 2, 0, none⟩ (.int .i64 ((n : Int) + (j : Int)))).heap.size = w3.heap.size from by simp [World.setCell]] at hnew
                    exact (cell_in hnew).trans rfl
                  | succ j => simp at hj
                case c2y => intro u hu; simp at hu; subst hu; rfl
                case c3y => unfold maxLen; omega
                case c4y => omega
                case c5y => simp; omega
                intro vl' w5 hown5 hgr5 _
                obtain ⟨A5, c5, rfl⟩ := ownsRow_form hown5
                have hal := Lib.hid (HKK4.out.on ((Below.refl _ _).alloc (Nat.le_refl _) (.cells #[.slice Au ws.length cu] 22)))
                have hlb : ∀ i, (Value.slice Al acc.length cl').ownBlock = some i → H + 8 ≤ i := fun i hi => (own_lt X2.out hi).1
                have hb5 := hgr5.block (H + 1) (by have := hal.out.size; omega) (fun e => by have := hlb _ e.symm; omega)
                have hcl5 := (World.cell?_of_block (a := ⟨H + 1, 0, none⟩) hb5).trans hal.out.cl
                have hfl5 := (World.frozen?_of_block (a := ⟨H + 1, 0, none⟩) hb5).trans hal.out.fl
                have hz5 := hgr5.size
                have HREQ := Lib.hid (OwnsReqs.more X1.out (fun i u r hu hr => (X3.out i u r hu hr).alloc _) (x2.alloc _) (HU4.out.alloc _) hown5 hgr5)
                have HFIN := Lib.hid (hal.out.setl hgr5 hlb HREQ.out)
                have HR5 := Lib.hid (HR4.out.keep (w1 := (w5.setCell ⟨H + 1, 0, none⟩ (.slice A5 (acc.length + 1) c5)).putObj (H + 7) (.loop (rec .ready))) (by
                  have := hal.out.size
                  simp [World.setCell] at hz5 ⊢
                  omega) (fun q hq hx => by
                  have hq8 : q ≠ H + 7 ∧ q ≠ H + 1 ∧ some q ≠ (Value.slice Al acc.length cl').ownBlock := by
                    rcases hx with rfl | rfl | hx
                    · exact ⟨by omega, by omega, fun e => by have := hlb _ e.symm; omega⟩
                    · exact ⟨by omega, by omega, fun e => by have := hlb _ e.symm; omega⟩
                    · refine ⟨by have := htb1 q hx; omega, by have := htb1 q hx; omega, fun e => ?_⟩
                      rcases own_ne X2.out HR4.out.own (by decide) with h | h
                      · rw [h] at e; cases e
                      · exact h (by rw [← e, hx])
                  rw [World.putObj_heap_other hq8.1, Below.heap_setCell _ _ _ _ (by show q ≠ H + 1; exact hq8.2.1), hgr5.block q (by rw [World.size_alloc]; omega) hq8.2.2, Below.heap_alloc _ _ _ hq]))
                clear hgr5 hown5 hb5 x2
                have HPUT := Lib.hid (HFIN.out.put (rec .ready))
                gi_wp2
                rw [HN0.out]
                exact ⟨HFIN.out.loop, ⟨_, HPUT.out⟩, HR5.out⟩
          obtain ⟨fnY, tmpsY, asY, bodyY, hy, hRY⟩ := HYY
          gi_wp2
          refine hRY.mono ?_
          rintro e w3 ⟨rfl, vl', hk3, hr3⟩
          have hcp3 := hk3.cp
          have HK3 := Lib.hid hk3
          have HR3 := Lib.hid hr3
          clear hk3 hr3 hy hRY
          gi_wp2
          go_roundw
          case rel => exact ⟨n + j, f, _, vl', v1, tv1, ws.length, vs1, HK3.out, HR3.out, htb1, by omega, by omega, hAn, HE.out⟩
          case measure =>
            obtain ⟨o', cap', rfl, _⟩ := HR3.out.left
            rw [HLEN.out, lenAt_slice HR3.out.c0, List.length_drop]; omega
  have HIT' := Lib.hid HIT
  have eg : ∀ (args : Array Value) (w : World), (callFunc 34 args).run Tryd.prog w = .ok (.enter 34 args) w := enters_of Tryd.func34 (by kernel_rfl) rfl
  have HEG := Lib.hid eg
  clear HIT eg HKK HRR hY hrec
  refine HIT'.out.mono ?_
  rintro e W2 (⟨x, rfl, n, acc, vl, hK, hS⟩ | ⟨f, rfl, n, acc, vl, hK, hS⟩)
  · refine Or.inl ⟨x, rfl, hK.loop, ?_⟩
    have HK := Lib.hid (hK.put (rec .exhausted))
    obtain ⟨W3, hW3⟩ : ∃ W3, W2.putObj (H + 7) (.loop (rec .exhausted)) = W3 := ⟨_, rfl⟩
    have hW3' : W2.putObj (H + 6 + 1) (.loop (rec .exhausted)) = W3 := hW3
    rw [hW3] at HK
    rw [hW3']
    have hcl := HK.out.cl
    have hfl := HK.out.fl
    have hcn := HK.out.cn
    have hfn := HK.out.fn
    have hct := HK.out.ct
    have hft := HK.out.ft
    have HS := Lib.hid hS
    obtain ⟨Al, cl', rfl⟩ : ∃ A c, vl = .slice A acc.length c := by
      obtain ⟨xs, _, h2, _⟩ := HK.out.req
      exact ownsRow_form h2
    clear hK hS hW3 hW3'
    go_wp2
    go_region
    all_goals go_wp2
    all_goals
      obtain ⟨W4, hW4⟩ : ∃ W4, (((W3.setCell ⟨H + 1, 0, none⟩ (.slice Al acc.length cl')).setCell ⟨H + 2, 0, none⟩ (.int .i64 n)).setCell ⟨H + 3, 0, none⟩ (.string ⟨#[]⟩)).drew = W4 := ⟨_, rfl⟩
      rw [hW4]
      have hz3 := HK.out.size
      have p1 := Put.set W3 (p := ⟨H + 1, 0, none⟩) (.slice Al acc.length cl') (by show H + 1 < _; omega)
      have p2 := Put.set (W3.setCell ⟨H + 1, 0, none⟩ (.slice Al acc.length cl')) (p := ⟨H + 2, 0, none⟩) (.int .i64 n) (by show H + 2 < _; have := p1.size; omega)
      have p3 := Put.set ((W3.setCell ⟨H + 1, 0, none⟩ (.slice Al acc.length cl')).setCell ⟨H + 2, 0, none⟩ (.int .i64 n)) (p := ⟨H + 3, 0, none⟩) (.string ⟨#[]⟩) (by show H + 3 < _; have := p1.size; have := p2.size; omega)
      have s1 := p1.size
      have s2 := p2.size
      have s3 := p3.size
      have hd4 : W4.heap[H + 6]? = some (.deferred (some [])) := by
        rw [← hW4]
        exact (p3.other _ (by omega) (by show H + 6 ≠ H + 3; omega)).trans ((p2.other _ (by omega) (by show H + 6 ≠ H + 2; omega)).trans ((p1.other _ (by omega) (by show H + 6 ≠ H + 1; omega)).trans HK.out.defs))
      have hcl4 : W4.cell? ⟨H + 1, 0, none⟩ = some (.slice Al acc.length cl') := by
        rw [← hW4]
        exact (p3.cells.1 (H + 1) 0 (by omega) (by show H + 1 ≠ H + 3; omega)).trans ((p2.cells.1 (H + 1) 0 (by omega) (by show H + 1 ≠ H + 2; omega)).trans (p1.cell hcl))
      have hcn4 : W4.cell? ⟨H + 2, 0, none⟩ = some (.int .i64 n) := by
        rw [← hW4]
        exact (p3.cells.1 (H + 2) 0 (by omega) (by show H + 2 ≠ H + 3; omega)).trans (p2.cell ((p1.cells.1 (H + 2) 0 (by omega) (by show H + 2 ≠ H + 1; omega)).trans hcn))
      have hct4 : W4.cell? ⟨H + 3, 0, none⟩ = some (.string ⟨#[]⟩) := by
        rw [← hW4]
        exact p3.cell ((p2.cells.1 (H + 3) 0 (by omega) (by show H + 3 ≠ H + 2; omega)).trans ((p1.cells.1 (H + 3) 0 (by omega) (by show H + 3 ≠ H + 1; omega)).trans hct))
      have hft4 : W4.frozen? ⟨H + 3, 0, none⟩ = false := by
        rw [← hW4]
        exact (p3.cells.2 (H + 3) 0 (by omega)).trans ((p2.cells.2 (H + 3) 0 (by omega)).trans ((p1.cells.2 (H + 3) 0 (by omega)).trans hft))
      have hz4 : H + 8 ≤ W4.heap.size := by
        rw [← hW4]
        show H + 8 ≤ (((W3.setCell ⟨H + 1, 0, none⟩ (.slice Al acc.length cl')).setCell ⟨H + 2, 0, none⟩ (.int .i64 n)).setCell ⟨H + 3, 0, none⟩ (.string ⟨#[]⟩)).heap.size
        omega
      have hb4 : Below H w W4 := by
        rw [← hW4]
        exact (((HK.out.below.setCell (p := ⟨H + 1, 0, none⟩) (by show H ≤ H + 1; omega) _).setCell (p := ⟨H + 2, 0, none⟩) (by show H ≤ H + 2; omega) _).setCell (p := ⟨H + 3, 0, none⟩) (by show H ≤ H + 3; omega) _).drew
      have hr4 : OwnsReqs W4 (H + 8) (.slice Al acc.length cl') acc := by
        rw [← hW4]
        exact (((HK.out.req.grown p1.grown (by show H + 1 < H + 8; omega)).grown p2.grown (by show H + 2 < H + 8; omega)).grown p3.grown (by show H + 3 < H + 8; omega)).below (Below.refl _ _).drew
      clear hW4 p1 p2 p3 s1 s2 s3
      refine ⟨by simp, .inl ⟨H + 6, _, rfl, run_takeDeferred hd4, ?_⟩⟩
      refine ⟨by simp, .inr ⟨fun _ => by omega, .func 34, #[.pointer (some ⟨H + 3, 0, none⟩)], 34, #[.pointer (some ⟨H + 3, 0, none⟩)], rfl, by simp [invoke, go_sem, HEG.out], fun _ _ => trivial, ?_⟩⟩
      have hoth : ∀ q, q ≠ H + 6 → (W4.putObj (H + 6) (.deferred none)).heap[q]? = W4.heap[q]? := fun q h => World.putObj_heap_other h
      have hct := (World.cell?_of_block (a := ⟨H + 3, 0, none⟩) (hoth (H + 3) (by omega))).trans hct4
      have hft := (World.frozen?_of_block (a := ⟨H + 3, 0, none⟩) (hoth (H + 3) (by omega))).trans hft4
      have hclx := (World.cell?_of_block (a := ⟨H + 1, 0, none⟩) (hoth (H + 1) (by omega))).trans hcl4
      have hcnx := (World.cell?_of_block (a := ⟨H + 2, 0, none⟩) (hoth (H + 2) (by omega))).trans hcn4
      have hreqx := hr4.grown (grownBy_putObj' W4 (H + 6) (.deferred none)) (by omega)
      have hbx := hb4.grown (grownBy_putObj' W4 (H + 6) (.deferred none)) (by omega) (fun k e => by injection e; omega)
      refine (pdeferred_ret 8 (H + 3) _ _ hct hft).mono ?_
      rintro e u' w' ⟨rfl, rfl, rfl⟩
      have hz8 : H + 8 ≤ (W4.putObj (H + 6) (.deferred none)).heap.size := by rw [World.putObj_size]; exact hz4
      have hkT := Put.set (W4.putObj (H + 6) (.deferred none)) (p := ⟨H + 3, 0, none⟩) (.string ⟨#[]⟩) (by show H + 3 < _; omega)
      have e1 := (hkT.cells.1 (H + 1) 0 (by omega) (by show H + 1 ≠ H + 3; omega)).trans hclx
      have e2 := (hkT.cells.1 (H + 2) 0 (by omega) (by show H + 2 ≠ H + 3; omega)).trans hcnx
      have e3 := hkT.cell hct
      have hreq := hreqx.grown hkT.grown (by show H + 3 < H + 8; omega)
      have hbel := hbx.setCell (p := ⟨H + 3, 0, none⟩) (by show H ≤ H + 3; omega) (.string ⟨#[]⟩)
      obtain ⟨w9, hw9⟩ : ∃ w9, (W4.putObj (H + 6) (.deferred none)).setCell ⟨H + 3, 0, none⟩ (.string ⟨#[]⟩) = w9 := ⟨_, rfl⟩
      rw [hw9] at e1 e2 e3 hreq hbel ⊢
      clear hw9
      simp only [LeavesInM, LeavesIn, settle]
      refine ⟨.tuple #[.slice Al acc.length cl', .int .i64 n, .string ⟨#[]⟩], by simp [results, Tryd.results13, go_sem, e1, e2, e3], ?_⟩
      rw [HS.out]
      exact ⟨by rw [hH]; exact hbel, _, rfl, by rw [hH]; exact hreq.base (by omega)⟩
  · refine Or.inr ⟨_, rfl, ?_⟩
    have HS := Lib.hid hS
    have HK := Lib.hid hK
    refine ⟨by simp, .inl ⟨H + 6, _, rfl, run_takeDeferred hK.defs, ?_⟩⟩
    refine ⟨by simp, .inr ⟨fun _ => by omega, .func 34, #[.pointer (some ⟨H + 3, 0, none⟩)], 34, #[.pointer (some ⟨H + 3, 0, none⟩)], rfl, by simp [invoke, go_sem, HEG.out], fun _ _ => trivial, ?_⟩⟩
    have hoth : ∀ q, q ≠ H + 6 → (W2.putObj (H + 6) (.deferred none)).heap[q]? = W2.heap[q]? := fun q h => World.putObj_heap_other h
    have hct := (World.cell?_of_block (a := ⟨H + 3, 0, none⟩) (hoth (H + 3) (by omega))).trans hK.ct
    have hft := (World.frozen?_of_block (a := ⟨H + 3, 0, none⟩) (hoth (H + 3) (by omega))).trans hK.ft
    refine (pdeferred_panic 8 (H + 3) _ f _ hct hft).mono ?_
    rintro e u' w' ⟨rfl, rfl, rfl⟩
    have hclx := (World.cell?_of_block (a := ⟨H + 1, 0, none⟩) (hoth (H + 1) (by omega))).trans hK.cl
    have hcnx := (World.cell?_of_block (a := ⟨H + 2, 0, none⟩) (hoth (H + 2) (by omega))).trans hK.cn
    have hreqx := hK.req.grown (grownBy_putObj' W2 (H + 6) (.deferred none)) (by omega)
    have hbx := hK.below.grown (grownBy_putObj' W2 (H + 6) (.deferred none)) (by have := hK.size; omega) (fun k e => by injection e; omega)
    have hz8 : H + 8 ≤ (W2.putObj (H + 6) (.deferred none)).heap.size := by rw [World.putObj_size]; exact hK.size
    have hkT := Put.set (W2.putObj (H + 6) (.deferred none)) (p := ⟨H + 3, 0, none⟩) (.string ⟨f.toArray⟩) (by show H + 3 < _; omega)
    have e1 := (hkT.cells.1 (H + 1) 0 (by omega) (by show H + 1 ≠ H + 3; omega)).trans hclx
    have e2 := (hkT.cells.1 (H + 2) 0 (by omega) (by show H + 2 ≠ H + 3; omega)).trans hcnx
    have e3 := hkT.cell hct
    have hreq := hreqx.grown hkT.grown (by show H + 3 < H + 8; omega)
    have hbel := hbx.setCell (p := ⟨H + 3, 0, none⟩) (by show H ≤ H + 3; omega) (.string ⟨f.toArray⟩)
    obtain ⟨w9, hw9⟩ : ∃ w9, (W2.putObj (H + 6) (.deferred none)).setCell ⟨H + 3, 0, none⟩ (.string ⟨f.toArray⟩) = w9 := ⟨_, rfl⟩
    rw [hw9] at e1 e2 e3 hreq hbel ⊢
    clear hw9
    simp only [LeavesInM, LeavesIn, settle, List.dropWhile_nil]
    refine ⟨.tuple #[vl, .int .i64 n, .string ⟨f.toArray⟩], by simp [results, Tryd.results13, go_sem, e1, e2, e3], ?_⟩
    rw [HS.out]
    exact ⟨by rw [hH]; exact hbel, _, rfl, by rw [hH]; exact hreq.base (by omega)⟩

end Go.Proofs.YtkaododohnncnaaDoor
