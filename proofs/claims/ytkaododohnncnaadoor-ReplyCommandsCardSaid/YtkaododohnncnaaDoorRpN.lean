/-
  The walk of package resp's Split at no bytes. No condition.
-/
import Derived.Test.YtkaododohnncnaaDoorRpH
namespace Go.Proofs.YtkaododohnncnaaDoor
open Go.RowKit
attribute [local go_sem] Oper.semAt_some

set_option maxRecDepth 100000 in
set_option maxHeartbeats 4000000 in
theorem prequest_nil (B : Nat) (A : Option Addr) (cap : Nat) (w : World) (hc0 : w.cell? ⟨B, 0, none⟩ = some (.slice A 0 cap)) (hc1 : w.cell? ⟨B, 1, none⟩ = some (.slice none 0 0)) (hf1 : w.frozen? ⟨B, 1, none⟩ = false) :
    Calls Tryd.prog 51 #[.pointer (some ⟨B, 0, none⟩)] w fun e w' => e = .returned (.bool false) ∧ w' = w.setCell ⟨B, 1, none⟩ (.slice none 0 0) := by
  go_enter Tryd.func51, Tryd.ntmps51
  go_wp2
  go_ret
  exact ⟨rfl, rfl⟩

set_option maxRecDepth 100000 in
set_option maxHeartbeats 4000000 in
theorem psplit_empty (A : Option Addr) (cap : Nat) (w : World) :
    Calls Tryd.prog 13 #[.slice A 0 cap] w (SplitPost w ([], 0, [])) := by
  have hmf : ∀ (fn : Fn) (first cap : Array Value) (w : World), (Instr.makeFunc fn first cap).run Tryd.prog w = .ok (.func fn first cap) w := fun _ _ _ _ => rfl
  refine (callsIn_wide (n := 9)).1 ?_
  refine callsIn_of_wp_marks Tryd.func13 rfl trivial ?_
  refine wpIn_wide.2 ?_
  simp only [Tryd.ntmps13, List.size_toArray, List.length_cons, List.length_nil, Nat.reduceAdd, Nat.reduceSub, Array.replicate_succ, Array.replicate_zero, List.push_toArray, List.append_toArray, List.nil_append, List.cons_append]
  go_wp2_with (go_at_call 36; refine (prequests_any _ _).mono ?_; rintro e w' ⟨rfl, rfl⟩)
  obtain ⟨H, hH⟩ : ∃ H, w.heap.size = H := ⟨_, rfl⟩
  rw [hH]
  simp only [Nat.add_assoc, Nat.reduceAdd]
  obtain ⟨os, hos⟩ : ∃ os : List Obj, os = [.cells #[.slice A 0 cap] 23, .cells #[.slice none 0 0] 29, .cells #[.int .i64 0] 3, .cells #[.string ⟨#[]⟩] 9, .cells #[.slice A 0 cap, .slice none 0 0] 69, .cells #[.pointer (some ⟨H + 4, 0, none⟩)] 93] := ⟨_, rfl⟩
  have hWz := allocs_size os w
  have hWb := allocs_below os w
  have hWh := allocs_heap os w
  rw [hH] at hWz hWb hWh
  have hol : os.length = 6 := by rw [hos]; rfl
  obtain ⟨W, hW⟩ : ∃ W, os.foldl World.alloc w = W := ⟨_, rfl⟩
  rw [hW, hol] at hWz
  rw [hW] at hWb hWh
  have h0 := hWh 0 (by omega)
  have h1 := hWh 1 (by omega)
  have h2 := hWh 2 (by omega)
  have h3 := hWh 3 (by omega)
  have h4 := hWh 4 (by omega)
  have h5 := hWh 5 (by omega)
  rw [hos] at h0 h1 h2 h3 h4 h5 hW
  simp only [List.foldl_cons, List.foldl_nil] at hW
  rw [hW]
  simp only [List.getElem?_cons_zero, List.getElem?_cons_succ, Nat.add_zero] at h0 h1 h2 h3 h4 h5
  refine range_on (n := 8) (gf := 50) (lb := #[.pointer (some ⟨H + 5, 0, none⟩)]) rfl (enters_of Tryd.func50 (by kernel_rfl) rfl) ?_
  rw [hWz]
  intro rec W1 hrec hz1 hb1 hD hL hY
  have hbw : Below H w W1 := hWb.trans (hb1.mono (by omega))
  have hk : ∀ q, q < H + 6 → W1.heap[q]? = W.heap[q]? := hb1.block
  have g0 := (hk H (by omega)).trans h0
  have g1 := (hk (H + 1) (by omega)).trans h1
  have g2 := (hk (H + 2) (by omega)).trans h2
  have g3 := (hk (H + 3) (by omega)).trans h3
  have g4 := (hk (H + 4) (by omega)).trans h4
  have g5 := (hk (H + 5) (by omega)).trans h5
  have HK : SpK w H (.slice A 0 cap) (rec .ready) 0 [] (.slice none 0 0) W1 := {
    below := hbw
    size := by omega
    loop := hL
    defs := hD
    cb := (cell_in g0).trans rfl
    cl := (cell_in g1).trans rfl
    fl := mark_in g1
    cn := (cell_in g2).trans rfl
    fn := mark_in g2
    ct := (cell_in g3).trans rfl
    ft := mark_in g3
    cp := (cell_in g5).trans rfl
    req := ⟨[], rfl, ⟨rfl, .inl ⟨rfl, rfl⟩⟩, fun i u r hu => by cases hu⟩ }
  have hi0 : W1.cell? ⟨H + 4, 0, none⟩ = some (.slice A 0 cap) := (cell_in g4).trans rfl
  have hi1 : W1.cell? ⟨H + 4, 1, none⟩ = some (.slice none 0 0) := (cell_in g4).trans rfl
  have hi2 : W1.frozen? ⟨H + 4, 1, none⟩ = false := mark_in g4
  have HKK := Lib.hid HK
  clear HK g0 g1 g2 g3 g4 g5 h0 h1 h2 h3 h4 h5 hk hW hWh hWz hb1 hD hL hos hol hz1 hWb
  have HIT : CallsIn Fence.wide 8 Tryd.prog 50 (#[.func (.yield (H + 7)) #[] #[]] ++ #[.pointer (some ⟨H + 5, 0, none⟩)]) W1 fun e W2 =>
      ∃ x, e = .returned x ∧ SpK w H (.slice A 0 cap) (rec .ready) 0 [] (.slice none 0 0) W2 := by
    have hcp := HKK.out.cp
    have hz := HKK.out.size
    have HRQ := Lib.hid (prequest_nil (H + 4) A cap W1 hi0 hi1 hi2)
    refine callsIn_of_wp Tryd.func50 rfl trivial ?_ rfl
    simp only [Tryd.ntmps50, List.size_toArray, List.length_cons, List.length_nil, Nat.reduceAdd, Nat.reduceSub, Array.replicate_succ, Array.replicate_zero, List.push_toArray, List.append_toArray, List.nil_append, List.cons_append]
    gi_wp2
    gi_loopw [] (fun wr => wr = W1) (fun _ => 0)
    case atStart => rfl
    case round =>
      subst hrel
      gi_wp2_with fail
      refine ⟨trivial, (callsIn_wide.2 HRQ.out).mono ?_⟩
      rintro e w1 ⟨rfl, rfl⟩
      have hm : Mod wr (H + 4) (Value.slice none 0 0).ownBlock (wr.setCell ⟨H + 4, 1, none⟩ (.slice none 0 0)) := (Mod.refl (by omega) (by intro e; cases e)).set
      have HK1 := Lib.hid (HKK.out.mod (k := 0) (vs := []) ⟨rfl, .inl ⟨rfl, rfl⟩⟩ hm (fun i hi => by cases hi))
      gi_wp2
      refine ⟨trivial, ?_⟩
      gi_wp2
      refine ⟨fun _ h => (by cases h), ?_⟩
      gi_wp2
      go_end0
      exact ⟨_, rfl, HK1.out⟩
  have HIT' := Lib.hid HIT
  have eg : ∀ (args : Array Value) (w : World), (callFunc 34 args).run Tryd.prog w = .ok (.enter 34 args) w := enters_of Tryd.func34 (by kernel_rfl) rfl
  have HEG := Lib.hid eg
  clear HIT eg HKK hY hrec hi0 hi1 hi2
  refine HIT'.out.mono ?_
  rintro e W2 ⟨x, rfl, hK⟩
  obtain ⟨n, acc, vl, hK, hS⟩ : ∃ (n : Nat) (acc : List (List (List UInt8))) (vl : Value), SpK w H (.slice A 0 cap) (rec .ready) n acc vl W2 ∧ (([] : List (List (List UInt8))), 0, ([] : List UInt8)) = (acc, n, []) := ⟨0, [], .slice none 0 0, hK, rfl⟩
  have HS := Lib.hid hS
  clear hS
  · refine Or.inl ⟨x, rfl, hK.loop, ?_⟩
    have HK := Lib.hid (hK.put (rec .exhausted))
    obtain ⟨W3, hW3⟩ : ∃ W3, W2.putObj (H + 7) (.loop (rec .exhausted)) = W3 := ⟨_, rfl⟩
    have hW3' : W2.putObj (H + 6 + 1) (.loop (rec .exhausted)) = W3 := hW3
    rw [hW3] at HK
    rw [hW3']
    have hcl := HK.out.cl
    have hfl := HK.out.fl
    have hcn := HK.out.cn
    have hfn := HK.out.fn
    have hct := HK.out.ct
    have hft := HK.out.ft
    obtain ⟨Al, cl', rfl⟩ : ∃ A c, vl = .slice A acc.length c := by
      obtain ⟨xs, _, h2, _⟩ := HK.out.req
      exact ownsRow_form h2
    clear hK hW3 hW3'
    go_wp2
    go_region
    all_goals go_wp2
    all_goals
      obtain ⟨W4, hW4⟩ : ∃ W4, (((W3.setCell ⟨H + 1, 0, none⟩ (.slice Al acc.length cl')).setCell ⟨H + 2, 0, none⟩ (.int .i64 n)).setCell ⟨H + 3, 0, none⟩ (.string ⟨#[]⟩)).drew = W4 := ⟨_, rfl⟩
      rw [hW4]
      have hz3 := HK.out.size
      have p1 := Put.set W3 (p := ⟨H + 1, 0, none⟩) (.slice Al acc.length cl') (by show H + 1 < _; omega)
      have p2 := Put.set (W3.setCell ⟨H + 1, 0, none⟩ (.slice Al acc.length cl')) (p := ⟨H + 2, 0, none⟩) (.int .i64 n) (by show H + 2 < _; have := p1.size; omega)
      have p3 := Put.set ((W3.setCell ⟨H + 1, 0, none⟩ (.slice Al acc.length cl')).setCell ⟨H + 2, 0, none⟩ (.int .i64 n)) (p := ⟨H + 3, 0, none⟩) (.string ⟨#[]⟩) (by show H + 3 < _; have := p1.size; have := p2.size; omega)
      have s1 := p1.size
      have s2 := p2.size
      have s3 := p3.size
      have hd4 : W4.heap[H + 6]? = some (.deferred (some [])) := by
        rw [← hW4]
        exact (p3.other _ (by omega) (by show H + 6 ≠ H + 3; omega)).trans ((p2.other _ (by omega) (by show H + 6 ≠ H + 2; omega)).trans ((p1.other _ (by omega) (by show H + 6 ≠ H + 1; omega)).trans HK.out.defs))
      have hcl4 : W4.cell? ⟨H + 1, 0, none⟩ = some (.slice Al acc.length cl') := by
        rw [← hW4]
        exact (p3.cells.1 (H + 1) 0 (by omega) (by show H + 1 ≠ H + 3; omega)).trans ((p2.cells.1 (H + 1) 0 (by omega) (by show H + 1 ≠ H + 2; omega)).trans (p1.cell hcl))
      have hcn4 : W4.cell? ⟨H + 2, 0, none⟩ = some (.int .i64 n) := by
        rw [← hW4]
        exact (p3.cells.1 (H + 2) 0 (by omega) (by show H + 2 ≠ H + 3; omega)).trans (p2.cell ((p1.cells.1 (H + 2) 0 (by omega) (by show H + 2 ≠ H + 1; omega)).trans hcn))
      have hct4 : W4.cell? ⟨H + 3, 0, none⟩ = some (.string ⟨#[]⟩) := by
        rw [← hW4]
        exact p3.cell ((p2.cells.1 (H + 3) 0 (by omega) (by show H + 3 ≠ H + 2; omega)).trans ((p1.cells.1 (H + 3) 0 (by omega) (by show H + 3 ≠ H + 1; omega)).trans hct))
      have hft4 : W4.frozen? ⟨H + 3, 0, none⟩ = false := by
        rw [← hW4]
        exact (p3.cells.2 (H + 3) 0 (by omega)).trans ((p2.cells.2 (H + 3) 0 (by omega)).trans ((p1.cells.2 (H + 3) 0 (by omega)).trans hft))
      have hz4 : H + 8 ≤ W4.heap.size := by
        rw [← hW4]
        show H + 8 ≤ (((W3.setCell ⟨H + 1, 0, none⟩ (.slice Al acc.length cl')).setCell ⟨H + 2, 0, none⟩ (.int .i64 n)).setCell ⟨H + 3, 0, none⟩ (.string ⟨#[]⟩)).heap.size
        omega
      have hb4 : Below H w W4 := by
        rw [← hW4]
        exact (((HK.out.below.setCell (p := ⟨H + 1, 0, none⟩) (by show H ≤ H + 1; omega) _).setCell (p := ⟨H + 2, 0, none⟩) (by show H ≤ H + 2; omega) _).setCell (p := ⟨H + 3, 0, none⟩) (by show H ≤ H + 3; omega) _).drew
      have hr4 : OwnsReqs W4 (H + 8) (.slice Al acc.length cl') acc := by
        rw [← hW4]
        exact (((HK.out.req.grown p1.grown (by show H + 1 < H + 8; omega)).grown p2.grown (by show H + 2 < H + 8; omega)).grown p3.grown (by show H + 3 < H + 8; omega)).below (Below.refl _ _).drew
      clear hW4 p1 p2 p3 s1 s2 s3
      refine ⟨by simp, .inl ⟨H + 6, _, rfl, run_takeDeferred hd4, ?_⟩⟩
      refine ⟨by simp, .inr ⟨fun _ => by omega, .func 34, #[.pointer (some ⟨H + 3, 0, none⟩)], 34, #[.pointer (some ⟨H + 3, 0, none⟩)], rfl, by simp [invoke, go_sem, HEG.out], fun _ _ => trivial, ?_⟩⟩
      have hoth : ∀ q, q ≠ H + 6 → (W4.putObj (H + 6) (.deferred none)).heap[q]? = W4.heap[q]? := fun q h => World.putObj_heap_other h
      have hct := (World.cell?_of_block (a := ⟨H + 3, 0, none⟩) (hoth (H + 3) (by omega))).trans hct4
      have hft := (World.frozen?_of_block (a := ⟨H + 3, 0, none⟩) (hoth (H + 3) (by omega))).trans hft4
      have hclx := (World.cell?_of_block (a := ⟨H + 1, 0, none⟩) (hoth (H + 1) (by omega))).trans hcl4
      have hcnx := (World.cell?_of_block (a := ⟨H + 2, 0, none⟩) (hoth (H + 2) (by omega))).trans hcn4
      have hreqx := hr4.grown (grownBy_putObj' W4 (H + 6) (.deferred none)) (by omega)
      have hbx := hb4.grown (grownBy_putObj' W4 (H + 6) (.deferred none)) (by omega) (fun k e => by injection e; omega)
      refine (pdeferred_ret 8 (H + 3) _ _ hct hft).mono ?_
      rintro e u' w' ⟨rfl, rfl, rfl⟩
      have hz8 : H + 8 ≤ (W4.putObj (H + 6) (.deferred none)).heap.size := by rw [World.putObj_size]; exact hz4
      have hkT := Put.set (W4.putObj (H + 6) (.deferred none)) (p := ⟨H + 3, 0, none⟩) (.string ⟨#[]⟩) (by show H + 3 < _; omega)
      have e1 := (hkT.cells.1 (H + 1) 0 (by omega) (by show H + 1 ≠ H + 3; omega)).trans hclx
      have e2 := (hkT.cells.1 (H + 2) 0 (by omega) (by show H + 2 ≠ H + 3; omega)).trans hcnx
      have e3 := hkT.cell hct
      have hreq := hreqx.grown hkT.grown (by show H + 3 < H + 8; omega)
      have hbel := hbx.setCell (p := ⟨H + 3, 0, none⟩) (by show H ≤ H + 3; omega) (.string ⟨#[]⟩)
      obtain ⟨w9, hw9⟩ : ∃ w9, (W4.putObj (H + 6) (.deferred none)).setCell ⟨H + 3, 0, none⟩ (.string ⟨#[]⟩) = w9 := ⟨_, rfl⟩
      rw [hw9] at e1 e2 e3 hreq hbel ⊢
      clear hw9
      simp only [LeavesInM, LeavesIn, settle]
      refine ⟨.tuple #[.slice Al acc.length cl', .int .i64 n, .string ⟨#[]⟩], by simp [results, Tryd.results13, go_sem, e1, e2, e3], ?_⟩
      rw [HS.out]
      exact ⟨by rw [hH]; exact hbel, _, rfl, by rw [hH]; exact hreq.base (by omega)⟩

end Go.Proofs.YtkaododohnncnaaDoor
