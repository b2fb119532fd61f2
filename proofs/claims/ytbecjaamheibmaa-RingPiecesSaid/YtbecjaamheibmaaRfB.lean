/-
  The document's ring: the walks of From and Accepts. Condition: the ring lies in memory as typed.
-/
import Derived.Test.YtbecjaamheibmaaRfA
import Derived.Deep.RegionHeld3
namespace Go.Proofs.Ytbecjaamheibmaa
open Go.RowKit

/-- A new row of no bytes. -/
def EmpAt (w : World) (base g : Nat) : Prop := base ≤ g ∧ base ≤ w.heap.size ∧ w.heap[g]? = some (.cells #[] 5 (0, 0))
theorem EmpAt.new (w : World) (base : Nat) (hb : base ≤ w.heap.size) : EmpAt (w.alloc (.cells #[] 5)) base w.heap.size := ⟨hb, by simp; omega, heap_alloc_new w _⟩
theorem EmpAt.drewN {w : World} {base g : Nat} (h : EmpAt w base g) (n : Nat) : EmpAt (w.drewN n) base g := h
theorem EmpAt.own {w : World} {base g : Nat} (h : EmpAt w base g) : w.ownsRow base 5 1 (.slice (some ⟨g, 0, none⟩) 0 0) 0 [] := ⟨rfl, Or.inr ⟨g, 0, #[], rfl, h.1, h.2.2, Nat.le_refl _, by unfold maxLen; omega, rfl, rfl⟩⟩
theorem EmpAt.below {w w' : World} {base g : Nat} (h : EmpAt w base g) (hb : Below w.heap.size w w') : EmpAt w' base g := ⟨h.1, Nat.le_trans h.2.1 hb.size, (hb.block g (Array.getElem?_eq_some_iff.1 h.2.2).1).trans h.2.2⟩

theorem by_one (l : Tx) : ∀ u ∈ l.map byV, u.oneCell' = true := fun u hu => by
  obtain ⟨c, _, rfl⟩ := List.mem_map.1 hu
  rfl

/-- append of some bytes behind a row of no bytes. -/
theorem run_append_emp {w : World} {base g n c : Nat} {A : Option Addr} {l : Tx} (ty : TypeId) (hE : EmpAt w base g) (hb : ByAt w A n c l) (hn : n ≤ 140737488355328) :
    ∃ A' c' w', (Builtin.append_ #[33, 33] ty #[.slice (some ⟨g, 0, none⟩) 0 0, .slice A n c]).run Try.prog w = .ok (.slice A' n c') w' ∧ w'.ownsRow base 5 1 (.slice A' n c') n (l.map byV) ∧ Below base w w' := by
  obtain ⟨i0, hi, hy⟩ := Option.map_eq_some_iff.1 info_by
  simp only [Prod.mk.injEq] at hy
  obtain ⟨hy0, hy1, hy2⟩ := hy
  obtain ⟨v', w', h1, h2, h3, _, _⟩ := run_append_sl (P := Try.prog) base 33 ty 5 i0 (.int .u8 0) 1 Try.underlying33 hi hy0 hy1 hy2 rfl (.slice (some ⟨g, 0, none⟩) 0 0) 0 [] hE.own A n c (l.map byV) hb (by_one l) (by omega) (by omega) hE.2.1
  rw [Nat.zero_add, List.nil_append] at h2
  obtain ⟨A', c', rfl⟩ := own_form1 h2
  exact ⟨A', c', w', h1, h2, (Below.refl _ _).grown h3 hE.2.1 (fun k e => by cases e; exact hE.1)⟩

theorem step_append_emp {ops : Array Oper} {o : Oper} {a : Act} {w : World} {K : Act → World → Prop} {Q : Exit → Act → World → Prop} {E : Prop} (hgd : o.guard = none) (s x : Operand)
    (ho : o.op = .call { callee := .builtin .append, args := #[s, x], argTypes := #[33, 33] })
    (base g : Nat) (hE : EmpAt w base g) (hs : a.eval s = .slice (some ⟨g, 0, none⟩) 0 0) (A : Option Addr) (n c : Nat) (l : Tx) (hx : a.eval x = .slice A n c) (hb : ByAt w A n c l) (hn : n ≤ 140737488355328)
    (h : ∀ A' c' w', w'.ownsRow base 5 1 (.slice A' n c') n (l.map byV) → Below base w w' → K (a.put o.dst (.slice A' n c')) w') :
    if Region.wanted o (yielded ops a.tmps) = true then Oper.wp Try.prog o a w K Q else E := by
  have hw : Region.wanted o (yielded ops a.tmps) = true := by simp [Region.wanted, hgd]
  rw [if_pos hw]
  obtain ⟨A', c', w', hrun, h2, h3⟩ := run_append_emp o.type hE hb hn
  unfold Oper.wp
  simp [execOp, ho, resolve, invoke, builtin, hs, hx, hrun, Result.andThen]
  exact h A' c' w' h2 h3

section
variable {w w' : World} {base q s : Nat} {G : Nat → Prop} {h : Hst} {X : Tx}

theorem lastN_from {k : Nat} (hk : k ≤ X.length) (hks : k ≤ s) : (lastN s X).drop (min X.length s - k) = X.drop (X.length - k) := by
  unfold lastN
  rw [List.drop_drop]
  congr 1
  omega

set_option maxRecDepth 100000 in
set_option maxHeartbeats 8000000 in
theorem rfrom_any (w : World) (H : RfOn w base G q s h X) (o : Int) (ho1 : -9223372036854775808 ≤ o) (ho2 : o ≤ 9223372036854775807) : Calls Try.prog 15 #[.pointer (some ⟨q, 0, none⟩), .int .i64 o] w (Told w (frmX s h X o) (frmE s h X o)) := by
  obtain ⟨A, n, c, hn, hb, c0, c1, c2, c3, c4, c5, hf⟩ := H.cells
  have HF := Lib.hid (rfirst_any w H)
  have hbd := rfrst_bd H
  have hle := hb.le
  have hmx := hb.max
  have hnl := hb.len
  have hH := H
  have hs2 := H.s2
  clear c0 c2 c3 c4 hf
  by_cases h1 : o < frstO s h X
  · obtain ⟨e1, e2⟩ := frm_no (show hasB s h X o = false by unfold hasB; simp; omega)
    rw [e1, e2]
    obtain ⟨f, hf⟩ : ∃ f, frstO s h X = f := ⟨_, rfl⟩
    rw [hf] at HF h1
    clear e1 e2 hbd hb hn hH H hf
    go_enter Try.func15, Try.ntmps15
    go_wp2_with fail
    refine HF.out.mono ?_
    rintro e w2 ⟨rfl, n2, rfl⟩
    go_wp2
    go_ret2
    exact ⟨none, 0, 0, rfl, ByAt.nil _, below_drewN _ _ _, fun g o h0 => absurd h0 (Nat.lt_irrefl 0)⟩
  · have h1b : decide (o < frstO s h X) = false := by simpa using h1
    by_cases h2 : h.off < o
    · obtain ⟨e1, e2⟩ := frm_no (show hasB s h X o = false by unfold hasB; simp; omega)
      rw [e1, e2]
      obtain ⟨f, hf⟩ : ∃ f, frstO s h X = f := ⟨_, rfl⟩
      obtain ⟨off, hof⟩ : ∃ f, h.off = f := ⟨_, rfl⟩
      rw [hf] at HF h1 h1b
      rw [hof] at c1 h2
      clear e1 e2 hbd hb hn hH H hf hof
      go_enter Try.func15, Try.ntmps15
      go_wp2_with fail
      refine HF.out.mono ?_
      rintro e w2 ⟨rfl, n2, rfl⟩
      go_wp2
      go_ret2
      exact ⟨none, 0, 0, rfl, ByAt.nil _, below_drewN _ _ _, fun g o h0 => absurd h0 (Nat.lt_irrefl 0)⟩
    · have h2b : decide (h.off < o) = false := by simpa using h2
      obtain ⟨e1, e2⟩ := frm_yes (show hasB s h X o = true by unfold hasB; simp; omega)
      rw [e1, e2]
      obtain ⟨k, hk⟩ : ∃ k, (h.off - o).toNat = k := ⟨_, rfl⟩
      have hkX : k ≤ X.length ∧ k ≤ s := by have := H.xo; unfold frstO at h1; omega
      obtain ⟨d, hd⟩ : ∃ d, n - k = d := ⟨_, rfl⟩
      have hdk : n - d = k := by omega
      obtain ⟨c1', hc1'⟩ : ∃ c1, c - d = c1 := ⟨_, rfl⟩
      obtain ⟨A1, hA1⟩ : ∃ A1, (if c = d then A else A.map (fun x => x.add d)) = A1 := ⟨_, rfl⟩
      have hw : IntKind.i64.wrap (o - frstO s h X) = (d : Int) := by
        have := H.xo
        have := H.o2
        rw [IntWalk.i64_in _ (by omega)]
        unfold frstO
        omega
      have hb1 : ByAt w A1 k c1' (X.drop (X.length - k)) := by
        have := hb.rest (i := d) (by omega)
        rwa [hA1, hdk, hc1', ← hd, hn, lastN_from hkX.1 hkX.2] at this
      have hd0 : (0 : Int) ≤ (d : Int) := by omega
      have hdn : (d : Int) ≤ (n : Int) := by omega
      have hdc : (d : Int) ≤ (c : Int) := by omega
      rw [hk]
      have HB1 := Lib.hid hb1
      have HFB : Hid (∀ X', Below w.heap.size w X' → Calls Try.prog 17 #[.pointer (some ⟨q, 0, none⟩)] X' fun e w' => e = .returned (.int .i64 (frstO s h X)) ∧ ∃ n, w' = X'.drewN n) := fun X' hX => rfirst_any X' (H.below hX)
      have HC5 : Hid (∀ X', Below w.heap.size w X' → X'.cell? ⟨q, 5, none⟩ = some (.slice A n c)) := fun X' hX => (hX.cell (p := ⟨q, 5, none⟩) H.lt).trans c5
      have HBA : Hid (∀ (a b : Nat), Below w.heap.size w (((w.drewN a).alloc (.cells #[] 5)).drewN b)) := fun a b => ((below_drewN _ _ _).alloc (Nat.le_refl _) _).trans (below_drewN _ _ _)
      have HEM : Hid (∀ (a b : Nat), EmpAt (((w.drewN a).alloc (.cells #[] 5)).drewN b) w.heap.size w.heap.size) := fun a b => EmpAt.new (w.drewN a) w.heap.size (Nat.le_refl _)
      have HBA0 : Hid (∀ (a : Nat), Below w.heap.size w ((w.drewN a).alloc (.cells #[] 5))) := fun a => (below_drewN _ _ _).alloc (Nat.le_refl _) _
      have HEM0 : Hid (∀ (a : Nat), EmpAt ((w.drewN a).alloc (.cells #[] 5)) w.heap.size w.heap.size) := fun a => EmpAt.new (w.drewN a) w.heap.size (Nat.le_refl _)
      have HKL : Hid (k ≤ 140737488355328) := by unfold Hid; omega
      obtain ⟨f, hf⟩ : ∃ f, frstO s h X = f := ⟨_, rfl⟩
      obtain ⟨off, hof⟩ : ∃ f, h.off = f := ⟨_, rfl⟩
      rw [hf] at HF h1 h1b hw HFB
      rw [hof] at c1 h2 h2b
      clear e1 e2 hbd hb hn hH H hf hof hk hkX hd hb1 hnl hs2
      go_enter Try.func15, Try.ntmps15
      go_wp2_with fail
      refine HF.out.mono ?_
      rintro e w2 ⟨rfl, n2, rfl⟩
      go_wp2_with fail
      go_region_held3 (fun X => X.cell? ⟨q, 5, none⟩ = some (.slice A n c)) (first | exact c5 | exact HC5.out _ (HBA0.out _) | exact HC5.out _ (HBA.out _ _) | exact HC5.out _ HB5.out) (first
        | (go_at_call 17; refine Calls.mono (HFB.out _ (by first | exact below_drewN _ _ _ | exact (below_drewN _ _ _).alloc (Nat.le_refl _) _)) ?_; rintro en w4 ⟨rfl, n4, rfl⟩)
        | (refine step_append_emp rfl (.tmp 19) (.tmp 28) rfl w.heap.size w.heap.size (HEM.out _ _) rfl A1 k c1' (X.drop (X.length - k)) rfl (HB1.out.below (HBA.out _ _)) HKL.out ?_; intro A5 c5' w5 hown hb5; have HOWN := Lib.hid hown; have HB5 := Lib.hid ((HBA.out _ _).trans hb5); clear hown hb5)
        | (refine step_append_emp rfl (.tmp 19) (.tmp 28) rfl w.heap.size w.heap.size (HEM0.out _) rfl A1 k c1' (X.drop (X.length - k)) rfl (HB1.out.below (HBA0.out _)) HKL.out ?_; intro A5 c5' w5 hown hb5; have HOWN := Lib.hid hown; have HB5 := Lib.hid ((HBA0.out _).trans hb5); clear hown hb5))
      all_goals
        go_wp2
        go_ret2
        exact ⟨_, _, _, rfl, SlAt.own HOWN.out, HB5.out, fun g o _ e => (HOWN.out.lt g (by rw [e]; rfl)).1⟩

end

end Go.Proofs.Ytbecjaamheibmaa
