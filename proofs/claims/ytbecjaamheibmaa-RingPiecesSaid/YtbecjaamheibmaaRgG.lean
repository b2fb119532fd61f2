/-
  Package ring: the walks of follows, Accepts, State, From. Condition: the ring lies in memory as typed.
-/
import Derived.Test.YtbecjaamheibmaaRgF
import Derived.Deep.RegionHeld3
namespace Go.Proofs.Ytbecjaamheibmaa
open Go.RowKit

/-- Has somebody with an ID a beginning of the stream, up to an offset? -/
def folB (h : Hst) (id o : Int) : Bool := decide (id = h.id ∨ id ≠ 0 ∧ id = h.sec ∧ o ≤ h.frk)
/-- May somebody go on? -/
def accB (s : Nat) (h : Hst) (X : Tx) (id o : Int) : Bool := folB h id o && hasB s h X o
/-- The history as a value. -/
def stV (h : Hst) : Value := .agg #[.int .u64 h.id, .int .i64 h.off, .int .u64 h.sec, .int .i64 h.frk]
/-- What is told from an offset on. -/
def frmX (s : Nat) (h : Hst) (X : Tx) (o : Int) : Tx := if hasB s h X o then X.drop (X.length - (h.off - o).toNat) else []
def frmE (s : Nat) (h : Hst) (X : Tx) (o : Int) : Int := if hasB s h X o then 0 else 191

section
variable {w w' : World} {base p s : Nat} {F : Nat → Prop} {h : Hst} {X : Tx}

set_option maxRecDepth 100000 in
set_option maxHeartbeats 8000000 in
theorem follows_any (w : World) (H : RgOn w base F p s h X) (id o : Int) : Calls Try.prog 36 #[.pointer (some ⟨p, 0, none⟩), .int .u64 id, .int .i64 o] w fun e w' => e = .returned (.bool (folB h id o)) ∧ Below w.heap.size w w' := by
  obtain ⟨c0, c1, c2, c3, c4, c5, c6⟩ := H.cells
  clear c0 c5 c6 H
  obtain ⟨hi, off, sec, frk⟩ := h
  unfold folB
  dsimp only at c1 c2 c3 c4 ⊢
  by_cases hid : id = hi
  · subst hid
    have e : decide (id = id ∨ id ≠ 0 ∧ id = sec ∧ o ≤ frk) = true := by simp
    rw [e]
    clear e
    go_enter Try.func36, Try.ntmps36
    go_wp2
    go_ret
    exact ⟨rfl, (Below.refl _ _).alloc (Nat.le_refl _) _⟩
  · have hidb : (id == hi) = false := by simpa using hid
    by_cases h0 : id = 0
    · subst h0
      have e : decide ((0 : Int) = hi ∨ (0 : Int) ≠ 0 ∧ (0 : Int) = sec ∧ o ≤ frk) = false := by simp [hid]
      rw [e]
      clear e
      go_enter Try.func36, Try.ntmps36
      go_wp2
      go_ret
      exact ⟨rfl, (Below.refl _ _).alloc (Nat.le_refl _) _⟩
    · have h0b : (id == 0) = false := by simpa using h0
      have h0n : (id != 0) = true := by simpa using h0
      by_cases hs : id = sec
      · subst hs
        by_cases hf : o ≤ frk
        · have e : decide (id = hi ∨ id ≠ 0 ∧ id = id ∧ o ≤ frk) = true := by simp [h0, hf]
          rw [e]
          clear e
          go_enter Try.func36, Try.ntmps36
          go_wp2
          go_ret
          exact ⟨rfl, (Below.refl _ _).alloc (Nat.le_refl _) _⟩
        · have e : decide (id = hi ∨ id ≠ 0 ∧ id = id ∧ o ≤ frk) = false := by simp [hid, hf]
          have hfb : decide (o ≤ frk) = false := by simpa using hf
          rw [e]
          clear e
          go_enter Try.func36, Try.ntmps36
          go_wp2
          go_ret
          exact ⟨rfl, (Below.refl _ _).alloc (Nat.le_refl _) _⟩
      · have e : decide (id = hi ∨ id ≠ 0 ∧ id = sec ∧ o ≤ frk) = false := by simp [hid, hs]
        have hsb : (id == sec) = false := by simpa using hs
        rw [e]
        clear e
        go_enter Try.func36, Try.ntmps36
        go_wp2
        go_ret
        exact ⟨rfl, (Below.refl _ _).alloc (Nat.le_refl _) _⟩

set_option maxRecDepth 100000 in
set_option maxHeartbeats 8000000 in
theorem accepts_any (w : World) (H : RgOn w base F p s h X) (id o : Int) : Calls Try.prog 18 #[.pointer (some ⟨p, 0, none⟩), .int .u64 id, .int .i64 o] w fun e w' => e = .returned (.bool (accB s h X id o)) ∧ Below w.heap.size w w' := by
  have HM := Lib.hid (made_any w H)
  have HF := Lib.hid (follows_any w H id o)
  have HH := Lib.hid H
  clear H
  cases hf : folB h id o with
  | false =>
    rw [hf] at HF
    have e : accB s h X id o = false := by unfold accB; rw [hf]; rfl
    rw [e]
    clear e hf
    go_enter Try.func18, Try.ntmps18
    go_wp2_with fail
    refine HM.out.mono ?_
    rintro e w2 ⟨rfl, rfl⟩
    go_wp2_with fail
    refine HF.out.mono ?_
    rintro e w2 ⟨rfl, hb⟩
    have HB := Lib.hid hb
    clear hb
    go_wp2
    go_ret
    exact ⟨rfl, HB.out⟩
  | true =>
    rw [hf] at HF
    have e : accB s h X id o = hasB s h X o := by unfold accB; rw [hf]; rfl
    rw [e]
    have HHS : Hid (∀ w2, Below w.heap.size w w2 → Calls Try.prog 34 #[.pointer (some ⟨p, 0, none⟩), .int .i64 o] w2 fun e w' => e = .returned (.bool (hasB s h X o)) ∧ ∃ n, w' = w2.drewN n) := fun w2 hb => has_any w2 (HH.out.below hb) o
    obtain ⟨q, hq⟩ : ∃ q, hasB s h X o = q := ⟨_, rfl⟩
    rw [hq] at HHS ⊢
    clear e hf hq
    go_enter Try.func18, Try.ntmps18
    go_wp2_with fail
    refine HM.out.mono ?_
    rintro e w2 ⟨rfl, rfl⟩
    go_wp2_with fail
    refine HF.out.mono ?_
    rintro e w2 ⟨rfl, hb⟩
    have HB := Lib.hid hb
    clear hb
    go_wp2_with fail
    refine (HHS.out w2 HB.out).mono ?_
    rintro e w3 ⟨rfl, n, rfl⟩
    go_wp2
    go_ret
    exact ⟨rfl, HB.out.trans (below_drewN _ _ _)⟩

set_option maxRecDepth 100000 in
set_option maxHeartbeats 8000000 in
theorem state_any (w : World) (H : RgOn w base F p s h X) : Calls Try.prog 16 #[.pointer (some ⟨p, 0, none⟩)] w fun e w' => e = .returned (stV h) ∧ Below w.heap.size w w' := by
  have hz : Below w.heap.size w (w.alloc (.cells #[.int .u64 0, .int .i64 0, .int .u64 0, .int .i64 0] 43)) := (Below.refl _ _).alloc (Nat.le_refl _) _
  obtain ⟨wa, hwa⟩ : ∃ wa, w.alloc (.cells #[.int .u64 0, .int .i64 0, .int .u64 0, .int .i64 0] 43) = wa := ⟨_, rfl⟩
  have hr : wa.rowIs w.heap.size 43 4 (fun i => if i = 0 ∨ i = 2 then .int .u64 0 else .int .i64 0) := by
    rw [← hwa]
    exact World.rowIs_alloc w _ _ _ (fun i hi => by
      have hi : i < 4 := hi
      rcases (by omega : i = 0 ∨ i = 1 ∨ i = 2 ∨ i = 3) with rfl | rfl | rfl | rfl <;> rfl)
  rw [hwa] at hz
  have HM := Lib.hid (made_any wa (H.below hz))
  obtain ⟨c0, c1, c2, c3, c4, c5, c6⟩ := (H.below hz).cells
  obtain ⟨M, hM⟩ : ∃ M, w.heap.size = M := ⟨_, rfl⟩
  have k0 : wa.cell? ⟨M, 0, none⟩ = some (.int .u64 0) := by rw [← hM]; exact hr.cell (i := 0) (by omega)
  have k1 : wa.cell? ⟨M, 1, none⟩ = some (.int .i64 0) := by rw [← hM]; exact hr.cell (i := 1) (by omega)
  have k2 : wa.cell? ⟨M, 2, none⟩ = some (.int .u64 0) := by rw [← hM]; exact hr.cell (i := 2) (by omega)
  have k3 : wa.cell? ⟨M, 3, none⟩ = some (.int .i64 0) := by rw [← hM]; exact hr.cell (i := 3) (by omega)
  have f0 := hr.frozen 0
  have f1 := hr.frozen 1
  have f2 := hr.frozen 2
  have f3 := hr.frozen 3
  rw [hM] at f0 f1 f2 f3
  have hpM : p < M := by rw [← hM]; exact H.lt
  have HZ := Lib.hid hz
  have HW := Lib.hid hwa
  have HMM := Lib.hid hM
  obtain ⟨hi, off, sec, frk⟩ := h
  unfold stV
  dsimp only at c1 c2 c3 c4 ⊢
  clear hz hwa hM c0 c5 c6 H hr
  go_enter Try.func16, Try.ntmps16
  go_wp2_with (first | rw [HW.out] | rw [HMM.out])
  refine HM.out.mono ?_
  rintro e w2 ⟨rfl, rfl⟩
  go_wp2_with fail
  refine bodyPost_ret (v := .agg #[.int .u64 hi, .int .i64 off, .int .u64 sec, .int .i64 frk]) (by simp [results, Try.results16, go_sem, k0, k1, k2, k3]) rfl ⟨rfl, ?_⟩
  have hle : w.heap.size ≤ M := Nat.le_of_eq HMM.out
  exact (((HZ.out.setCell (p := ⟨M, 0, none⟩) hle _).setCell (p := ⟨M, 1, none⟩) hle _).setCell (p := ⟨M, 2, none⟩) hle _).setCell (p := ⟨M, 3, none⟩) hle _

theorem frm_yes {o : Int} (e : hasB s h X o = true) : frmX s h X o = X.drop (X.length - (h.off - o).toNat) ∧ frmE s h X o = 0 := by
  unfold frmX frmE
  rw [e]
  exact ⟨rfl, rfl⟩
theorem frm_no {o : Int} (e : hasB s h X o = false) : frmX s h X o = [] ∧ frmE s h X o = 191 := by
  unfold frmX frmE
  rw [e]
  exact ⟨rfl, rfl⟩

/-- What From tells. -/
def Told (w : World) (l : Tx) (er : Int) (e : Ending) (w' : World) : Prop := ∃ A n c, e = .returned (.tuple #[.slice A n c, .int .i64 er]) ∧ ByAt w' A n c l ∧ Below w.heap.size w w' ∧ (∀ g o, 0 < n → A = some ⟨g, o, none⟩ → w.heap.size ≤ g)

set_option maxRecDepth 100000 in
set_option maxHeartbeats 8000000 in
theorem from_any (w : World) (H : RgOn w base F p s h X) (o : Int) (ho1 : -9223372036854775808 ≤ o) (ho2 : o ≤ 9223372036854775807) : Calls Try.prog 14 #[.pointer (some ⟨p, 0, none⟩), .int .i64 o] w (Told w (frmX s h X o) (frmE s h X o)) := by
  have HM := Lib.hid (made_any w H)
  have HHS := Lib.hid (has_any w H o)
  cases hq : hasB s h X o with
  | false =>
    obtain ⟨e1, e2⟩ := frm_no hq
    rw [e1, e2]
    rw [hq] at HHS
    clear e1 e2 hq H
    go_enter Try.func14, Try.ntmps14
    go_wp2_with fail
    refine HM.out.mono ?_
    rintro e w2 ⟨rfl, rfl⟩
    go_wp2_with fail
    refine HHS.out.mono ?_
    rintro e w3 ⟨rfl, n, rfl⟩
    go_wp2
    go_ret2
    exact ⟨none, 0, 0, rfl, ByAt.nil _, below_drewN _ _ _, fun g o h0 => absurd h0 (Nat.lt_irrefl 0)⟩
  | true =>
    obtain ⟨e1, e2⟩ := frm_yes hq
    rw [e1, e2]
    rw [hq] at HHS
    have hb := frst_bd H
    have hd : frstO s h X ≤ o ∧ o ≤ h.off := by simpa [hasB] using hq
    obtain ⟨k, hk⟩ : ∃ k, (h.off - o).toNat = k := ⟨_, rfl⟩
    have hkX : k ≤ X.length ∧ k ≤ s := by unfold frstO at hd; omega
    have hko : (k : Int) = h.off - o := by omega
    have hof := H.o2
    have hw : IntKind.i64.wrap (h.off - o) = (k : Int) := by rw [IntWalk.i64_in _ (by omega)]; omega
    have hal := H.xo
    rw [hk]
    obtain ⟨c0, c1, c2, c3, c4, c5, c6⟩ := H.cells
    have HT : Hid (∀ nq, Calls Try.prog 35 #[.pointer (some ⟨p, 5, none⟩), .int .i64 k] (w.drewN nq) fun e w' => e = .returned (.slice (some ⟨w.heap.size, 0, none⟩) k k) ∧ ByAt w' (some ⟨w.heap.size, 0, none⟩) k k (X.drop (X.length - k)) ∧ Below w.heap.size w w') := fun nq => by
      refine (tail_any (w.drewN nq) (H.ls.below (below_drewN _ _ _)) H.s1 H.s2 hkX.1 hkX.2 (by omega)).mono ?_
      rintro e w' ⟨rfl, h1, h2⟩
      exact ⟨rfl, h1, (below_drewN w.heap.size w nq).trans h2⟩
    have HC2 : Hid (∀ X, Below w.heap.size w X → X.cell? ⟨p, 2, none⟩ = some (.int .i64 h.off)) := fun X hX => (hX.cell (p := ⟨p, 2, none⟩) H.lt).trans c2
    obtain ⟨off, hoff⟩ : ∃ o, h.off = o := ⟨_, rfl⟩
    rw [hoff] at c2 hw HC2
    clear e1 e2 hq hb hd hk hkX hko hof hal c0 c1 c3 c4 c5 c6 H hoff
    go_enter Try.func14, Try.ntmps14
    go_wp2_with fail
    refine HM.out.mono ?_
    rintro e w2 ⟨rfl, rfl⟩
    go_wp2_with fail
    refine HHS.out.mono ?_
    rintro e w3 ⟨rfl, n, rfl⟩
    go_wp2_with fail
    go_region_held3 (fun X => X.cell? ⟨p, 2, none⟩ = some (.int .i64 off)) (first | exact c2 | exact HC2.out _ HB.out) ((go_at_call 35; refine Calls.mono (HT.out _) ?_; rintro e w4 ⟨rfl, ht, hb4⟩; have HB := Lib.hid hb4; have HTT := Lib.hid ht; clear hb4 ht))
    go_wp2
    go_ret2
    exact ⟨_, _, _, rfl, HTT.out, HB.out, fun g o _ e => by injection e with e; injection e with e1 e2; omega⟩

end

end Go.Proofs.Ytbecjaamheibmaa
