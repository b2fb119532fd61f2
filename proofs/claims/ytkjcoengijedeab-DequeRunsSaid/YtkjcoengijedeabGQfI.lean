/-
  Package deque's ring (values: int): the walks of grow, insert and remove. Conditions: the ring lies in memory as it reads.
-/
import Derived.Test.YtkjcoengijedeabGQeI
import Derived.OwnWalk
namespace Go.Proofs.Ytkjcoengijedeab
open Go.RowKit

set_option maxRecDepth 100000 in
set_option maxHeartbeats 8000000 in
theorem info_eltI : (Try.prog.info? 3).map (fun i => (i.zero, i.size, i.bytes)) = some (some (.int .i64 0), 1, 8) := by kernel_rfl

/-- How many slots a ring has that has grown. -/
def moreI (N : Nat) : Nat := max 4 (2 * N)

set_option maxRecDepth 100000 in
set_option maxHeartbeats 8000000 in
theorem growI_any {R g N c f : Nat} {S : Nat → Value} {L : List Int} (w : World) (h : RgAt KDI w R g N c f S L) (hfull : L.length = N) (hN2 : N ≤ 400000) :
    Calls Try.prog 57 #[.pointer (some ⟨R, 0, none⟩)] w fun e w' => e = .returned (.tuple #[]) ∧ ∃ g' S', w.heap.size ≤ g' ∧ RgAt KDI w' R g' (moreI N) (moreI N) 0 S' L ∧ Only (· = R) w w' := by
  obtain ⟨i0, hi, hy⟩ := Option.map_eq_some_iff.1 info_eltI
  simp only [Prod.mk.injEq] at hy
  obtain ⟨hy0, hy1, hy2⟩ := hy
  have HY := Lib.hid (show i0.zero = some (.int .i64 0) ∧ i0.size = 1 ∧ i0.bytes = 8 from ⟨hy0, hy1, hy2⟩)
  clear hy0 hy1 hy2
  have c0 : w.cell? ⟨R, 0, none⟩ = some (slV g N c) := h.hd.cell (i := 0) (by omega)
  have c1 : w.cell? ⟨R, 1, none⟩ = some (.int .i64 f) := h.hd.cell (i := 1) (by omega)
  have c2 : w.cell? ⟨R, 2, none⟩ = some (.int .i64 L.length) := h.hd.cell (i := 2) (by omega)
  have hR := h.hd.lt
  have hfr := h.hd.frozen
  have H := Lib.hid h
  have HFULL := Lib.hid hfull
  rw [hfull] at c2
  have hM : moreI N ≤ 800000 := by unfold moreI; omega
  have hM4 : N < moreI N := by unfold moreI; omega
  obtain ⟨N', hN'⟩ : ∃ n, moreI N = n := ⟨_, rfl⟩
  have HN' := Lib.hid hN'
  rw [hN'] at hM hM4 ⊢
  have hw2 : IntKind.i64.wrap (2 * (N : Int)) = 2 * (N : Int) := IntWalk.i64_in _ (by omega)
  obtain ⟨A, hA⟩ : ∃ A, slV g N c = .slice A N (if N = 0 then 0 else c) := by
    unfold slV
    split
    · rename_i e; exact ⟨none, by rw [e]⟩
    · exact ⟨_, rfl⟩
  obtain ⟨cc, hcc⟩ : ∃ cc, (if N = 0 then 0 else c) = cc := ⟨_, rfl⟩
  rw [hcc] at hA
  rw [hA] at c0
  clear h hfull hN' hA hcc
  have HMK : Hid (∀ (W : World), (Instr.makeSlice 36 (.int .i64 (N' : Int)) (.int .i64 (N' : Int))).run Try.prog W = .ok (.slice (some ⟨W.heap.size, 0, none⟩) N' N') (W.alloc (.cells (madeCells #[.int .i64 0] N') 3))) := fun W =>
    run_make_row 36 3 i0 (.int .i64 0) Try.underlying36 hi HY.out.1 HY.out.2.1 rfl .i64 .i64 N' (by rw [HY.out.2.2]; omega) (by omega) W
  have HVAL : Hid (∀ j y, L[j]? = some y → 0 < N ∧ rp f N j < c ∧ S (rp f N j) = (Value.int .i64) y) := fun j y hy => by
    have q := lt_of_some hy
    have q2 := H.out.len
    exact ⟨by omega, Nat.lt_of_lt_of_le (rp_lt (by omega) j) H.out.le, H.out.vals j y hy⟩
  obtain ⟨M, hM0⟩ : ∃ M, w.heap.size = M := ⟨_, rfl⟩
  have HM0 := Lib.hid hM0
  obtain ⟨wa, hwa⟩ : ∃ wa, w.alloc (.cells (madeCells #[.int .i64 0] N') 3) = wa := ⟨_, rfl⟩
  have HBA : Hid (Below w.heap.size w wa) := by unfold Hid; rw [← hwa]; exact (Below.refl _ _).alloc (Nat.le_refl _) _
  have HGA : Hid (wa.rowIs M 3 N' (fun _ => .int .i64 0)) := by unfold Hid; rw [← hwa, ← hM0]; exact World.rowIs_made w _ N' _
  have HWA := Lib.hid hwa
  have hwM : ∀ W : World, Hid (W = w) → W.heap.size = M := fun W h => by rw [h.out]; exact hM0
  have hRM : R < M := by rw [← hM0]; exact hR
  clear hwM hR hwa hM0
  have HMK2 : Hid (∀ z : Int, z = (N' : Int) → (Instr.makeSlice 36 (.int .i64 z) (.int .i64 z)).run Try.prog w = .ok (.slice (some ⟨M, 0, none⟩) N' N') wa) := fun z hz => by
    rw [hz, HMK.out w, HWA.out, HM0.out]
  have hfr0 := hfr 0
  have hfr1 := hfr 1
  clear hfr
  have hsplit : (2 * (N : Int) ≤ 4 ∧ N' = 4) ∨ (¬ 2 * (N : Int) ≤ 4 ∧ (4 : Int) < 2 * (N : Int) ∧ N' = 2 * N) := by
    have q := HN'.out
    unfold moreI at q
    omega
  have HDR : Hid (∀ X : World, Below M w X → X.rowIs R 71 3 (hdF (slV g N c) f L.length) ∧ (0 < N → X.rowIs g 3 c S)) := fun X hX => ⟨H.out.hd.of_block (hX.block R hRM), fun hp => (H.out.row hp).of_block (hX.block g (by rw [← HM0.out]; exact (H.out.row hp).lt))⟩
  have hb0 : Below M w wa := by rw [← HM0.out]; exact HBA.out
  have d2 : wa.cell? ⟨R, 2, none⟩ = some (.int .i64 N) := by rw [← HFULL.out]; exact (HDR.out wa hb0).1.cell (i := 2) (by omega)
  have HB0 := Lib.hid hb0
  clear hb0
  rcases hsplit with ⟨h4, h5⟩ | ⟨h4, h4', h5⟩
  case' inl => have hmk := HMK2.out 4 (by omega)
  case' inr => have hmk := HMK2.out (2 * (N : Int)) (by omega)
  all_goals
    clear h5
    go_enter Try.func57, Try.ntmps57
    go_wp2_with fail
    go_loopw [3, 16] (fun _ iv wr => ∃ (j : Nat) (Sj : Nat → Value), iv = .int .i64 j ∧ j ≤ N ∧ wr.rowIs M 3 N' Sj ∧ (∀ i x, i < j → L[i]? = some x → Sj i = (Value.int .i64) x) ∧ Below M w wr) (fun _ iv _ => N - (intOf iv).toNat)
    case atStart => exact ⟨0, _, rfl, Nat.zero_le _, HGA.out, fun i x hi => absurd hi (Nat.not_lt_zero i), HB0.out⟩
    case round =>
      obtain ⟨j, Sj, rfl, hj, hg, hv, hb⟩ := hrel
      have HG := Lib.hid hg
      have HV := Lib.hid hv
      have HB := Lib.hid hb
      obtain ⟨hd1, hrow⟩ := HDR.out wr hb
      have HD1 := Lib.hid hd1
      clear hg hv hb hd1
      by_cases hlt : j < N
      · obtain ⟨y, hy⟩ : ∃ y, L[j]? = some y := ⟨_, List.getElem?_eq_getElem (by rw [HFULL.out]; exact hlt)⟩
        obtain ⟨hN0, hrp, hval⟩ := HVAL.out j y hy
        have HSL := Lib.hid (slotI_any R g N c f j wr (by rw [← slV_pos hN0]; exact HD1.out.cell (i := 0) (by omega)) (HD1.out.cell (i := 1) (by omega)) hN0 (by omega) (by have := H.out.fst; omega) (by omega))
        have ec := (hrow hN0).cell hrp
        rw [hval] at ec
        obtain ⟨p0, hp0⟩ : ∃ p, rp f N j = p := ⟨_, rfl⟩
        rw [hp0] at HSL ec
        have et := HG.out.cell (i := j) (by omega)
        have ef := HG.out.frozen j
        obtain ⟨old, hold⟩ : ∃ u, Sj j = u := ⟨_, rfl⟩
        rw [hold] at et
        have HY2 := Lib.hid hy
        have hj2 : (j : Int) < (N : Int) := by omega
        have hj3 : (j : Int) < (N' : Int) := by omega
        clear hy hN0 hrp hval hp0 hold hrow
        go_wp2_with fail
        refine HSL.out.mono ?_
        rintro e w5 ⟨rfl, n5, rfl⟩
        go_wp2
        go_roundw
        case rel => exact ⟨j + 1, _, by go_num, by omega, World.rowIs.set (w := wr.drewN _) HG.out j _, fun i x hi hx => by
          by_cases e : i = j
          · subst e
            rw [HY2.out] at hx
            injection hx with hx
            show (if i = i then _ else _) = _
            rw [if_pos rfl, hx]
          · show (if i = j then _ else _) = _
            rw [if_neg e]
            exact HV.out i x (by omega) hx, (HB.out.trans (below_drewN M wr n5)).setCell (p := ⟨M, j, none⟩) (Nat.le_refl _) _⟩
        case measure => simp only [intOf]; omega
      · obtain rfl : j = N := by omega
        have k0 := HD1.out.frozen 0
        have k1 := HD1.out.frozen 1
        have t0 := HD1.out.cell (i := 0) (by omega)
        have t1 := HD1.out.cell (i := 1) (by omega)
        obtain ⟨u0, hu0⟩ : ∃ u, hdF (slV g j c) f L.length 0 = u := ⟨_, rfl⟩
        obtain ⟨u1, hu1⟩ : ∃ u, hdF (slV g j c) f L.length 1 = u := ⟨_, rfl⟩
        rw [hu0] at t0
        rw [hu1] at t1
        clear hrow hu0 hu1
        go_wp2
        go_end0
        have hN'0 : 0 < N' := by omega
        refine ⟨rfl, M, Sj, Nat.le_of_eq HM0.out, ⟨?_, fun _ => ?_, Nat.le_refl _, Or.inl hN'0, ?_, ?_⟩, ?_⟩
        · exact ((HD1.out.set 0 _).set 1 _).congr (fun i hi => by
            unfold hdF
            rw [slV_pos hN'0]
            rcases (by omega : i = 0 ∨ i = 1 ∨ i = 2) with rfl | rfl | rfl <;> rfl)
        · exact (HG.out.setOther (a := ⟨R, 0, none⟩) (fun e => by have e : M = R := e; omega) _).setOther (a := ⟨R, 1, none⟩) (fun e => by have e : M = R := e; omega) _
        · rw [HFULL.out]; omega
        · intro i x hx
          have hi := lt_of_some hx
          rw [HFULL.out] at hi
          unfold rp
          rw [Nat.zero_add, Nat.mod_eq_of_lt (by omega)]
          exact HV.out i x hi hx
        · have ho : Only (· = R) w wr := Only.of_below (by rw [HM0.out]; exact HB.out)
          exact (ho.set (q := ⟨R, 0, none⟩) rfl _).set (q := ⟨R, 1, none⟩) rfl _

set_option maxRecDepth 100000 in
set_option maxHeartbeats 8000000 in
theorem frontI_slotOf {B R g N c f k : Nat} (hN : 0 < N) (hN2 : N ≤ 1000000) (hf : f ≤ 1000000) (hk : k ≤ 1000000) : SlotOfI 73 B R g k (hdF (slV g N c) f k) (rp f N) := by
  intro X i p hr hB hi hp
  subst hi
  exact front1I_any B R g N c f p X hB (by rw [← slV_pos hN]; exact hr.cell (i := 0) (by omega)) (hr.cell (i := 1) (by omega)) hN hN2 hf (by omega)

set_option maxRecDepth 100000 in
set_option maxHeartbeats 8000000 in
theorem backI_slotOf {B R g N c f k : Nat} (hN : 0 < N) (hN2 : N ≤ 1000000) (hf : f ≤ 1000000) (hk : k ≤ 1000000) : SlotOfI 75 B R g k (hdF (slV g N c) f k) (fun i => rp f N (k - 1 - i)) := by
  intro X i p hr hB hi hp
  subst hi
  exact back1I_any B R g N c f k p X hB (by rw [← slV_pos hN]; exact hr.cell (i := 0) (by omega)) (hr.cell (i := 1) (by omega)) (hr.cell (i := 2) (by omega)) hN hN2 hf hk hp

set_option maxRecDepth 100000 in
set_option maxHeartbeats 8000000 in
theorem frontI_moveOf {B R g N c f k : Nat} (by_ : Int) (m k2 : Nat) (hN : 0 < N) (hN2 : N ≤ 1000000) (hm : (m : Int) = f - by_ + N) (hm2 : m ≤ 100000000) (hk2 : (k2 : Int) = k + by_) (hk3 : k2 ≤ 1000000) : MoveOfI 74 by_ B R (hdF (slV g N c) f k) (hdF (slV g N c) (m % N) k2) := by
  intro X hr hB
  refine (front2I_any B R g N c f k k2 m by_ X hB (by rw [← slV_pos hN]; exact hr.cell (i := 0) (by omega)) (hr.cell (i := 1) (by omega)) (hr.cell (i := 2) (by omega)) (hr.frozen 1) (hr.frozen 2) hN hN2 hm hm2 hk2 hk3).mono ?_
  rintro e w' ⟨rfl, n, rfl⟩
  refine ⟨rfl, ?_, ((Only.drewN (· = R) X n).set (p := (· = R)) (q := ⟨R, 1, none⟩) rfl _).set (p := (· = R)) (q := ⟨R, 2, none⟩) rfl _⟩
  exact ((World.rowIs.set (w := X.drewN n) hr 1 _).set 2 _).congr (fun i hi => by
    unfold hdF
    rcases (by omega : i = 0 ∨ i = 1 ∨ i = 2) with rfl | rfl | rfl <;> rfl)

set_option maxRecDepth 100000 in
set_option maxHeartbeats 8000000 in
theorem backI_moveOf {B R f k : Nat} {s : Value} (by_ : Int) (k2 : Nat) (hk2 : (k2 : Int) = k + by_) (hk3 : k2 ≤ 1000000) : MoveOfI 76 by_ B R (hdF s f k) (hdF s f k2) := by
  intro X hr hB
  refine (back2I_any B R k k2 by_ X hB (hr.cell (i := 2) (by omega)) (hr.frozen 2) hk2 hk3).mono ?_
  rintro e w' ⟨rfl, rfl⟩
  refine ⟨rfl, ?_, (Only.refl (· = R) X).set (p := (· = R)) (q := ⟨R, 2, none⟩) rfl _⟩
  exact (hr.set 2 _).congr (fun i hi => by
    unfold hdF
    rcases (by omega : i = 0 ∨ i = 1 ∨ i = 2) with rfl | rfl | rfl <;> rfl)

end Go.Proofs.Ytkjcoengijedeab
