/-
  The walks of the document's own deep and Check at any tree. Conditions: the tree lies in memory, of bulk at most 1048576.
-/
import Derived.Test.YtbldahkgilkclaaDoorRiL
namespace Go.Proofs.YtbldahkgilkclaaDoor
open Go.RowKit

def DeepTells (v : Value) (M : Int) (d : Nat) (w : World) : Prop := Calls Tryd.prog 19 #[v, .int .i64 M] w fun e w' => e = .returned (.int .i64 d) ∧ Below w.heap.size w w'

def maxN (ys : Nat → Nat) : Nat → Nat
  | 0 => 0
  | k + 1 => max (maxN ys k) (ys k)

theorem maxN_le {ys : Nat → Nat} {b : Nat} : ∀ {n : Nat}, (∀ j, j < n → ys j ≤ b) → maxN ys n ≤ b
  | 0, _ => Nat.zero_le _
  | n + 1, h => by
    rw [maxN]
    have h1 := maxN_le (n := n) (fun j hj => h j (by omega))
    have h2 := h n (by omega)
    omega

theorem maxN_front (ys : Nat → Nat) : ∀ n, maxN ys (n + 1) = max (ys 0) (maxN (fun j => ys (j + 1)) n)
  | 0 => by simp [maxN]
  | n + 1 => by rw [maxN, maxN_front ys n, maxN]; omega

set_option maxRecDepth 100000 in
set_option maxHeartbeats 2000000 in
theorem rdeep_other (k : Int) (hk : k ≠ 6) (T : ByteArray) (n : Int) (A : Option Addr) (m c : Nat) (M : Int) (w : World) : DeepTells (.agg #[.int .i64 k, .string T, .int .i64 n, .slice A m c]) M 0 w := by
  have hk' : (k != 6) = true := by simp [hk]
  unfold DeepTells
  go_enter Tryd.func19, Tryd.ntmps19
  go_wp2
  go_ret
  exact ⟨rfl, (Below.refl _ _).alloc (Nat.le_refl _) _⟩

set_option maxRecDepth 100000 in
set_option maxHeartbeats 2000000 in
theorem rdeep_zero (T : ByteArray) (n : Int) (A : Option Addr) (m c : Nat) (w : World) : DeepTells (.agg #[.int .i64 6, .string T, .int .i64 n, .slice A m c]) 0 0 w := by
  unfold DeepTells
  go_enter Tryd.func19, Tryd.ntmps19
  go_wp2
  go_ret
  exact ⟨rfl, (Below.refl _ _).alloc (Nat.le_refl _) _⟩

set_option maxRecDepth 100000 in
set_option maxHeartbeats 8000000 in
theorem rdeep_more (T : ByteArray) (num : Int) (LA : Option Addr) (b o n cap : Nat) (p : Parts) (ys : Nat → Nat) (M : Int) (w : World) (hM : 1 ≤ M ∧ M ≤ 9) (hLA : 0 < n → LA = some ⟨b, o, none⟩) (hc : p.At w b o n) (hbig : n ≤ 140737488351232) (hys : ∀ j, j < n → ys j ≤ 100)
    (hT : ∀ i, i < n → ∀ w', Below w.heap.size w w' → DeepTells (p.val i) (M - 1) (ys i) w') : DeepTells (.agg #[.int .i64 6, .string T, .int .i64 num, .slice LA n cap]) M (maxN ys n + 1) w := by
  have h0 : (M == 0) = false := by rw [beq_eq_false_iff_ne]; omega
  have HC := Lib.hid hc
  have HMM := Lib.hid hT
  have HLA := Lib.hid hLA
  have HYS := Lib.hid hys
  clear hc hT hLA hys
  unfold DeepTells
  go_enter Tryd.func19, Tryd.ntmps19
  go_wp2
  obtain ⟨wa, hwa⟩ : ∃ wa, w.alloc (.cells #[.int .i64 6, .string T, .int .i64 num, .slice LA n cap] 25) = wa := ⟨_, rfl⟩
  have hba : Below w.heap.size w wa := by rw [← hwa]; exact (Below.refl _ _).alloc (Nat.le_refl _) _
  have hsa : wa.heap.size = w.heap.size + 1 := by rw [← hwa]; simp
  have ya : wa.cell? ⟨w.heap.size, 3, none⟩ = some (.slice LA n cap) := by rw [← hwa]; exact (cell_in (World.alloc_heap_new w _)).trans rfl
  try rw [hwa]
  have HBA := Lib.hid hba
  have HYA := Lib.hid ya
  clear hwa hba ya
  go_loopw [5, 6] (fun nv iv wr => ∃ j : Nat, iv = .int .i64 j ∧ j ≤ n ∧ nv = .int .i64 (maxN ys j : Nat) ∧ Below wa.heap.size wa wr) (fun _ iv _ => n - (intOf iv).toNat)
  case atStart => exact ⟨0, rfl, by omega, rfl, Below.refl _ _⟩
  case round =>
    obtain ⟨j, rfl, hj, rfl, hbr⟩ := hrel
    have za := (hbr.cell (p := ⟨w.heap.size, 3, none⟩) (by show w.heap.size < wa.heap.size; omega)).trans HYA.out
    have HBR := Lib.hid hbr
    have hzr := hbr.size
    have hwr : Below w.heap.size w wr := HBA.out.trans (hbr.mono (by omega))
    have HWR := Lib.hid hwr
    clear hbr
    obtain ⟨mx, hmx⟩ : ∃ mx, maxN ys j = mx := ⟨_, rfl⟩
    have hmx100 : mx ≤ 100 := by rw [← hmx]; exact maxN_le (fun i hi => HYS.out i (by omega))
    have HMX := Lib.hid hmx
    rw [hmx]
    clear hmx
    by_cases hlt : j < n
    · obtain rfl : LA = some ⟨b, o, none⟩ := HLA.out (by omega)
      have hbw : b < w.heap.size := World.block_lt_of_cell? w _ (HC.out j hlt).1
      obtain ⟨c0, c1, c2, c3⟩ := (HC.out.below hwr hbw) j hlt
      have HM := Lib.hid (HMM.out j hlt wr hwr)
      have hy100 := HYS.out j hlt
      have HST : Hid (maxN ys (j + 1) = max mx (ys j)) := by unfold Hid; rw [maxN, HMX.out]
      unfold Parts.val DeepTells at HM
      generalize p.k j = k0 at c0 HM
      generalize p.t j = t0 at c1 HM
      generalize p.n j = n0 at c2 HM
      generalize p.a j = a0 at c3 HM
      generalize p.m j = m0 at c3 HM
      generalize p.c j = cc0 at c3 HM
      generalize ys j = yj at HM hy100 HST
      clear hwr
      by_cases hle : yj ≤ mx
      · have HEQ : Hid (max mx yj = mx) := by unfold Hid; omega
        go_wp2_with fail
        refine HM.out.mono ?_
        rintro e w2 ⟨rfl, hb2⟩
        have HB2 := Lib.hid (HBR.out.trans (hb2.mono hzr))
        clear hb2
        go_wp2
        go_roundw
        case rel => exact ⟨j + 1, by go_num, by omega, by rw [HST.out, HEQ.out] <;> first | rfl | (congr 1; omega), HB2.out⟩
        case measure => simp only [intOf]; omega
      · have HEQ : Hid (max mx yj = yj) := by unfold Hid; omega
        go_wp2_with fail
        refine HM.out.mono ?_
        rintro e w2 ⟨rfl, hb2⟩
        have HB2 := Lib.hid (HBR.out.trans (hb2.mono hzr))
        clear hb2
        go_wp2
        go_roundw
        case rel => exact ⟨j + 1, by go_num, by omega, by rw [HST.out, HEQ.out] <;> first | rfl | (congr 1; omega), HB2.out⟩
        case measure => simp only [intOf]; omega
    · obtain rfl : j = n := by omega
      clear hwr
      go_wp2
      go_ret
      exact ⟨by rw [HMX.out] <;> first | rfl | (simp; omega), HWR.out⟩

/-- How many arrays stand in one another, as far as that is not too many. -/
def deepI : RI → Nat → Nat
  | .node k _ _ l, d => if k = 6 then (match d with | 0 => 0 | d + 1 => deepIs l d + 1) else 0
where
  deepIs : List RI → Nat → Nat
  | [], _ => 0
  | x :: l, d => max (deepI x d) (deepIs l d)

theorem deepIs_get (d : Nat) : ∀ (l : List RI) (ys : Nat → Nat), (∀ j x, l[j]? = some x → ys j = deepI x d) → maxN ys l.length = deepI.deepIs l d
  | [], ys, _ => rfl
  | x :: l, ys, h => by
    have ih := deepIs_get d l (fun j => ys (j + 1)) (fun j y hy => h (j + 1) y (by simpa using hy))
    rw [List.length_cons, maxN_front, ih, h 0 x rfl, deepI.deepIs]

theorem deepI_le : ∀ (N : Nat) (x : RI), bulkI x ≤ N → ∀ d, deepI x d ≤ d := by
  intro N
  induction N with
  | zero => intro x hx; have := bulkI_pos x; omega
  | succ N ih =>
    intro x hx d
    obtain ⟨k, t, n, l⟩ := x
    rw [bulkI] at hx
    rw [deepI.eq_def]
    dsimp only
    by_cases hk : k = 6
    · rw [if_pos hk]
      cases d with
      | zero => exact Nat.le_refl _
      | succ d =>
        have : deepI.deepIs l d ≤ d := by
          rw [← deepIs_get d l (fun j => match l[j]? with | some x => deepI x d | none => 0) (fun j x hx => by simp only [hx])]
          refine maxN_le (fun j hj => ?_)
          obtain ⟨y, hy⟩ : ∃ y, l[j]? = some y := ⟨_, List.getElem?_eq_getElem hj⟩
          simp only [hy]
          exact ih y (by have := bulkIs_mem (List.mem_of_getElem? hy); omega) d
        show deepI.deepIs l d + 1 ≤ d + 1
        omega
    · rw [if_neg hk]; exact Nat.zero_le _

theorem deepIs_gt (d : Nat) : ∀ (l : List RI), (∀ x ∈ l, (d < deepI x (d + 1) ↔ nestsI x d = true)) → (d < deepI.deepIs l (d + 1) ↔ nestsI.nestsIs l d = true)
  | [], _ => by rw [deepI.deepIs, nestsI.nestsIs]; simp
  | x :: l, h => by
    have ih := deepIs_gt d l (fun y hy => h y (by simp [hy]))
    have hx := h x (by simp)
    rw [deepI.deepIs, nestsI.nestsIs, Bool.or_eq_true, ← ih, ← hx]
    omega

theorem deepI_gt : ∀ (N : Nat) (x : RI), bulkI x ≤ N → ∀ d, (d < deepI x (d + 1) ↔ nestsI x d = true) := by
  intro N
  induction N with
  | zero => intro x hx; have := bulkI_pos x; omega
  | succ N ih =>
    intro x hx d
    obtain ⟨k, t, n, l⟩ := x
    rw [bulkI] at hx
    rw [deepI.eq_def, nestsI.eq_def]
    dsimp only
    by_cases hk : k = 6
    · rw [if_pos hk, if_pos hk]
      cases d with
      | zero => simp
      | succ d =>
        have := deepIs_gt d l (fun y hy => ih y (by have := bulkIs_mem hy; omega) d)
        rw [← this]
        omega
    · rw [if_neg hk, if_neg hk]; simp

theorem rdeep_I : ∀ (N : Nat) (x : RI), bulkI x ≤ N → N ≤ 1048576 → ∀ (d : Nat), d ≤ 9 → ∀ (w : World) (cs : List Value), RepI w x cs → ∀ w', Below w.heap.size w w' → DeepTells (.agg cs.toArray) (d : Int) (deepI x d) w' := by
  intro N
  induction N with
  | zero => intro x hx; have := bulkI_pos x; omega
  | succ N ih =>
    intro x hx hN d hd w cs h w' hb
    obtain ⟨k, t, n, l⟩ := x
    obtain ⟨T, A, g, o, c, p, rfl, hT, hl, hm, _, hA, hAt, hc⟩ := h.row
    rw [bulkI] at hx
    rw [deepI.eq_def]
    dsimp only
    by_cases hk : k = 6
    · subst hk
      rw [if_pos rfl]
      cases d with
      | zero => exact rdeep_zero T n A l.length c w'
      | succ d =>
        have hx : ∀ j, j < l.length → ∃ x, l[j]? = some x := fun j hj => ⟨_, List.getElem?_eq_getElem hj⟩
        have h1 := rdeep_more T n A g o l.length c p (fun j => match l[j]? with | some x => deepI x d | none => 0) ((d + 1 : Nat) : Int) w' (by omega) (fun q => (hA q).1) (fun i hi => (hAt.below hb (hA (by omega)).2) i hi) (by have := bulkIs_len l; omega)
          (fun j hj => by
            obtain ⟨x, hx⟩ := hx j hj
            simp only [hx]
            have := deepI_le _ x (Nat.le_refl _) d
            omega)
          (fun j hj w2 hb2 => by
            obtain ⟨x, hx⟩ := hx j hj
            have h2 := ih x (by have := bulkIs_mem (List.mem_of_getElem? hx); omega) (by omega) d (by omega) w _ (hc j x hx) w2 (hb.trans (hb2.mono hb.size))
            unfold Parts.val
            simp only [hx]
            rw [show ((d + 1 : Nat) : Int) - 1 = (d : Int) from by omega]
            exact h2)
        rw [deepIs_get d l _ (fun j x hx => by simp only [hx])] at h1
        exact h1
    · rw [if_neg hk]
      exact rdeep_other k hk T n A l.length c d w'

set_option maxRecDepth 100000 in
set_option maxHeartbeats 2000000 in
theorem rcheck_of (k : Int) (T : ByteArray) (n : Int) (A : Option Addr) (m c : Nat) (d : Nat) (r2 : Bool) (w : World) (HN : ∀ w', Below w.heap.size w w' → DeepTells (.agg #[.int .i64 k, .string T, .int .i64 n, .slice A m c]) 9 d w') (HM : ∀ w', Below w.heap.size w w' → RightTells (.agg #[.int .i64 k, .string T, .int .i64 n, .slice A m c]) r2 w') :
    Calls Tryd.prog 9 #[.agg #[.int .i64 k, .string T, .int .i64 n, .slice A m c]] w fun e w' => e = .returned (.int .i64 (if 8 < d then 32 else if r2 then 0 else 30)) ∧ Below w.heap.size w w' := by
  have HHN := Lib.hid HN
  have HHM := Lib.hid HM
  clear HN HM
  obtain ⟨wb, hwb⟩ : ∃ wb, w.alloc (.cells #[.int .i64 k, .string T, .int .i64 n, .slice A m c] 25) = wb := ⟨_, rfl⟩
  have hnew : wb.heap[w.heap.size]? = some (.cells #[.int .i64 k, .string T, .int .i64 n, .slice A m c] 25) := by rw [← hwb]; exact World.alloc_heap_new w _
  have hbw : Below w.heap.size w wb := by rw [← hwb]; exact (Below.refl _ _).alloc (Nat.le_refl _) _
  have hlt : w.heap.size < wb.heap.size := by rw [← hwb]; simp
  have HW := Lib.hid hwb
  have HNEW := Lib.hid hnew
  have HBW := Lib.hid hbw
  clear hwb hnew hbw
  go_enter Tryd.func9, Tryd.ntmps9
  go_wp2_with fail
  rw [HW.out]
  refine Calls.mono (HHN.out wb HBW.out) ?_
  rintro e w2 ⟨rfl, hb2⟩
  have HB2 := Lib.hid (HBW.out.trans (hb2.mono (by omega)))
  have r0' : w2.cell? ⟨w.heap.size, 0, none⟩ = some (.int .i64 k) := (hb2.cell (p := ⟨w.heap.size, 0, none⟩) hlt).trans (cell_in HNEW.out)
  have r1' : w2.cell? ⟨w.heap.size, 1, none⟩ = some (.string T) := (hb2.cell (p := ⟨w.heap.size, 1, none⟩) hlt).trans (cell_in HNEW.out)
  have r2' : w2.cell? ⟨w.heap.size, 2, none⟩ = some (.int .i64 n) := (hb2.cell (p := ⟨w.heap.size, 2, none⟩) hlt).trans (cell_in HNEW.out)
  have r3' : w2.cell? ⟨w.heap.size, 3, none⟩ = some (.slice A m c) := (hb2.cell (p := ⟨w.heap.size, 3, none⟩) hlt).trans (cell_in HNEW.out)
  have hz2 := hb2.size
  clear hb2
  by_cases h8 : 8 < d
  · go_wp2
    go_ret
    exact ⟨by first | rfl | simp [h8], HB2.out⟩
  · go_wp2_with fail
    refine Calls.mono (HHM.out w2 HB2.out) ?_
    rintro e w3 ⟨rfl, hb3⟩
    have HB3 := Lib.hid (HB2.out.trans (hb3.mono (by omega)))
    clear hb3 r0' r1' r2' r3'
    cases r2
    all_goals
      go_wp2
      go_ret
      exact ⟨by first | rfl | simp [h8], HB3.out⟩

theorem rcheck_I (x : RI) (hbk : bulkI x ≤ 1048576) (w0 : World) (cs : List Value) (h : RepI w0 x cs) (w : World) (hb : Below w0.heap.size w0 w) :
    Calls Tryd.prog 9 #[.agg cs.toArray] w fun e w' => e = .returned (.int .i64 (checkI x)) ∧ Below w.heap.size w w' := by
  have h1 := fun w' (hb' : Below w.heap.size w w') => rdeep_I _ x hbk (Nat.le_refl _) 9 (by omega) w0 cs h w' (hb.trans (hb'.mono hb.size))
  have h2 := fun w' (hb' : Below w.heap.size w w') => rright_I _ x hbk (Nat.le_refl _) w0 cs h w' (hb.trans (hb'.mono hb.size))
  obtain ⟨k, T, n, A, m, c, rfl⟩ := h.parts
  refine (rcheck_of k T n A m c (deepI x 9) (mayI x) w h1 h2).mono ?_
  rintro e w' ⟨rfl, hq⟩
  refine ⟨?_, hq⟩
  have := deepI_gt _ x (Nat.le_refl _) 8
  unfold checkI
  congr 2
  by_cases h8 : 8 < deepI x 9
  · rw [if_pos h8, if_pos (this.1 h8)]
  · rw [if_neg h8]
    cases hq : nestsI x 8 with
    | false => rfl
    | true => exact absurd (this.2 hq) h8

end Go.Proofs.YtbldahkgilkclaaDoor
