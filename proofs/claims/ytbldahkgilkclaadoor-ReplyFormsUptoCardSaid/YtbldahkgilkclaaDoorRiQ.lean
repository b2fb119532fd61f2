/-
  The walks of package reply's Same and of slices.EqualFunc over it, at any two trees. Conditions: the trees lie in memory, the first of bulk at most 1048576.
-/
import Derived.Test.YtbldahkgilkclaaDoorRiE
namespace Go.Proofs.YtbldahkgilkclaaDoor
open Go.RowKit

def SameTells (v v' : Value) (r : Bool) (w : World) : Prop := Calls Tryd.prog 10 #[v, v'] w fun e w' => e = .returned (.bool r) ∧ Below w.heap.size w w'

set_option maxRecDepth 100000 in
set_option maxHeartbeats 8000000 in
theorem pequal_any (LA LB : Option Addr) (b o b' o' n n' cap cap' : Nat) (p p' : Parts) (ok : Nat → Bool) (w : World) (hLA : 0 < n → LA = some ⟨b, o, none⟩) (hLB : 0 < n' → LB = some ⟨b', o', none⟩) (hc : p.At w b o n) (hc' : p'.At w b' o' n') (hbig : n ≤ 140737488351232) (hbig' : n' ≤ 9223372036854775807)
    (hM : n = n' → ∀ i, i < n → ∀ w', Below w.heap.size w w' → SameTells (p.val i) (p'.val i) (ok i) w') :
    Calls Tryd.prog 21 #[.slice LA n cap, .slice LB n' cap', .func (.func 10) #[] #[]] w fun e w' => e = .returned (.bool (decide (n = n') && allOk n ok)) ∧ Below w.heap.size w w' := by
  by_cases hn : n = n'
  · subst hn
    have HC := Lib.hid hc
    have HC' := Lib.hid hc'
    have HMM := Lib.hid (hM rfl)
    have HLA := Lib.hid hLA
    have HLB := Lib.hid hLB
    have HAL := Lib.hid (allOk_iff n ok)
    obtain ⟨R, hR⟩ : ∃ R, allOk n ok = R := ⟨_, rfl⟩
    rw [hR] at HAL ⊢
    have HRR : Hid ((decide (n = n) && R) = R) := by unfold Hid; simp
    rw [HRR.out]
    clear hc hc' hM hLA hLB hR HRR
    go_enter Tryd.func21, Tryd.ntmps21
    go_wp2
    go_loopw [7, 8, 9, 17] (fun _ _ _ i wr => ∃ k : Nat, i = .int .i64 k ∧ k ≤ n ∧ Below w.heap.size w wr ∧ Hid (∀ j, j < k → ok j = true)) (fun _ _ _ i _ => n - (intOf i).toNat)
    case atStart => exact ⟨0, rfl, by omega, Below.refl _ _, fun t ht => by omega⟩
    case round =>
      obtain ⟨k, rfl, hk, hbl, HK⟩ := hrel
      have HBL := Lib.hid hbl
      have hzr := hbl.size
      clear hbl
      by_cases hlt : k < n
      · obtain rfl : LA = some ⟨b, o, none⟩ := HLA.out (by omega)
        obtain rfl : LB = some ⟨b', o', none⟩ := HLB.out (by omega)
        have hbw : b < w.heap.size := World.block_lt_of_cell? w _ (HC.out k hlt).1
        have hbw' : b' < w.heap.size := World.block_lt_of_cell? w _ (HC'.out k hlt).1
        have hbr : b < wr.heap.size := Nat.lt_of_lt_of_le hbw hzr
        have hbr' : b' < wr.heap.size := Nat.lt_of_lt_of_le hbw' hzr
        obtain ⟨c0, c1, c2, c3⟩ := (HC.out.below HBL.out hbw) k hlt
        obtain ⟨d0, d1, d2, d3⟩ := (HC'.out.below HBL.out hbw') k hlt
        have HM := Lib.hid (fun w' (hb : Below wr.heap.size wr w') => HMM.out k hlt w' (HBL.out.trans (hb.mono hzr)))
        unfold Parts.val SameTells at HM
        generalize p.k k = k0 at c0 HM
        generalize p.t k = t0 at c1 HM
        generalize p.n k = n0 at c2 HM
        generalize p.a k = a0 at c3 HM
        generalize p.m k = m0 at c3 HM
        generalize p.c k = cc0 at c3 HM
        generalize p'.k k = k0' at d0 HM
        generalize p'.t k = t0' at d1 HM
        generalize p'.n k = n0' at d2 HM
        generalize p'.a k = a0' at d3 HM
        generalize p'.m k = m0' at d3 HM
        generalize p'.c k = cc0' at d3 HM
        cases hok : ok k with
        | true =>
          rw [hok] at HM
          go_wp2_with fail
          refine (HM.out _ (((Below.refl wr.heap.size wr).alloc (Nat.le_refl _) _).alloc (by simp) _)).mono ?_
          rintro e w2 ⟨rfl, hb2⟩
          have HB2 := Lib.hid (HBL.out.trans (((((Below.refl wr.heap.size wr).alloc (Nat.le_refl _) _).alloc (by simp) _).trans (hb2.mono (by simp <;> omega))).mono hzr))
          clear hb2
          go_wp2
          go_roundw
          case rel => exact ⟨k + 1, by go_num, by omega, HB2.out, fun j hj => by
            rcases Nat.lt_or_ge j k with h | h
            · exact HK.out j h
            · obtain rfl : j = k := by omega
              exact hok⟩
          case measure => simp only [intOf]; omega
        | false =>
          have : R = false := by
            cases R with
            | false => rfl
            | true => have := HAL.out.1 rfl k hlt; rw [hok] at this; cases this
          subst this
          rw [hok] at HM
          go_wp2_with fail
          refine (HM.out _ (((Below.refl wr.heap.size wr).alloc (Nat.le_refl _) _).alloc (by simp) _)).mono ?_
          rintro e w2 ⟨rfl, hb2⟩
          have HB2 := Lib.hid (HBL.out.trans (((((Below.refl wr.heap.size wr).alloc (Nat.le_refl _) _).alloc (by simp) _).trans (hb2.mono (by simp <;> omega))).mono hzr))
          clear hb2
          go_wp2
          go_ret
          exact ⟨rfl, HB2.out⟩
      · obtain rfl : k = n := by omega
        have : R = true := HAL.out.2 (fun i hi => HK.out i hi)
        subst this
        go_wp2
        go_ret
        exact ⟨rfl, HBL.out⟩
  · have hq : ((n : Int) != (n' : Int)) = true := by simp; omega
    have HR : Hid ((decide (n = n') && allOk n ok) = false) := by unfold Hid; simp [hn]
    rw [HR.out]
    clear hc hc' hM hLA hLB HR
    go_enter Tryd.func21, Tryd.ntmps21
    go_wp2
    go_ret
    exact ⟨rfl, Below.refl _ _⟩

set_option maxRecDepth 100000 in
set_option maxHeartbeats 4000000 in
theorem psame_parts (k k' : Int) (T S : ByteArray) (n n' : Int) (A B : Option Addr) (m m' c c' : Nat) (w : World) (hne : k ≠ k' ∨ T ≠ S ∨ n ≠ n') :
    SameTells (.agg #[.int .i64 k, .string T, .int .i64 n, .slice A m c]) (.agg #[.int .i64 k', .string S, .int .i64 n', .slice B m' c']) false w := by
  have HB := Lib.hid (((Below.refl w.heap.size w).alloc (Nat.le_refl _) (.cells #[.int .i64 k, .string T, .int .i64 n, .slice A m c] 25)).alloc (by simp) (.cells #[.int .i64 k', .string S, .int .i64 n', .slice B m' c'] 25))
  unfold SameTells
  by_cases hk : k = k'
  · subst hk
    by_cases hT : T = S
    · subst hT
      have hn : n ≠ n' := by simpa using hne
      have hn' : (n == n') = false := by simp [hn]
      clear hne
      go_enter Tryd.func10, Tryd.ntmps10
      go_wp2
      go_ret
      exact ⟨rfl, HB.out⟩
    · have hT' : ¬ (T.toList = S.toList) := fun h => hT (bytes_ext (by rw [← Lib.toList_data, ← Lib.toList_data]; exact h))
      clear hne
      go_enter Tryd.func10, Tryd.ntmps10
      go_wp2
      go_ret
      exact ⟨rfl, HB.out⟩
  · have hk' : (k == k') = false := by simp [hk]
    clear hne
    go_enter Tryd.func10, Tryd.ntmps10
    go_wp2
    go_ret
    exact ⟨rfl, HB.out⟩

set_option maxRecDepth 100000 in
set_option maxHeartbeats 4000000 in
theorem psame_of (k : Int) (T : ByteArray) (n : Int) (A B : Option Addr) (m m' c c' : Nat) (r : Bool) (w : World)
    (HE : ∀ w', Below w.heap.size w w' → Calls Tryd.prog 21 #[.slice A m c, .slice B m' c', .func (.func 10) #[] #[]] w' fun e w2 => e = .returned (.bool r) ∧ Below w'.heap.size w' w2) :
    SameTells (.agg #[.int .i64 k, .string T, .int .i64 n, .slice A m c]) (.agg #[.int .i64 k, .string T, .int .i64 n, .slice B m' c']) r w := by
  have hb0 := ((Below.refl w.heap.size w).alloc (Nat.le_refl _) (.cells #[.int .i64 k, .string T, .int .i64 n, .slice A m c] 25)).alloc (by simp) (.cells #[.int .i64 k, .string T, .int .i64 n, .slice B m' c'] 25)
  have HB := Lib.hid hb0
  have HHE := Lib.hid HE
  clear HE hb0
  unfold SameTells
  go_enter Tryd.func10, Tryd.ntmps10
  go_wp2_with fail
  refine (HHE.out _ HB.out).mono ?_
  rintro e w2 ⟨rfl, hb2⟩
  have HB2 := Lib.hid (HB.out.trans (hb2.mono (by simp <;> omega)))
  clear hb2
  cases r
  all_goals
    go_wp2
    go_ret
    exact ⟨rfl, HB2.out⟩

theorem sameOk (l l' : List RI) (h : l.length = l'.length) : allOk l.length (fun j => match l[j]?, l'[j]? with | some x, some y => sameI x y | _, _ => true) = sameI.sameIs l l' := by
  rw [Bool.eq_iff_iff, allOk_iff, sameIs_iff h]
  constructor
  · intro q j x y hx hy
    have := q j (List.getElem?_eq_some_iff.1 hx).1
    simp only [hx, hy] at this
    exact this
  · intro q j hj
    obtain ⟨x, hx⟩ : ∃ x, l[j]? = some x := ⟨_, List.getElem?_eq_getElem hj⟩
    obtain ⟨y, hy⟩ : ∃ y, l'[j]? = some y := ⟨_, List.getElem?_eq_getElem (by omega)⟩
    simp only [hx, hy]
    exact q j x y hx hy

theorem psame_I : ∀ (N : Nat) (x : RI), bulkI x ≤ N → N ≤ 1048576 → ∀ (y : RI) (w : World) (cs ds : List Value), RepI w x cs → RepI w y ds → ∀ w', Below w.heap.size w w' → SameTells (.agg cs.toArray) (.agg ds.toArray) (sameI x y) w' := by
  intro N
  induction N with
  | zero => intro x hx; have := bulkI_pos x; omega
  | succ N ih =>
    intro x hx hN y w cs ds h h' w' hb
    obtain ⟨k, t, n, l⟩ := x
    obtain ⟨k', t', n', l'⟩ := y
    obtain ⟨T, A, g, o, c, p, rfl, hT, hl, hm, hn, hA, hAt, hc⟩ := h.row
    obtain ⟨T', A', g', o', c', p', rfl, hT', hl', hm', hn', hA', hAt', hc'⟩ := h'.row
    rw [bulkI] at hx
    rw [sameI]
    by_cases hne : k ≠ k' ∨ T ≠ T' ∨ n ≠ n'
    · have : (decide (k = k') && (decide (t = t') && (decide (n = n') && (decide (l.length = l'.length) && sameI.sameIs l l')))) = false := by
        rw [Bool.eq_false_iff]
        intro q
        simp only [Bool.and_eq_true, decide_eq_true_eq] at q
        rcases hne with h | h | h
        · exact h q.1
        · exact h (bytes_ext (by rw [hT, hT', q.2.1]))
        · exact h q.2.2.1
      rw [this]
      exact psame_parts k k' T T' n n' A A' l.length l'.length c c' w' hne
    · obtain ⟨rfl, h2⟩ : k = k' ∧ ¬ (T ≠ T' ∨ n ≠ n') := ⟨Decidable.byContradiction fun h => hne (Or.inl h), fun h => hne (Or.inr h)⟩
      obtain ⟨rfl, h3⟩ : T = T' ∧ ¬ n ≠ n' := ⟨Classical.byContradiction fun h => h2 (Or.inl h), fun h => h2 (Or.inr h)⟩
      obtain rfl : n = n' := Decidable.byContradiction h3
      obtain rfl : t = t' := by rw [← hT, ← hT']
      have hx : ∀ j, j < l.length → ∃ x, l[j]? = some x := fun j hj => ⟨_, List.getElem?_eq_getElem hj⟩
      have hx' : ∀ j, j < l'.length → ∃ x, l'[j]? = some x := fun j hj => ⟨_, List.getElem?_eq_getElem hj⟩
      have hr : (decide (k = k) && (decide (t = t) && (decide (n = n) && (decide (l.length = l'.length) && sameI.sameIs l l')))) = (decide (l.length = l'.length) && allOk l.length (fun j => match l[j]?, l'[j]? with | some x, some y => sameI x y | _, _ => true)) := by
        by_cases hlen : l.length = l'.length
        · rw [sameOk l l' hlen]; simp
        · simp [hlen]
      rw [hr]
      refine psame_of k T n A A' l.length l'.length c c' _ w' (fun w2 hb2 => ?_)
      have hb02 := hb.trans (hb2.mono hb.size)
      refine pequal_any A A' g o g' o' l.length l'.length c c' p p' _ w2 (fun q => (hA q).1) (fun q => (hA' q).1) (fun i hi => (hAt.below hb02 (hA (by omega)).2) i hi) (fun i hi => (hAt'.below hb02 (hA' (by omega)).2) i hi) (by have := bulkIs_len l; omega) (by omega) (fun hlen j hj w3 hb3 => ?_)
      obtain ⟨x, hxj⟩ := hx j hj
      obtain ⟨y, hyj⟩ := hx' j (by omega)
      have h2 := ih x (by have := bulkIs_mem (List.mem_of_getElem? hxj); omega) (by omega) y w _ _ (hc j x hxj) (hc' j y hyj) w3 (hb02.trans (hb3.mono hb02.size))
      unfold Parts.val
      simp only [hxj, hyj]
      exact h2

end Go.Proofs.YtbldahkgilkclaaDoor
