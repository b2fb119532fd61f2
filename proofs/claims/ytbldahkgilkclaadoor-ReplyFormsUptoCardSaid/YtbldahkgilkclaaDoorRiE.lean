/-
  Plain facts: a reply that Check bears is one of which there and back is told. The walk of the document's own Same at any two trees. The walk of the document's own Same at any two trees. Conditions: as typed.
-/
import Derived.Test.YtbldahkgilkclaaDoorRiA
import Derived.Test.YtbldahkgilkclaaDoorRzX
import Derived.Test.YtbldahkgilkclaaDoorRdG
namespace Go.Proofs.YtbldahkgilkclaaDoor
open Go.RowKit

def toRT : RI → RT
  | .node k t n l => .node k.toNat t n (toRTs l)
where
  toRTs : List RI → List RT
  | [] => []
  | x :: l => toRT x :: toRTs l

theorem toRTs_length : ∀ l : List RI, (toRT.toRTs l).length = l.length
  | [] => rfl
  | x :: l => by rw [toRT.toRTs, List.length_cons, List.length_cons, toRTs_length l]

theorem toRTs_mem : ∀ {l : List RI} {y : RT}, y ∈ toRT.toRTs l → ∃ x, x ∈ l ∧ y = toRT x
  | x :: l, y, h => by
    rw [toRT.toRTs] at h
    rcases List.mem_cons.1 h with rfl | h
    · exact ⟨x, by simp, rfl⟩
    · obtain ⟨z, hz, e⟩ := toRTs_mem h
      exact ⟨z, by simp [hz], e⟩

theorem toRTs_get : ∀ {l : List RI} {j : Nat} {y : RT}, (toRT.toRTs l)[j]? = some y → ∃ x, l[j]? = some x ∧ y = toRT x
  | x :: l, 0, y, h => by
    rw [toRT.toRTs] at h
    simp only [List.getElem?_cons_zero, Option.some.injEq] at h
    exact ⟨x, rfl, h.symm⟩
  | x :: l, j + 1, y, h => by
    rw [toRT.toRTs] at h
    simp only [List.getElem?_cons_succ] at h ⊢
    exact toRTs_get h
  | [], j, y, h => by rw [toRT.toRTs] at h; simp at h

theorem mayIs_mem : ∀ {l : List RI}, mayI.mayIs l = true → ∀ x ∈ l, mayI x = true
  | y :: l, h, x, hx => by
    rw [mayI.mayIs, Bool.and_eq_true] at h
    rcases List.mem_cons.1 hx with rfl | hx
    · exact h.1
    · exact mayIs_mem h.2 x hx

theorem nestsIs_mem : ∀ {l : List RI} {d : Nat}, nestsI.nestsIs l d = false → ∀ x ∈ l, nestsI x d = false
  | y :: l, d, h, x, hx => by
    rw [nestsI.nestsIs, Bool.or_eq_false_iff] at h
    rcases List.mem_cons.1 hx with rfl | hx
    · exact h.1
    · exact nestsIs_mem h.2 x hx

theorem writeIs_eq : ∀ {l : List RI}, (∀ x ∈ l, writeI x = writeR (toRT x)) → writeI.writeIs l = writeR.writeRs (toRT.toRTs l)
  | [], _ => rfl
  | x :: l, h => by rw [writeI.writeIs, toRT.toRTs, writeR.writeRs, h x (by simp), writeIs_eq (fun y hy => h y (by simp [hy]))]

/-- Whatever Check bears may be; its bytes are those of which there and back is told. -/
theorem valid_I {w : World} : ∀ (N : Nat) (x : RI), bulkI x ≤ N → ∀ (d : Nat) (cs : List Value), RepI w x cs → mayI x = true → nestsI x d = false → MayR d (toRT x) ∧ writeI x = writeR (toRT x) := by
  intro N
  induction N with
  | zero => intro x hx; have := bulkI_pos x; omega
  | succ N ih =>
    intro x hx d cs h hm hn
    obtain ⟨k, t, n, l⟩ := x
    obtain ⟨T, A, g, o, c, p, rfl, hT, hl, hm63, hn64, hA, hAt, hc⟩ := h.row
    rw [bulkI] at hx
    rw [mayI] at hm
    rw [nestsI.eq_def] at hn
    dsimp only at hn
    by_cases hk : k = 6
    · subst hk
      rw [if_pos rfl] at hm hn
      simp only [Bool.and_eq_true, decide_eq_true_eq, List.isEmpty_iff] at hm
      obtain ⟨rfl, rfl, hl, hs⟩ := hm
      cases d with
      | zero => cases hn
      | succ d =>
        have hq : ∀ x ∈ l, MayR d (toRT x) ∧ writeI x = writeR (toRT x) := fun x hx => by
          obtain ⟨j, hj⟩ := List.getElem?_of_mem hx
          exact ih x (by have := bulkIs_mem hx; omega) d _ (hc j x hj) (mayIs_mem hs x hx) (nestsIs_mem hn x hx)
        refine ⟨?_, ?_⟩
        · rw [toRT]
          refine .arr d _ (by rw [toRTs_length]; exact hl) (fun y hy => ?_)
          obtain ⟨x, hx, rfl⟩ := toRTs_mem hy
          exact (hq x hx).1
        · rw [toRT, writeI, writeR, writeIs_eq (fun x hx => (hq x hx).2), toRTs_length]
          simp
    · rw [if_neg hk] at hm
      unfold leafOk at hm
      by_cases h12 : k = 1 ∨ k = 2
      · rw [if_pos (by omega)] at hm
        have hm := of_decide_eq_true hm
        obtain ⟨rfl, hl, hs, hcr⟩ := hm
        obtain rfl := List.length_eq_zero_iff.1 hl
        refine ⟨?_, ?_⟩
        · exact .line d k.toNat t (by omega) ((noAny_crlf ⟨t.toArray⟩).1 hcr) hs
        · rcases h12 with rfl | rfl
          · rw [toRT, writeI, writeR]; simp
          · rw [toRT, writeI, writeR]; simp
      · rw [if_neg (by omega)] at hm
        by_cases h3 : k = 3
        · subst h3
          rw [if_pos (by omega)] at hm
          simp only [Bool.and_eq_true, decide_eq_true_eq] at hm
          obtain ⟨ht, hl⟩ := hm
          rw [Lib.toList_data] at ht
          obtain rfl : t = [] := List.isEmpty_iff.1 ht
          obtain rfl := List.length_eq_zero_iff.1 hl
          refine ⟨.int d n hn64.1 hn64.2, ?_⟩
          rw [toRT, writeI, writeR]; simp
        · rw [if_neg (by omega)] at hm
          by_cases h4 : k = 4
          · subst h4
            rw [if_pos (by omega)] at hm
            obtain ⟨rfl, hl, hs⟩ := of_decide_eq_true hm
            obtain rfl := List.length_eq_zero_iff.1 hl
            refine ⟨.bulk d t hs, ?_⟩
            rw [toRT, writeI, writeR]; simp [bulkW]
          · rw [if_neg (by omega)] at hm
            by_cases h5 : k = 5 ∨ k = 7
            · rw [if_pos (by omega)] at hm
              simp only [Bool.and_eq_true, decide_eq_true_eq] at hm
              obtain ⟨ht, rfl, hl⟩ := hm
              rw [Lib.toList_data] at ht
              obtain rfl : t = [] := List.isEmpty_iff.1 ht
              obtain rfl := List.length_eq_zero_iff.1 hl
              refine ⟨.nils d k.toNat (by omega), ?_⟩
              rcases h5 with rfl | rfl
              · rw [toRT, writeI, writeR]; simp
              · rw [toRT, writeI, writeR]; simp
            · rw [if_neg (by omega)] at hm
              cases hm

/-- Two trees are alike. -/
def sameI : RI → RI → Bool
  | .node k t n l, .node k' t' n' l' => decide (k = k') && (decide (t = t') && (decide (n = n') && (decide (l.length = l'.length) && sameIs l l')))
where
  sameIs : List RI → List RI → Bool
  | x :: l, y :: l' => sameI x y && sameIs l l'
  | _, _ => true

theorem sameIs_iff : ∀ {l l' : List RI}, l.length = l'.length → (sameI.sameIs l l' = true ↔ ∀ (j : Nat) (x y : RI), l[j]? = some x → l'[j]? = some y → sameI x y = true)
  | [], [], _ => ⟨fun _ j x y h => by simp at h, fun _ => by rw [sameI.sameIs]; intro a b c d h; cases h⟩
  | x :: l, y :: l', h => by
    have ih := sameIs_iff (l := l) (l' := l') (by simpa using h)
    rw [sameI.sameIs, Bool.and_eq_true, ih]
    constructor
    · rintro ⟨h1, h2⟩ j a b ha hb
      cases j with
      | zero =>
        simp only [List.getElem?_cons_zero, Option.some.injEq] at ha hb
        subst ha hb
        exact h1
      | succ j => exact h2 j a b (by simpa using ha) (by simpa using hb)
    · intro q
      exact ⟨q 0 x y rfl rfl, fun j a b ha hb => q (j + 1) a b (by simpa using ha) (by simpa using hb)⟩
  | [], _ :: _, h => by simp at h
  | _ :: _, [], h => by simp at h

mutual
theorem sameI_refl : ∀ x : RI, sameI x x = true
  | .node k t n l => by
    rw [sameI, sameIs_refl l]
    simp
theorem sameIs_refl : ∀ l : List RI, sameI.sameIs l l = true
  | [] => by rw [sameI.sameIs]; intro a b c d h; cases h
  | x :: l => by rw [sameI.sameIs, sameI_refl x, sameIs_refl l]; rfl
end

set_option maxRecDepth 100000 in
set_option maxHeartbeats 4000000 in
theorem rsame_parts (k k' : Int) (T S : ByteArray) (n n' : Int) (A B : Option Addr) (m m' c c' : Nat) (w : World) (hne : k ≠ k' ∨ T ≠ S ∨ n ≠ n' ∨ m ≠ m') :
    Calls Tryd.prog 11 #[.agg #[.int .i64 k, .string T, .int .i64 n, .slice A m c], .agg #[.int .i64 k', .string S, .int .i64 n', .slice B m' c']] w fun en w' => en = .returned (.bool false) ∧ Below w.heap.size w w' := by
  have HB := Lib.hid (((Below.refl w.heap.size w).alloc (Nat.le_refl _) (.cells #[.int .i64 k, .string T, .int .i64 n, .slice A m c] 25)).alloc (by simp) (.cells #[.int .i64 k', .string S, .int .i64 n', .slice B m' c'] 25))
  by_cases hk : k = k'
  · subst hk
    by_cases hT : T = S
    · subst hT
      by_cases hn : n = n'
      · subst hn
        have hm : m ≠ m' := by simpa using hne
        have hm' : ((m : Int) != (m' : Int)) = true := by simp; omega
        go_enter Tryd.func11, Tryd.ntmps11
        go_wp2
        go_ret
        exact ⟨rfl, HB.out⟩
      · have hn' : (n != n') = true := by simp [hn]
        go_enter Tryd.func11, Tryd.ntmps11
        go_wp2
        go_ret
        exact ⟨rfl, HB.out⟩
    · have hT' : ¬ (T.toList = S.toList) := fun h => hT (bytes_ext (by rw [← Lib.toList_data, ← Lib.toList_data]; exact h))
      go_enter Tryd.func11, Tryd.ntmps11
      go_wp2
      go_ret
      exact ⟨rfl, HB.out⟩
  · have hk' : (k != k') = true := by simp [hk]
    go_enter Tryd.func11, Tryd.ntmps11
    go_wp2
    go_ret
    exact ⟨rfl, HB.out⟩

set_option maxRecDepth 100000 in
set_option maxHeartbeats 8000000 in
theorem rsame_I : ∀ (N : Nat) (x : RI), bulkI x ≤ N → ∀ (y : RI) (w : World) (a0 a1 a2 a3 b0 b1 b2 b3 : Value), RepI w x [a0, a1, a2, a3] → RepI w y [b0, b1, b2, b3] →
    Calls Tryd.prog 11 #[.agg #[a0, a1, a2, a3], .agg #[b0, b1, b2, b3]] w fun en w' => en = .returned (.bool (sameI x y)) ∧ Below w.heap.size w w' := by
  intro N
  induction N with
  | zero => intro x hx; have := bulkI_pos x; omega
  | succ N ih =>
    intro x hx y w a0 a1 a2 a3 b0 b1 b2 b3 hA hB
    obtain ⟨k, t, n, l⟩ := x
    obtain ⟨k', t', n', l'⟩ := y
    obtain ⟨T, A, c, ha, hT, hlen, _, hka⟩ := hA.form
    obtain ⟨S, B, d, hb, hS, _, _, hkb⟩ := hB.form
    injection ha with e0 ha; injection ha with e1 ha; injection ha with e2 ha; injection ha with e3 _
    injection hb with g0 hb; injection hb with g1 hb; injection hb with g2 hb; injection hb with g3 _
    subst e0 e1 e2 e3 g0 g1 g2 g3
    rw [sameI]
    by_cases hne : k ≠ k' ∨ T ≠ S ∨ n ≠ n' ∨ l.length ≠ l'.length
    · refine (rsame_parts k k' T S n n' A B l.length l'.length c d w hne).mono ?_
      rintro en w' ⟨rfl, hb⟩
      refine ⟨?_, hb⟩
      congr 2
      symm
      rw [Bool.eq_false_iff]
      intro q
      simp only [Bool.and_eq_true, decide_eq_true_eq] at q
      rcases hne with h | h | h | h
      · exact h q.1
      · exact h (bytes_ext (by rw [hT, hS, q.2.1]))
      · exact h q.2.2.1
      · exact h q.2.2.2.1
    obtain ⟨rfl, h2⟩ : k = k' ∧ ¬ (T ≠ S ∨ n ≠ n' ∨ l.length ≠ l'.length) := by
      refine ⟨Decidable.byContradiction fun h => hne (Or.inl h), fun h => hne (Or.inr h)⟩
    obtain ⟨rfl, h3⟩ : T = S ∧ ¬ (n ≠ n' ∨ l.length ≠ l'.length) := by
      refine ⟨Classical.byContradiction fun h => h2 (Or.inl h), fun h => h2 (Or.inr h)⟩
    obtain ⟨rfl, h4⟩ : n = n' ∧ l.length = l'.length := by
      refine ⟨Decidable.byContradiction fun h => h3 (Or.inl h), Decidable.byContradiction fun h => h3 (Or.inr h)⟩
    obtain rfl : t = t' := by rw [← hT, ← hS]
    obtain ⟨len, hl⟩ : ∃ len, l.length = len := ⟨_, rfl⟩
    have hl' : l'.length = len := by rw [← h4, hl]
    have HR : Hid ((decide (k = k) && (decide (t = t) && (decide (n = n) && (decide (l.length = l'.length) && sameI.sameIs l l')))) = sameI.sameIs l l') := by unfold Hid; simp [h4]
    rw [HR.out]
    have HIFF := Lib.hid (sameIs_iff h4)
    obtain ⟨R, hR⟩ : ∃ R, sameI.sameIs l l' = R := ⟨_, rfl⟩
    rw [hR] at HIFF ⊢
    have HKA := Lib.hid hka
    have HKB := Lib.hid hkb
    have HIH := Lib.hid ih
    have hx : ∀ x ∈ l, bulkI x ≤ N := fun x hm => by rw [bulkI] at hx; have := bulkIs_mem hm; omega
    have HSZ := Lib.hid hx
    have HL := Lib.hid hl
    have HL' := Lib.hid hl'
    rw [hl] at hlen ⊢
    rw [hl']
    clear hA hB hka hkb ih hx hT hS hl hl' h4 h3 h2 hne hR HR
    go_enter Tryd.func11, Tryd.ntmps11
    go_wp2
    obtain ⟨wa, hwa⟩ : ∃ wa, (w.alloc (.cells #[.int .i64 k, .string T, .int .i64 n, .slice A len c] 25)).alloc (.cells #[.int .i64 k, .string T, .int .i64 n, .slice B len d] 25) = wa := ⟨_, rfl⟩
    have hba : Below w.heap.size w wa := by rw [← hwa]; exact ((Below.refl _ _).alloc (Nat.le_refl _) _).alloc (by simp) _
    have hsa : wa.heap.size = w.heap.size + 2 := by rw [← hwa]; simp
    have ya : wa.cell? ⟨w.heap.size, 3, none⟩ = some (.slice A len c) := by
      rw [← hwa]
      exact (((Below.refl (w.heap.size + 1) (w.alloc (.cells #[.int .i64 k, .string T, .int .i64 n, .slice A len c] 25))).alloc (by simp) _).cell (p := ⟨w.heap.size, 3, none⟩) (by show w.heap.size < w.heap.size + 1; omega)).trans (cell_in (World.alloc_heap_new w _))
    have yb : wa.cell? ⟨w.heap.size + 1, 3, none⟩ = some (.slice B len d) := by
      rw [← hwa]
      have h := World.alloc_heap_new (w.alloc (.cells #[.int .i64 k, .string T, .int .i64 n, .slice A len c] 25)) (.cells #[.int .i64 k, .string T, .int .i64 n, .slice B len d] 25)
      rw [show (w.alloc (.cells #[.int .i64 k, .string T, .int .i64 n, .slice A len c] 25)).heap.size = w.heap.size + 1 from by simp] at h
      exact cell_in h
    try rw [hwa]
    have HBA := Lib.hid hba
    have HYA := Lib.hid ya
    have HYB := Lib.hid yb
    clear hwa hba ya yb
    go_loopw [5] (fun iv wr => ∃ j : Nat, iv = .int .i64 j ∧ j ≤ len ∧ Below wa.heap.size wa wr ∧ Hid (∀ (i : Nat) (x y : RI), i < j → l[i]? = some x → l'[i]? = some y → sameI x y = true)) (fun iv _ => len - (intOf iv).toNat)
    case atStart => exact ⟨0, rfl, by omega, Below.refl _ _, fun i x y hi => absurd hi (Nat.not_lt_zero i)⟩
    case round =>
      obtain ⟨j, rfl, hj, hbr, HSO⟩ := hrel
      have za := (hbr.cell (p := ⟨w.heap.size, 3, none⟩) (by show w.heap.size < wa.heap.size; omega)).trans HYA.out
      have zb := (hbr.cell (p := ⟨w.heap.size + 1, 3, none⟩) (by show w.heap.size + 1 < wa.heap.size; omega)).trans HYB.out
      have HBR := Lib.hid hbr
      have hzr := hbr.size
      clear hbr
      by_cases hlt : j < len
      · obtain ⟨x, hx⟩ : ∃ x, l[j]? = some x := ⟨_, List.getElem?_eq_getElem (by rw [HL.out]; exact hlt)⟩
        obtain ⟨y, hy⟩ : ∃ y, l'[j]? = some y := ⟨_, List.getElem?_eq_getElem (by rw [HL'.out]; exact hlt)⟩
        have HSX := Lib.hid (HSZ.out x (List.mem_of_getElem? hx))
        have HX := Lib.hid hx
        have HY := Lib.hid hy
        have hwr : Below w.heap.size w wr := HBA.out.trans (HBR.out.mono (by omega))
        obtain ⟨g, o, v0, v1, v2, v3, rfl, hg, ⟨p0, p1, p2, p3⟩, hra⟩ := HKA.out j x hx
        obtain ⟨g', o', u0, u1, u2, u3, rfl, hg', ⟨q0, q1, q2, q3⟩, hrb⟩ := HKB.out j y hy
        have p0 := (hwr.cell (p := ⟨g, o + j * 4, none⟩) hg).trans p0
        have p1 := (hwr.cell (p := ⟨g, o + j * 4 + 1, none⟩) hg).trans p1
        have p2 := (hwr.cell (p := ⟨g, o + j * 4 + 2, none⟩) hg).trans p2
        have p3 := (hwr.cell (p := ⟨g, o + j * 4 + 3, none⟩) hg).trans p3
        have q0 := (hwr.cell (p := ⟨g', o' + j * 4, none⟩) hg').trans q0
        have q1 := (hwr.cell (p := ⟨g', o' + j * 4 + 1, none⟩) hg').trans q1
        have q2 := (hwr.cell (p := ⟨g', o' + j * 4 + 2, none⟩) hg').trans q2
        have q3 := (hwr.cell (p := ⟨g', o' + j * 4 + 3, none⟩) hg').trans q3
        have HCA := Lib.hid (fun (W : World) (hW : Below wr.heap.size wr W) => HIH.out x HSX.out y W v0 v1 v2 v3 u0 u1 u2 u3 (hra.keep (Nat.le_trans hwr.size hW.size) (fun b hb => (hW.block b (by have := hwr.size; omega)).trans (hwr.block b hb))) (hrb.keep (Nat.le_trans hwr.size hW.size) (fun b hb => (hW.block b (by have := hwr.size; omega)).trans (hwr.block b hb))))
        obtain ⟨r, hr⟩ : ∃ r, sameI x y = r := ⟨_, rfl⟩
        rw [hr] at HCA
        have HRR := Lib.hid hr
        clear hx hy hra hrb hwr hr
        go_wp2
        go_region_law (go_simp; go_at_call 11; refine (HCA.out _ (by first | exact (Below.refl _ _).drew | exact Below.refl _ _)).mono ?_; rintro en w4 ⟨rfl, hb4⟩; have HB4 := Lib.hid (show Below wa.heap.size wa w4 from HBR.out.trans (Below.mono (show Below wr.heap.size wr w4 from by first | exact hb4 | exact (Below.refl wr.heap.size wr).drew.trans hb4) hzr)); clear hb4)
        all_goals
          cases r with
          | true =>
            go_wp2
            go_roundw
            case rel => exact ⟨j + 1, by go_num, by omega, HB4.out, fun i x' y' hi hx' hy' => by
              rcases Nat.lt_or_ge i j with h | h
              · exact HSO.out i x' y' h hx' hy'
              · obtain rfl : i = j := by omega
                have e1 := HX.out.symm.trans hx'
                have e2 := HY.out.symm.trans hy'
                injection e1 with e1
                injection e2 with e2
                rw [← e1, ← e2]
                exact HRR.out⟩
            case measure => simp only [intOf]; omega
          | false =>
            go_wp2
            go_ret
            refine ⟨?_, HBA.out.trans (HB4.out.mono (by omega))⟩
            cases R with
            | false => rfl
            | true =>
              have := HIFF.out.1 rfl j x y HX.out HY.out
              rw [HRR.out] at this
              cases this
      · obtain rfl : j = len := by omega
        go_wp2
        go_ret
        refine ⟨?_, HBA.out.trans (HBR.out.mono (by omega))⟩
        have : R = true := HIFF.out.2 (fun i x y hx hy => HSO.out i x y (by have := (List.getElem?_eq_some_iff.1 hx).1; rw [HL.out] at this; exact this) hx hy)
        subst this
        rfl

end Go.Proofs.YtbldahkgilkclaaDoor
