/-
  The document's put and Of over rows of texts. Conditions: the row lies in memory.
-/
import Derived.Test.YtkobhlhkkpnmkaaMbB
namespace Go.Proofs.Ytkobhlhkkpnmkaa
open Go.RowKit

theorem belowN_before {s : List Tx} {x y : Tx} {j : Nat} (hj : j < belowN s x) (hy : s[j]? = some y) : y < x := by
  induction s generalizing j with
  | nil => simp at hy
  | cons a s ih =>
    unfold belowN at hj
    rw [List.takeWhile_cons] at hj
    by_cases ha : a < x
    · rw [if_pos (by simpa using ha)] at hj
      rcases j with _ | j
      · simp at hy
        subst hy
        exact ha
      · exact ih (by simpa [belowN] using hj) (by simpa using hy)
    · rw [if_neg (by simpa using ha)] at hj
      simp at hj
theorem belowN_here {s : List Tx} {x y : Tx} (hy : s[belowN s x]? = some y) : ¬ y < x := by
  induction s with
  | nil => simp at hy
  | cons a s ih =>
    unfold belowN at hy
    rw [List.takeWhile_cons] at hy
    by_cases ha : a < x
    · rw [if_pos (by simpa using ha), List.length_cons, List.getElem?_cons_succ] at hy
      exact ih hy
    · rw [if_neg (by simpa using ha)] at hy
      simp at hy
      subst hy
      exact ha

theorem tx_neb {x y : Tx} (h : x ≠ y) {T U : ByteArray} (hT : (⟨x.toArray⟩ : ByteArray) = T) (hU : (⟨y.toArray⟩ : ByteArray) = U) : (T.toList == U.toList) = false := by
  rw [beq_eq_false_iff_ne, ByteArray.toList_eq, ByteArray.toList_eq, ← hT, ← hU]
  exact fun e => h (by simpa using e)

set_option maxRecDepth 100000 in
set_option maxHeartbeats 16000000 in
theorem rput_any {A : Option Addr} {n cp : Nat} {L : List Tx} (w : World) (h : TxAt w A n cp L) (hn : n ≤ 3000000) (x : Tx) (hx : x.length ≤ 140737488355328) :
    Calls Try.prog 38 #[.slice A n cp, .string ⟨x.toArray⟩] w fun e w' => ∃ A' c', e = .returned (.slice A' (putX L x).length c') ∧ TxAt w' A' (putX L x).length c' (putX L x) ∧ Below w.heap.size w w' := by
  have HL := Lib.hid h
  have HN := Lib.hid h.len
  have hle := h.le
  have hmx := h.max
  have HX := Lib.hid hx
  obtain ⟨P, hP⟩ : ∃ P, putX L x = P := ⟨_, rfl⟩
  have HPF : Hid (∀ y ∈ P, y.length ≤ 140737488355328) := fun y hy => by
    rw [← hP, putX_mem] at hy
    rcases hy with rfl | hy
    · exact hx
    · exact h.fits y hy
  have HP1 : Hid (L[belowN L x]? = some x → P = L) := fun e => by rw [← hP]; unfold putX; rw [if_pos e]
  have HP2 : Hid (L[belowN L x]? ≠ some x → P = L.take (belowN L x) ++ x :: L.drop (belowN L x)) := fun e => by rw [← hP]; unfold putX; rw [if_neg e]
  have HBF := Lib.hid (fun (j : Nat) (y : Tx) (hj : j < belowN L x) (hy : L[j]? = some y) => belowN_before hj hy)
  have HBH := Lib.hid (fun (y : Tx) (hy : L[belowN L x]? = some y) => belowN_here hy)
  have hRn := belowN_le L x
  rw [h.len] at hRn
  obtain ⟨R, hR⟩ : ∃ R, belowN L x = R := ⟨_, rfl⟩
  rw [hR] at HP1 HP2 HBF HBH hRn
  rw [hP]
  obtain ⟨X, hX⟩ : ∃ X : ByteArray, (⟨x.toArray⟩ : ByteArray) = X := ⟨_, rfl⟩
  have HXX := Lib.hid hX
  obtain ⟨M, hM⟩ : ∃ M, w.heap.size = M := ⟨_, rfl⟩
  have HM := Lib.hid hM
  have HBL : Hid (∀ T : ByteArray, ∀ y : Tx, (⟨y.toArray⟩ : ByteArray) = T → Op.bytesLess T.toList X.toList = decide (y < x)) := fun T y hT => by
    rw [← hT, ← hX, ByteArray.toList_eq, ByteArray.toList_eq]
    exact bytesLess_eq y x
  rw [hX, hM]
  clear h hx hP hR hX hM
  go_enter Try.func38, Try.ntmps38
  go_wp2
  go_loopw [5] (fun iv wr => ∃ k : Nat, iv = .int .i64 k ∧ k ≤ R ∧ wr = w) (fun iv _ => R - (intOf iv).toNat)
  case atStart => exact ⟨0, rfl, Nat.zero_le _, rfl⟩
  case round =>
    obtain ⟨k, rfl, hk, rfl⟩ := hrel
    by_cases hlt : k < n
    · obtain ⟨y, hy⟩ := HL.out.get (j := k) hlt
      obtain ⟨b, o, rfl, hbl, hc⟩ := HL.out.at_ (by omega)
      have c0 := hc k y hy
      have hlt' : (k : Int) < (n : Int) := by omega
      obtain ⟨Y, hY⟩ : ∃ Y : ByteArray, (⟨y.toArray⟩ : ByteArray) = Y := ⟨_, rfl⟩
      have hbl2 := HBL.out Y y hY
      have HY := Lib.hid hy
      have HYY := Lib.hid hY
      rw [hY] at c0
      clear hc hy hY
      by_cases hkR : k < R
      · rw [decide_eq_true (HBF.out k y hkR HY.out)] at hbl2
        go_wp2
        go_roundw
        case rel => exact ⟨k + 1, by go_num, hkR, trivial⟩
        case measure => simp only [intOf]; omega
      · obtain rfl : R = k := by omega
        rw [decide_eq_false (HBH.out y HY.out)] at hbl2
        by_cases hyx : y = x
        · have hne : (Y.toList == X.toList) = true := by rw [← HYY.out, ← HXX.out, hyx]; exact beq_self_eq_true _
          have HE : Hid (P = L) := HP1.out (by rw [HY.out, hyx])
          clear hyx
          go_wp2
          go_ret
          refine ⟨some ⟨b, o, none⟩, cp, ?_, ?_, Below.refl _ _⟩
          · rw [HE.out, HN.out]
            rfl
          · rw [HE.out, HN.out]
            exact HL.out
        · have hne : (Y.toList == X.toList) = false := tx_neb hyx HYY.out HXX.out
          have HPE : Hid (P = L.take R ++ x :: L.drop R) := HP2.out (by rw [HY.out]; exact fun e => hyx (Option.some.inj e))
          clear hyx
          have HEMP : Hid ((wr.alloc (.cells #[] 9)).ownsRow M 9 1 (.slice (some ⟨wr.heap.size, 0, none⟩) 0 0) 0 (([] : List Tx).map encStr)) := World.ownsRow_made wr #[] 0 (by have := HM.out; omega) (by decide) rfl
          have hb0 : Below wr.heap.size wr (wr.alloc (.cells #[] 9)) := (Below.refl _ _).alloc (Nat.le_refl _) _
          have HB0 : Hid (Below M wr (wr.alloc (.cells #[] 9))) := by have q := hb0; rw [HM.out] at q; exact q
          have HST := Lib.hid ((HL.out.below hb0).first hRn)
          have hxz : M ≤ (wr.alloc (.cells #[] 9)).heap.size := by have := HM.out; rw [World.size_alloc]; omega
          have hic : (R : Int) ≤ (cp : Int) := by omega
          have hin : (R : Int) ≤ (n : Int) := by omega
          have hi0 : (0 : Int) ≤ (R : Int) := by omega
          have hnc : (n : Int) ≤ (cp : Int) := by omega
          clear hb0
          go_wp2_with (at_builtin; refine wpList_append_tx rfl _ _ rfl M (.slice (some ⟨wr.heap.size, 0, none⟩) 0 0) 0 [] rfl HEMP.out (some ⟨b, o, none⟩) R cp (L.take R) rfl HST.out (by omega) hxz ?_)
          intro v1 w1 hown hgr
          unfold TxO at hown
          obtain ⟨A1, c1, rfl⟩ := own_slice hown
          have HB1 : Hid (Below M wr w1) := HB0.out.grown hgr hxz (fun k e => (HEMP.out.lt k e).1)
          have HO1 := Lib.hid hown
          have HONE := Lib.hid (TxAt.one w1 x w1.heap.size rfl HX.out)
          rw [HXX.out] at HONE
          have hz1 : M ≤ (w1.alloc (.cells #[.string X] 9)).heap.size := by have := HB1.out.size; have := HM.out; rw [World.size_alloc]; omega
          have HB1b : Hid (Below M wr (w1.alloc (.cells #[.string X] 9))) := HB1.out.alloc (by have := HB1.out.size; have := HM.out; omega) _
          have HO1b : Hid ((w1.alloc (.cells #[.string X] 9)).ownsRow M 9 1 (.slice A1 R c1) R ((L.take R).map encStr)) := HO1.out.alloc _
          clear hown hgr
          go_wp2_with (at_builtin; refine wpList_append_tx rfl _ _ rfl M (.slice A1 R c1) R (L.take R) rfl HO1b.out (some ⟨w1.heap.size, 0, none⟩) 1 1 [x] rfl HONE.out (by omega) hz1 ?_)
          intro v2 w2 hown hgr
          unfold TxO at hown
          obtain ⟨A2, c2, rfl⟩ := own_slice hown
          have HB2 : Hid (Below M wr w2) := HB1b.out.grown hgr hz1 (fun k e => (HO1b.out.lt k e).1)
          have HO2 := Lib.hid hown
          have hz2 : M ≤ w2.heap.size := by have := HB2.out.size; have := HM.out; omega
          have HRS := Lib.hid ((HL.out.below (w' := w2) (by rw [HM.out]; exact HB2.out)).rest hRn)
          have hcR : ¬ cp = R := by omega
          have hadd : (some (⟨b, o, none⟩ : Addr)).map (fun x => x.add R) = some ⟨b, o + R, none⟩ := by simp [Addr.add] <;> omega
          rw [if_neg hcR, hadd] at HRS
          clear hadd
          clear hown hgr
          go_wp2_with (at_builtin; refine wpList_append_tx rfl _ _ rfl M (.slice A2 (R + 1) c2) (R + 1) (L.take R ++ [x]) rfl HO2.out (some ⟨b, o + R, none⟩) (n - R) (cp - R) (L.drop R) rfl HRS.out (by omega) hz2 ?_)
          intro v3 w3 hown hgr
          unfold TxO at hown
          have HB3 : Hid (Below M wr w3) := HB2.out.grown hgr hz2 (fun k e => (HO2.out.lt k e).1)
          have HE : Hid (∃ A' c', v3 = .slice A' P.length c' ∧ TxAt w3 A' P.length c' P) := by
            rw [← HPE.out] at hown
            have hl : P.length = R + 1 + (n - R) := by
              have := hown.1
              rw [List.length_map, Nat.mul_one] at this
              exact this
            rw [← hl] at hown
            obtain ⟨A', c', e, q, _⟩ := tx_of_own hown HPF.out
            exact ⟨A', c', e, q⟩
          clear hown hgr
          go_wp2
          go_ret
          obtain ⟨A', c', e, q⟩ := HE.out
          exact ⟨A', c', by rw [← e]; rfl, q, HB3.out⟩
    · obtain rfl : R = k := by omega
      obtain rfl : R = n := by omega
      have hge : ¬ (R : Int) < (R : Int) := by omega
      have HPE : Hid (P = L.take R ++ x :: L.drop R) := HP2.out (by rw [List.getElem?_eq_none (by rw [HN.out]; exact Nat.le_refl _)]; exact fun e => by cases e)
      by_cases hcR : R = cp
      · subst hcR
        have HEMP : Hid ((wr.alloc (.cells #[] 9)).ownsRow M 9 1 (.slice (some ⟨wr.heap.size, 0, none⟩) 0 0) 0 (([] : List Tx).map encStr)) := World.ownsRow_made wr #[] 0 (by have := HM.out; omega) (by decide) rfl
        have hb0 : Below wr.heap.size wr (wr.alloc (.cells #[] 9)) := (Below.refl _ _).alloc (Nat.le_refl _) _
        have HB0 : Hid (Below M wr (wr.alloc (.cells #[] 9))) := by have q := hb0; rw [HM.out] at q; exact q
        have HST := Lib.hid ((HL.out.below hb0).first hRn)
        have hxz : M ≤ (wr.alloc (.cells #[] 9)).heap.size := by have := HM.out; rw [World.size_alloc]; omega
        have hic : (R : Int) ≤ (R : Int) := by omega
        have hin : (R : Int) ≤ (R : Int) := by omega
        have hi0 : (0 : Int) ≤ (R : Int) := by omega
        have hnc : (R : Int) ≤ (R : Int) := by omega
        clear hb0
        go_wp2_with (at_builtin; refine wpList_append_tx rfl _ _ rfl M (.slice (some ⟨wr.heap.size, 0, none⟩) 0 0) 0 [] rfl HEMP.out A R R (L.take R) rfl HST.out (by omega) hxz ?_)
        intro v1 w1 hown hgr
        unfold TxO at hown
        obtain ⟨A1, c1, rfl⟩ := own_slice hown
        have HB1 : Hid (Below M wr w1) := HB0.out.grown hgr hxz (fun k e => (HEMP.out.lt k e).1)
        have HO1 := Lib.hid hown
        have HONE := Lib.hid (TxAt.one w1 x w1.heap.size rfl HX.out)
        rw [HXX.out] at HONE
        have hz1 : M ≤ (w1.alloc (.cells #[.string X] 9)).heap.size := by have := HB1.out.size; have := HM.out; rw [World.size_alloc]; omega
        have HB1b : Hid (Below M wr (w1.alloc (.cells #[.string X] 9))) := HB1.out.alloc (by have := HB1.out.size; have := HM.out; omega) _
        have HO1b : Hid ((w1.alloc (.cells #[.string X] 9)).ownsRow M 9 1 (.slice A1 R c1) R ((L.take R).map encStr)) := HO1.out.alloc _
        clear hown hgr
        go_wp2_with (at_builtin; refine wpList_append_tx rfl _ _ rfl M (.slice A1 R c1) R (L.take R) rfl HO1b.out (some ⟨w1.heap.size, 0, none⟩) 1 1 [x] rfl HONE.out (by omega) hz1 ?_)
        intro v2 w2 hown hgr
        unfold TxO at hown
        obtain ⟨A2, c2, rfl⟩ := own_slice hown
        have HB2 : Hid (Below M wr w2) := HB1b.out.grown hgr hz1 (fun k e => (HO1b.out.lt k e).1)
        have HO2 := Lib.hid hown
        have hz2 : M ≤ w2.heap.size := by have := HB2.out.size; have := HM.out; omega
        have HRS := Lib.hid ((HL.out.below (w' := w2) (by rw [HM.out]; exact HB2.out)).rest hRn)
        rw [if_pos rfl, Nat.sub_self] at HRS
        clear hown hgr
        go_wp2_with (at_builtin; refine wpList_append_tx rfl _ _ rfl M (.slice A2 (R + 1) c2) (R + 1) (L.take R ++ [x]) rfl HO2.out A 0 0 (L.drop R) rfl HRS.out (by omega) hz2 ?_)
        intro v3 w3 hown hgr
        unfold TxO at hown
        have HB3 : Hid (Below M wr w3) := HB2.out.grown hgr hz2 (fun k e => (HO2.out.lt k e).1)
        have HE : Hid (∃ A' c', v3 = .slice A' P.length c' ∧ TxAt w3 A' P.length c' P) := by
          rw [← HPE.out] at hown
          have hl : P.length = R + 1 := by
            have := hown.1
            rw [List.length_map, Nat.mul_one] at this
            exact this
          rw [← hl] at hown
          obtain ⟨A', c', e, q, _⟩ := tx_of_own hown HPF.out
          exact ⟨A', c', e, q⟩
        clear hown hgr
        go_wp2
        go_ret
        obtain ⟨A', c', e, q⟩ := HE.out
        exact ⟨A', c', by rw [← e]; rfl, q, HB3.out⟩
      · have hcR0 := hcR
        have HEMP : Hid ((wr.alloc (.cells #[] 9)).ownsRow M 9 1 (.slice (some ⟨wr.heap.size, 0, none⟩) 0 0) 0 (([] : List Tx).map encStr)) := World.ownsRow_made wr #[] 0 (by have := HM.out; omega) (by decide) rfl
        have hb0 : Below wr.heap.size wr (wr.alloc (.cells #[] 9)) := (Below.refl _ _).alloc (Nat.le_refl _) _
        have HB0 : Hid (Below M wr (wr.alloc (.cells #[] 9))) := by have q := hb0; rw [HM.out] at q; exact q
        have HST := Lib.hid ((HL.out.below hb0).first hRn)
        have hxz : M ≤ (wr.alloc (.cells #[] 9)).heap.size := by have := HM.out; rw [World.size_alloc]; omega
        have hic : (R : Int) ≤ (cp : Int) := by omega
        have hin : (R : Int) ≤ (R : Int) := by omega
        have hi0 : (0 : Int) ≤ (R : Int) := by omega
        have hnc : (R : Int) ≤ (cp : Int) := by omega
        clear hb0
        go_wp2_with (at_builtin; refine wpList_append_tx rfl _ _ rfl M (.slice (some ⟨wr.heap.size, 0, none⟩) 0 0) 0 [] rfl HEMP.out A R cp (L.take R) rfl HST.out (by omega) hxz ?_)
        intro v1 w1 hown hgr
        unfold TxO at hown
        obtain ⟨A1, c1, rfl⟩ := own_slice hown
        have HB1 : Hid (Below M wr w1) := HB0.out.grown hgr hxz (fun k e => (HEMP.out.lt k e).1)
        have HO1 := Lib.hid hown
        have HONE := Lib.hid (TxAt.one w1 x w1.heap.size rfl HX.out)
        rw [HXX.out] at HONE
        have hz1 : M ≤ (w1.alloc (.cells #[.string X] 9)).heap.size := by have := HB1.out.size; have := HM.out; rw [World.size_alloc]; omega
        have HB1b : Hid (Below M wr (w1.alloc (.cells #[.string X] 9))) := HB1.out.alloc (by have := HB1.out.size; have := HM.out; omega) _
        have HO1b : Hid ((w1.alloc (.cells #[.string X] 9)).ownsRow M 9 1 (.slice A1 R c1) R ((L.take R).map encStr)) := HO1.out.alloc _
        clear hown hgr
        go_wp2_with (at_builtin; refine wpList_append_tx rfl _ _ rfl M (.slice A1 R c1) R (L.take R) rfl HO1b.out (some ⟨w1.heap.size, 0, none⟩) 1 1 [x] rfl HONE.out (by omega) hz1 ?_)
        intro v2 w2 hown hgr
        unfold TxO at hown
        obtain ⟨A2, c2, rfl⟩ := own_slice hown
        have HB2 : Hid (Below M wr w2) := HB1b.out.grown hgr hz1 (fun k e => (HO1b.out.lt k e).1)
        have HO2 := Lib.hid hown
        have hz2 : M ≤ w2.heap.size := by have := HB2.out.size; have := HM.out; omega
        have HRS := Lib.hid ((HL.out.below (w' := w2) (by rw [HM.out]; exact HB2.out)).rest hRn)
        have hcR2 : ¬ cp = R := fun e => hcR e.symm
        rw [if_neg hcR2, Nat.sub_self] at HRS
        clear hown hgr
        go_wp2_with (at_builtin; refine wpList_append_tx rfl _ _ rfl M (.slice A2 (R + 1) c2) (R + 1) (L.take R ++ [x]) rfl HO2.out (A.map fun x => x.add R) 0 (cp - R) (L.drop R) rfl HRS.out (by omega) hz2 ?_)
        intro v3 w3 hown hgr
        unfold TxO at hown
        have HB3 : Hid (Below M wr w3) := HB2.out.grown hgr hz2 (fun k e => (HO2.out.lt k e).1)
        have HE : Hid (∃ A' c', v3 = .slice A' P.length c' ∧ TxAt w3 A' P.length c' P) := by
          rw [← HPE.out] at hown
          have hl : P.length = R + 1 := by
            have := hown.1
            rw [List.length_map, Nat.mul_one] at this
            exact this
          rw [← hl] at hown
          obtain ⟨A', c', e, q, _⟩ := tx_of_own hown HPF.out
          exact ⟨A', c', e, q⟩
        clear hown hgr
        go_wp2
        go_ret
        obtain ⟨A', c', e, q⟩ := HE.out
        exact ⟨A', c', by rw [← e]; rfl, q, HB3.out⟩

end Go.Proofs.Ytkobhlhkkpnmkaa
