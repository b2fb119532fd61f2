/-
  slices.Clone, slices.Sort, slices.Compact over rows of texts; package members: setOf, Of. Conditions: the row lies in memory.
-/
import Derived.Test.YtkobhlhkkpnmkaaMbC
import Derived.Sort.OwnSorted
import Derived.Lib.RowBridge
namespace Go.Proofs.Ytkobhlhkkpnmkaa
open Go.RowKit Go.Sort

theorem slClone_any {A : Option Addr} {n cp : Nat} {L : List Tx} (w : World) (h : TxAt w A n cp L) (hn : n ≤ 4000000) :
    Calls Try.prog 54 #[.slice A n cp] w fun e w' => ∃ A' c', e = .returned (.slice A' n c') ∧ w'.ownsRow w.heap.size 9 1 (.slice A' n c') n (L.map encStr) ∧ Below w.heap.size w w' := by
  have hlen := h.len
  rcases A with _ | a
  · have hc := h.bare rfl
    have h0 : n = 0 := by have := h.le; omega
    subst h0
    obtain rfl : L = [] := List.eq_nil_of_length_eq_zero hlen
    refine (Try.slices_Clone_string_nil 0 cp w).mono ?_
    rintro e w' ⟨rfl, rfl⟩
    exact ⟨none, 0, rfl, ⟨rfl, Or.inl ⟨rfl, rfl⟩⟩, Below.refl _ _⟩
  · rcases Nat.eq_zero_or_pos n with h0 | h0
    · subst h0
      obtain rfl : L = [] := List.eq_nil_of_length_eq_zero hlen
      refine (Try.slices_Clone_string_zero a cp w).mono ?_
      rintro e w' ⟨v', rfl, hown, _, hb⟩
      obtain ⟨A', c', rfl⟩ := own_slice hown
      exact ⟨A', c', rfl, hown, hb⟩
    · obtain ⟨b, o, e, hb, hc⟩ := h.at_ h0
      injection e with e
      subst e
      have hm : (L.map (fun x => (⟨x.toArray⟩ : ByteArray))).length = n := by rw [List.length_map, hlen]
      refine (Try.slices_Clone_string b o n cp (L.map (fun x => (⟨x.toArray⟩ : ByteArray))) w (by omega) (by omega) (fun j hj => ?_)).mono ?_
      · obtain ⟨x, hx⟩ := h.get (j := j) (by omega)
        rw [hc j x hx, List.getD_eq_getElem?_getD, List.getElem?_map, hx]
        rfl
      · rintro e w' ⟨v', rfl, hown, _, hb'⟩
        obtain ⟨A', c', rfl⟩ := own_slice hown
        rw [List.take_of_length_le (by omega), List.map_map] at hown
        exact ⟨A', c', rfl, hown, hb'⟩

theorem slSort_any {base : Nat} {A : Option Addr} {n c : Nat} {L : List Tx} (w : World) (h : w.ownsRow base 9 1 (.slice A n c) n (L.map encStr)) (hn : n ≤ 4000000) :
    Calls Try.prog 55 #[.slice A n c] w fun e w' => e = .returned (.tuple #[]) ∧ w'.ownsRow base 9 1 (.slice A n c) n ((L.mergeSort fun x y => decide (x ≤ y)).map encStr) ∧ Below base w w' := by
  have hlen : L.length = n := by have := h.1; rw [List.length_map, Nat.mul_one] at this; exact this
  have h' := h
  rcases h.2 with ⟨q, q2⟩ | ⟨g, cap, cur, q, hg, q3, q4, q5, q6, q7⟩
  · subst q2
    obtain rfl : L = [] := List.eq_nil_of_length_eq_zero hlen
    refine (Try.slices_Sort_string_none A c w).mono ?_
    rintro e w' ⟨rfl, rfl⟩
    refine ⟨rfl, ?_, Below.refl _ _⟩
    rw [show (([] : List Tx).mergeSort fun x y => decide (x ≤ y)) = [] from List.eq_nil_of_length_eq_zero (by rw [List.length_mergeSort]; rfl)]
    exact h'
  · injection q with q _ q8
    subst q q8
    have hgl := (Array.getElem?_eq_some_iff.1 q3).1
    rw [Nat.mul_one] at q7
    subst hlen
    unfold maxLen at q5
    refine (Try.slices_Sort_string g 0 c L w (holds_of_block q3 q7) hgl (by omega)).mono ?_
    rintro e w' ⟨rfl, k, os, rfl⟩
    exact ⟨rfl, ownsRow_sorted (List.length_mergeSort _) hg q3 q4 (by unfold maxLen; exact q5) q6, (Below.refl _ _).grown (grownBy_sorted _) (by omega) (fun k hk => by injection hk with hk; omega)⟩

theorem slCompact_any {base : Nat} {A : Option Addr} {n c : Nat} {L : List Tx} (w : World) (h : w.ownsRow base 9 1 (.slice A n c) n (L.map encStr)) (hn : n ≤ 4000000) :
    Calls Try.prog 56 #[.slice A n c] w fun e w' => e = .returned (.slice A (Lib.compact L).length c) ∧ w'.ownsRow base 9 1 (.slice A (Lib.compact L).length c) (Lib.compact L).length ((Lib.compact L).map encStr) ∧ Below base w w' := by
  have hlen : L.length = n := by have := h.1; rw [List.length_map, Nat.mul_one] at this; exact this
  have h' := h
  rcases h.2 with ⟨q, q2⟩ | ⟨g, cap, cur, q, hg, q3, q4, q5, q6, q7⟩
  · subst q2
    obtain rfl : L = [] := List.eq_nil_of_length_eq_zero hlen
    rw [show (Lib.compact ([] : List Tx)) = [] from rfl]
    refine (Try.slices_Compact_string_empty A c w).mono ?_
    rintro e w' ⟨rfl, rfl⟩
    exact ⟨rfl, h', Below.refl _ _⟩
  · injection q with q _ q8
    subst q q8
    have hgl := (Array.getElem?_eq_some_iff.1 q3).1
    rw [Nat.mul_one] at q7 q6
    subst hlen
    unfold maxLen at q5
    refine (Try.slices_Compact_string g 0 c L w (holds_of_block q3 q7) (by omega) q4).mono ?_
    rintro e w' ⟨rfl, k, rfl⟩
    have hle := Lib.compact_length_le L
    obtain ⟨D, hD⟩ : ∃ D, Lib.compact L ++ List.replicate (L.length - (Lib.compact L).length) [] = D := ⟨_, rfl⟩
    have hDl : D.length = L.length := by rw [← hD, List.length_append, List.length_replicate]; omega
    have hb := heap_sorted (n := k) (os := #[]) D.toArray q3
    have hg2 := grownBy_sorted (w := w) (g := g) (n := k) (os := #[]) D.toArray
    rw [grow_empty] at hb hg2
    rw [hD]
    refine ⟨rfl, ⟨by rw [List.length_map, Nat.mul_one], Or.inr ⟨g, c, _, rfl, hg, hb, by omega, by unfold maxLen; exact q5, by rw [Nat.mul_one]; simp [putCells, q6], ?_⟩⟩, (Below.refl _ _).grown hg2 (by omega) (fun k hk => by injection hk with hk; omega)⟩
    have ht := take_putCells cur D (by omega)
    have ht2 := congrArg (List.take (Lib.compact L).length) ht
    rw [List.take_take, Nat.min_eq_left (by omega), ← List.map_take, ← hD, List.take_left] at ht2
    rw [Nat.mul_one, hD] at *
    exact ht2

set_option maxRecDepth 100000 in
set_option maxHeartbeats 8000000 in
/-- Package members' setOf: the set of some texts. -/
theorem setOf_any {A : Option Addr} {n cp : Nat} {L : List Tx} (w : World) (h : TxAt w A n cp L) (hn : n ≤ 4000000) :
    Calls Try.prog 37 #[.slice A n cp] w fun e w' => ∃ A' c', e = .returned (.slice A' (ofX [] L).length c') ∧ TxAt w' A' (ofX [] L).length c' (ofX [] L) ∧ Below w.heap.size w w' ∧ Frh w.heap.size A' := by
  have HC := Lib.hid (slClone_any w h hn)
  have HCS := Lib.hid (compact_sort L)
  have HF := Lib.hid h.fits
  obtain ⟨O, hO⟩ : ∃ O, ofX [] L = O := ⟨_, rfl⟩
  have HO := Lib.hid hO
  have HM : Hid (∀ x ∈ O, x.length ≤ 140737488355328) := fun x hx => by
    rw [← hO, ofX_mem] at hx
    rcases hx with q | q
    · cases q
    · exact h.fits x q
  obtain ⟨M, hM⟩ : ∃ M, w.heap.size = M := ⟨_, rfl⟩
  have HMM := Lib.hid hM
  rw [hO] at HCS ⊢
  rw [hM] at HC ⊢
  clear h hO hM
  go_enter Try.func37, Try.ntmps37
  go_wp2_with fail
  refine HC.out.mono ?_
  rintro e w1 ⟨A1, c1, rfl, hown, hb1⟩
  have HO1 := Lib.hid hown
  have HB1 := Lib.hid hb1
  clear hown hb1
  go_wp2_with fail
  refine (slSort_any w1 HO1.out hn).mono ?_
  rintro e w2 ⟨rfl, hown, hb2⟩
  have HO2 := Lib.hid hown
  have HB2 := Lib.hid hb2
  have HN2 : Hid ((L.mergeSort fun x y => decide (x ≤ y)).length = n) := by
    have := hown.1
    rw [List.length_map, Nat.mul_one] at this
    exact this
  clear hown hb2
  go_wp2_with fail
  refine (slCompact_any w2 HO2.out hn).mono ?_
  rw [HCS.out]
  rintro e w3 ⟨rfl, hown, hb3⟩
  have HO3 := Lib.hid hown
  have HB3 := Lib.hid hb3
  clear hown hb3
  go_wp2
  go_ret
  obtain ⟨A', c', e1, h1, h2⟩ := tx_of_own HO3.out HM.out
  injection e1 with e1 _ e2
  subst e1 e2
  exact ⟨A1, c1, rfl, h1, (HB1.out.trans HB2.out).trans HB3.out, h2⟩

set_option maxRecDepth 100000 in
set_option maxHeartbeats 8000000 in
theorem of_any {A : Option Addr} {n cp : Nat} {L : List Tx} (w : World) (h : TxAt w A n cp L) (hn : n ≤ 4000000) :
    Calls Try.prog 14 #[.slice A n cp] w fun e w' => ∃ A' c', e = .returned (.slice A' (ofX [] L).length c') ∧ TxAt w' A' (ofX [] L).length c' (ofX [] L) ∧ Below w.heap.size w w' ∧ Frh w.heap.size A' := by
  have HC := Lib.hid (setOf_any w h hn)
  have HLN : Hid ((ofX [] L).length ≤ 4000000) := by
    have := ofX_length [] L
    have := h.len
    unfold Hid
    simp only [List.length_nil] at *
    omega
  obtain ⟨O, hO⟩ : ∃ O, ofX [] L = O := ⟨_, rfl⟩
  obtain ⟨M, hM⟩ : ∃ M, w.heap.size = M := ⟨_, rfl⟩
  have HM := Lib.hid hM
  rw [hO] at HC HLN ⊢
  rw [hM] at HC ⊢
  obtain ⟨k, hk⟩ : ∃ k, O.length = k := ⟨_, rfl⟩
  rw [hk] at HC HLN ⊢
  clear h hO hM hk
  go_enter Try.func14, Try.ntmps14
  go_wp2_with fail
  refine HC.out.mono ?_
  rintro e w1 ⟨A1, c1, rfl, h1, hb1, hf1⟩
  have H1 := Lib.hid h1
  have HB1 := Lib.hid hb1
  clear h1 hb1 hf1
  go_wp2_with fail
  refine (copied_any w1 H1.out HLN.out).mono ?_
  rintro e w2 ⟨A2, c2, rfl, h2, hb2, hf2⟩
  have H2 := Lib.hid h2
  have HB2 := Lib.hid hb2
  have HF2 := Lib.hid hf2
  clear h2 hb2 hf2
  go_wp2
  go_ret
  have hs := HB1.out.size
  have hm := HM.out
  exact ⟨A2, c2, rfl, H2.out, HB1.out.trans (HB2.out.mono (by omega)), HF2.out.mono (by omega)⟩

end Go.Proofs.Ytkobhlhkkpnmkaa
