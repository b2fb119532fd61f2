/-
  Package members: copied. Conditions: the row lies in memory.
-/
import Derived.Test.YtkobhlhkkpnmkaaMbB
namespace Go.Proofs.Ytkobhlhkkpnmkaa
open Go.RowKit

/-- A row of which the first i texts have been laid. -/
def fF (L : List Tx) (i j : Nat) : Value := .string ⟨(if j < i then (L[j]?).getD [] else []).toArray⟩
theorem fF_set {L : List Tx} {i : Nat} {x : Tx} (hx : L[i]? = some x) (j : Nat) : (if j = i then Value.string ⟨x.toArray⟩ else fF L i j) = fF L (i + 1) j := by
  unfold fF
  by_cases e : j = i
  · subst e
    rw [if_pos rfl, if_pos (by omega), hx]
    rfl
  · rw [if_neg e]
    by_cases q : j < i
    · rw [if_pos q, if_pos (by omega)]
    · rw [if_neg q, if_neg (by omega)]
theorem fF_at {L : List Tx} {i j : Nat} {x : Tx} (hx : L[j]? = some x) (hj : j < i) : fF L i j = .string ⟨x.toArray⟩ := by
  unfold fF
  rw [if_pos hj, hx]
  rfl

set_option maxRecDepth 100000 in
set_option maxHeartbeats 8000000 in
theorem copied_any {A : Option Addr} {n cp : Nat} {L : List Tx} (w : World) (h : TxAt w A n cp L) (hn : n ≤ 4000000) :
    Calls Try.prog 36 #[.slice A n cp] w fun e w' => ∃ A' c', e = .returned (.slice A' n c') ∧ TxAt w' A' n c' L ∧ Below w.heap.size w w' ∧ Frh w.heap.size A' := by
  have HL := Lib.hid h
  have HN := Lib.hid h.len
  have hle := h.le
  have HCL : Hid (∀ (i : Nat) (x : Tx) (X : World), L[i]? = some x → Calls Try.prog 47 #[.string ⟨x.toArray⟩] X fun e w' => e = .returned (.string ⟨x.toArray⟩) ∧ Below X.heap.size X w') := fun i x X hx => clone_any ⟨x.toArray⟩ X (by have := HL.out.fit hx; show x.toArray.size ≤ _; simpa using this)
  obtain ⟨i0, hi0, hz0⟩ := Option.map_eq_some_iff.1 info_str
  simp only [Prod.mk.injEq] at hz0
  have HI := Lib.hid hi0
  have HZ := Lib.hid hz0
  obtain ⟨M, hM⟩ : ∃ M, w.heap.size = M := ⟨_, rfl⟩
  have HM := Lib.hid hM
  obtain ⟨w1, hw1⟩ : ∃ w1, w.alloc (.cells (madeCells #[.string ⟨#[]⟩] n) 9) = w1 := ⟨_, rfl⟩
  have HW1 := Lib.hid hw1
  have HR0 : Hid (w1.rowIs M 9 n (fF L 0)) := by
    unfold Hid
    rw [← hw1, ← hM]
    exact (World.rowIs_made w (.string ⟨#[]⟩) n 9).congr (fun i _ => by unfold fF; rw [if_neg (Nat.not_lt_zero i)])
  have HB0 : Hid (Below M w w1) := by unfold Hid; rw [← hw1, ← hM]; exact (Below.refl _ _).alloc (Nat.le_refl _) _
  rw [hM]
  clear h hi0 hz0 hw1
  go_enter Try.func36, Try.ntmps36
  go_wp2_with (refine wpList_make_row _ rfl _ _ 22 rfl 9 i0 (.string ⟨#[]⟩) Try.underlying22 HI.out HZ.out.1 HZ.out.2.1 rfl .i64 .i64 n rfl rfl (by rw [HZ.out.2.2]; omega) (by omega) ?_)
  rw [HW1.out]
  clear hM
  go_loopw [11] (fun iv wr => ∃ i : Nat, iv = .int .i64 i ∧ i ≤ n ∧ Below M w wr ∧ wr.rowIs M 9 n (fF L i)) (fun iv _ => n - (intOf iv).toNat)
  case atStart => exact ⟨0, rfl, Nat.zero_le _, HB0.out, HR0.out⟩
  case round =>
    obtain ⟨i, rfl, hi, hb, hr⟩ := hrel
    have HB := Lib.hid hb
    have HR := Lib.hid hr
    by_cases hlt : i < n
    · obtain ⟨x, hx⟩ := HL.out.get (j := i) hlt
      obtain ⟨b, o, rfl, hbl, hc⟩ := (HL.out.below (w' := wr) (by rw [HM.out]; exact hb)).at_ (by omega)
      have c0 := hc i x hx
      have hlt' : (i : Int) < (n : Int) := by omega
      have HC := Lib.hid (HCL.out i x wr hx)
      have HX := Lib.hid hx
      obtain ⟨T, hT⟩ : ∃ T : ByteArray, (⟨x.toArray⟩ : ByteArray) = T := ⟨_, rfl⟩
      have HT := Lib.hid hT
      rw [hT] at c0 HC
      clear hc hx hb hr hT
      go_wp2_with fail
      refine HC.out.mono ?_
      rintro e w2 ⟨rfl, hb2⟩
      have hr2 : w2.rowIs M 9 n (fF L i) := HR.out.of_block (hb2.block _ HR.out.lt)
      have d0 := hr2.cell (i := i) hlt
      have d1 := hr2.frozen i
      have HR2 := Lib.hid hr2
      have HB2 : Hid (Below M w w2) := HB.out.trans (hb2.mono (by have := HB.out.size; have := HM.out; omega))
      clear hb2 hr2
      go_wp2
      go_roundw
      case rel =>
        refine ⟨i + 1, by go_num, hlt, HB2.out.setCell (Nat.le_refl _) _, (HR2.out.set i (.string T)).congr (fun j _ => ?_)⟩
        rw [← HT.out]
        exact fF_set HX.out j
      case measure => simp only [intOf]; omega
    · have hge : ¬ (i : Int) < (n : Int) := by omega
      obtain rfl : i = n := by omega
      clear hb hr
      go_wp2
      go_ret
      refine ⟨some ⟨M, 0, none⟩, i, rfl, TxAt.row HR.out HN.out (Nat.le_refl _) (Nat.le_refl _) (by omega) HL.out.fits (fun j x hx => fF_at hx (by have := (List.getElem?_eq_some_iff.1 hx).1; have := HN.out; omega)), HB.out, fun b o sp e => ?_⟩
      injection e with e
      injection e with e1 _
      exact Nat.le_of_eq e1

end Go.Proofs.Ytkobhlhkkpnmkaa
