/-
  The walk of the document's own First: what stands at the beginning. Conditions: the bytes lie in memory as a slice that reads as them.
-/
import Derived.Test.YtkaododohnncnaaRspN
namespace Go.Proofs.Ytkaododohnncnaa
open Go.RowKit

set_option maxHeartbeats 1000000 in
theorem rfirst_empty (A : Option Addr) (cap : Nat) (w : World) :
    Calls Try.prog 17 #[.slice A 0 cap] w (FndPost w none) := by
  go_enter Try.func17, Try.ntmps17
  go_wp2
  refine bodyPost_ret (v := fndV 0 0 (.slice none 0 0) []) ?_ rfl ⟨(Below.refl _ _).alloc (Nat.le_refl _) _, rfl⟩
  simp [results, Try.results17, go_sem, fndV]

set_option maxHeartbeats 2000000 in
theorem rfirst_star (b o cap : Nat) (l : List UInt8) (w : World) (hl : l.length ≤ cap) (hcap : cap ≤ 9223372036854775807) (h0 : 0 < l.length) (h42 : l.getD 0 0 = 42) (hb : b < w.heap.size) (hc : BytesAt w b o l) :
    Calls Try.prog 17 #[.slice (some ⟨b, o, none⟩) l.length cap] w (FndPost w (bulksS l)) := by
  have hcell := hc 0 h0
  rw [Nat.add_zero] at hcell
  rw [h42, show (((42 : UInt8).toNat : Nat) : Int) = 42 from rfl] at hcell
  have HC := Lib.hid hc
  clear hc
  have hcell2 := fun ob : Obj => (World.cell?_alloc_lt w ob ⟨b, o, none⟩ hb).trans hcell
  clear hcell
  go_enter Try.func17, Try.ntmps17
  go_wp2_with fail
  refine (rbulks_any b o cap l _ hl hcap h0 h42 (by simp; omega) (fun j hj => (World.cell?_alloc_lt w _ ⟨b, o + j, none⟩ hb).trans (HC.out j hj))).mono ?_
  rintro e w2 ⟨hb2, he⟩
  obtain ⟨hcc, hff⟩ := bcell hb2
  have hz2 := hb2.size
  have hw2 : w.heap.size < w2.heap.size := by rw [World.size_alloc] at hz2; omega
  have hbase : Below w.heap.size w w2 := ((Below.refl _ _).alloc (Nat.le_refl _) _).trans (hb2.mono (by simp))
  simp only [World.size_alloc] at hcc hff
  cases hR : bulksS l with
  | none =>
    rw [hR] at he
    subst he
    have HR := Lib.hid hR
    clear hR
    simp only [fndV]
    go_wp2
    refine bodyPost_ret (v := fndV 0 0 (.slice none 0 0) []) ?_ rfl ⟨below_cell4 hbase (Nat.le_refl _) _ _ _ _, by rw [HR.out]⟩
    simp [results, Try.results17, go_sem, fndV, hcc]
  | some x =>
    rcases x with f | ⟨ws, n⟩
    · rw [hR] at he
      subst he
      have HR := Lib.hid hR
      clear hR
      simp only [fndV]
      go_wp2
      refine bodyPost_ret (v := fndV 2 0 (.slice none 0 0) f) ?_ rfl ⟨below_cell4 hbase (Nat.le_refl _) _ _ _ _, by rw [HR.out]⟩
      simp [results, Try.results17, go_sem, fndV, hcc]
    · rw [hR] at he
      obtain ⟨v, rfl, hown⟩ := he
      have HR := Lib.hid hR
      clear hR
      obtain ⟨A, c, rfl⟩ := ownsRow_form hown
      rw [World.size_alloc] at hown
      simp only [fndV]
      go_wp2
      refine bodyPost_ret (v := fndV 1 n (.slice A ws.length c) []) ?_ rfl ⟨below_cell4 hbase (Nat.le_refl _) _ _ _ _, ?_⟩
      · simp [results, Try.results17, go_sem, fndV, hcc]
      · rw [HR.out]
        exact ⟨_, rfl, ownsRow_base (ownsRow_set (ownsRow_set (ownsRow_set (ownsRow_set hown _ (by omega) _ _) _ (by omega) _ _) _ (by omega) _ _) _ (by omega) _ _) (by omega)⟩

set_option maxHeartbeats 2000000 in
theorem rfirst_line (b o cap : Nat) (l : List UInt8) (w : World) (hl : l.length ≤ cap) (hcap : cap ≤ 9223372036854775807) (h0 : 0 < l.length) (h42 : l.getD 0 0 ≠ 42) (hb : b < w.heap.size) (hc : BytesAt w b o l) :
    Calls Try.prog 17 #[.slice (some ⟨b, o, none⟩) l.length cap] w (FndPost w (lineS l)) := by
  have hcell := hc 0 h0
  rw [Nat.add_zero] at hcell
  obtain ⟨y, hy⟩ : ∃ y : UInt8, l.getD 0 0 = y := ⟨_, rfl⟩
  rw [hy] at hcell h42
  obtain ⟨z, hz'⟩ : ∃ z : Nat, y.toNat = z := ⟨_, rfl⟩
  have g42 : ((z : Int) == 42) = false := neI hz' h42
  rw [hz'] at hcell
  clear h42 hy hz'
  have HC := Lib.hid hc
  clear hc
  have hcell2 := fun ob : Obj => (World.cell?_alloc_lt w ob ⟨b, o, none⟩ hb).trans hcell
  clear hcell
  go_enter Try.func17, Try.ntmps17
  go_wp2_with fail
  refine (rline_any b o cap l _ hl hcap (by simp; omega) (fun j hj => (World.cell?_alloc_lt w _ ⟨b, o + j, none⟩ hb).trans (HC.out j hj))).mono ?_
  rintro e w2 ⟨hb2, he⟩
  obtain ⟨hcc, hff⟩ := bcell hb2
  have hz2 := hb2.size
  have hw2 : w.heap.size < w2.heap.size := by rw [World.size_alloc] at hz2; omega
  have hbase : Below w.heap.size w w2 := ((Below.refl _ _).alloc (Nat.le_refl _) _).trans (hb2.mono (by simp))
  simp only [World.size_alloc] at hcc hff
  cases hR : lineS l with
  | none =>
    rw [hR] at he
    subst he
    have HR := Lib.hid hR
    clear hR
    simp only [fndV]
    go_wp2
    refine bodyPost_ret (v := fndV 0 0 (.slice none 0 0) []) ?_ rfl ⟨below_cell4 hbase (Nat.le_refl _) _ _ _ _, by rw [HR.out]⟩
    simp [results, Try.results17, go_sem, fndV, hcc]
  | some x =>
    rcases x with f | ⟨ws, n⟩
    · rw [hR] at he
      subst he
      have HR := Lib.hid hR
      clear hR
      simp only [fndV]
      go_wp2
      refine bodyPost_ret (v := fndV 2 0 (.slice none 0 0) f) ?_ rfl ⟨below_cell4 hbase (Nat.le_refl _) _ _ _ _, by rw [HR.out]⟩
      simp [results, Try.results17, go_sem, fndV, hcc]
    · rw [hR] at he
      obtain ⟨v, rfl, hown⟩ := he
      have HR := Lib.hid hR
      clear hR
      obtain ⟨A, c, rfl⟩ := ownsRow_form hown
      rw [World.size_alloc] at hown
      simp only [fndV]
      go_wp2
      refine bodyPost_ret (v := fndV 1 n (.slice A ws.length c) []) ?_ rfl ⟨below_cell4 hbase (Nat.le_refl _) _ _ _ _, ?_⟩
      · simp [results, Try.results17, go_sem, fndV, hcc]
      · rw [HR.out]
        exact ⟨_, rfl, ownsRow_base (ownsRow_set (ownsRow_set (ownsRow_set (ownsRow_set hown _ (by omega) _ _) _ (by omega) _ _) _ (by omega) _ _) _ (by omega) _ _) (by omega)⟩

theorem rfirst_any (b o cap : Nat) (l : List UInt8) (w : World) (hl : l.length ≤ cap) (hcap : cap ≤ 9223372036854775807) (h0 : 0 < l.length) (hb : b < w.heap.size) (hc : BytesAt w b o l) :
    Calls Try.prog 17 #[.slice (some ⟨b, o, none⟩) l.length cap] w (FndPost w (firstS l)) := by
  match l, h0 with
  | c :: r, h0 =>
    by_cases h42 : c = 42
    · have e : firstS (c :: r) = bulksS (c :: r) := by simp only [firstS]; rw [if_pos h42]
      rw [e]
      exact rfirst_star b o cap (c :: r) w hl hcap h0 h42 hb hc
    · have e : firstS (c :: r) = lineS (c :: r) := by simp only [firstS]; rw [if_neg h42]
      rw [e]
      exact rfirst_line b o cap (c :: r) w hl hcap h0 h42 hb hc

end Go.Proofs.Ytkaododohnncnaa
