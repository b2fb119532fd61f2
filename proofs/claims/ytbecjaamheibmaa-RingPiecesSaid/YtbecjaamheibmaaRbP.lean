/-
  RingPieces: what a piece's telling makes of the boxes (pieces$1): its walk. Conditions: the boxes lie in memory as typed.
-/
import Derived.Test.YtbecjaamheibmaaRbE
import Derived.Test.YtbecjaamheibmaaRaO
namespace Go.Proofs.Ytbecjaamheibmaa
open Go.RowKit

/-- The boxes of a call of pieces, behind j pieces whose bytes are Z. -/
structure PcAt (w : World) (B N : Nat) (o t : Int) (Z : Tx) (j : Nat) : Prop where
  b0 : w.rowIs N 3 1 (fun _ => .int .i64 o)
  b1 : w.rowIs (N + 1) 3 1 (fun _ => .int .i64 t)
  b2 : ∃ A c, w.rowIs (N + 2) 33 1 (fun _ => .slice A Z.length c) ∧ w.ownsRow B 5 1 (.slice A Z.length c) Z.length (Z.map byV)
  b3 : w.rowIs (N + 3) 3 1 (fun _ => .int .i64 (j : Int))
  b4 : w.rowIs (N + 4) 4 1 (fun _ => .bool true)
  lt : N + 8 ≤ B ∧ B ≤ w.heap.size

/-- What a piece's telling may turn. -/
def PcOnly (B N : Nat) : Nat → Prop := fun k => k = N + 2 ∨ k = N + 3 ∨ k = N + 4 ∨ B ≤ k

theorem PcAt.keep {w w' : World} {B N : Nat} {o t : Int} {Z : Tx} {j : Nat} (h : PcAt w B N o t Z j) (hb : Below w.heap.size w w') : PcAt w' B N o t Z j := by
  obtain ⟨h0, h1, ⟨A, c, h2, h3⟩, h4, h5, h6⟩ := h
  have hs := hb.size
  exact ⟨h0.of_block (hb.block _ h0.lt), h1.of_block (hb.block _ h1.lt), ⟨A, c, h2.of_block (hb.block _ h2.lt), ownsRow_below1 h3 hb⟩, h4.of_block (hb.block _ h4.lt), h5.of_block (hb.block _ h5.lt), ⟨h6.1, by omega⟩⟩

/-- What the telling leaves. -/
def PcTo (w : World) (B N : Nat) (o t : Int) (Z : Tx) (j : Nat) (w' : World) : Prop := PcAt w' B N o t Z j ∧ Only (PcOnly B N) w w'

set_option maxRecDepth 100000 in
set_option maxHeartbeats 16000000 in
theorem yield_any {B N : Nat} {o : Int} {t : Nat} {Z : Tx} {j : Nat} {Ap : Option Addr} {np cp : Nat} {l : Tx} (w : World) (h : PcAt w B N o t Z j) (hp : ByAt w Ap np cp l) (hpg : ∀ g o', 0 < np → Ap = some ⟨g, o', none⟩ → N + 8 ≤ g ∧ g < B) (hpos : 0 < np) (hpt : np ≤ t) (hZ : Z.length + np ≤ 33554432) (hj : j + 1 < 5000) (a : Int) (ha : a = o + (Z.length : Int)) :
    Calls Try.prog 38 #[.int .i64 a, .slice Ap np cp, .pointer (some ⟨N + 4, 0, none⟩), .pointer (some ⟨N, 0, none⟩), .pointer (some ⟨N + 2, 0, none⟩), .pointer (some ⟨N + 1, 0, none⟩), .pointer (some ⟨N + 3, 0, none⟩)] w fun e w' => e = .returned (.bool true) ∧ PcTo w B N o t (Z ++ l) (j + 1) w' := by
  obtain ⟨h0, h1, ⟨A, c, h2, h3⟩, h4, h5, h6, h7⟩ := h
  have hlen := hp.len
  have c0 : w.cell? ⟨N, 0, none⟩ = some (.int .i64 o) := h0.cell (i := 0) (by omega)
  have c1 : w.cell? ⟨N + 1, 0, none⟩ = some (.int .i64 (t : Int)) := h1.cell (i := 0) (by omega)
  have c2 : w.cell? ⟨N + 2, 0, none⟩ = some (.slice A Z.length c) := h2.cell (i := 0) (by omega)
  have c3 : w.cell? ⟨N + 3, 0, none⟩ = some (.int .i64 (j : Int)) := h4.cell (i := 0) (by omega)
  have c4 : w.cell? ⟨N + 4, 0, none⟩ = some (.bool true) := h5.cell (i := 0) (by omega)
  have f4 := h5.frozen 0
  obtain ⟨k, hk⟩ : ∃ k, Z.length = k := ⟨_, rfl⟩
  have hwa : IntKind.i64.wrap (a - o) = (k : Int) := by rw [IntWalk.i64_in _ (by omega)]; omega
  have hpI : (0 : Int) < (np : Int) := by omega
  have hptI : (np : Int) ≤ (t : Int) := by omega
  obtain ⟨w1, hw1⟩ : ∃ w1, w.setCell ⟨N + 4, 0, none⟩ (.bool true) = w1 := ⟨_, rfl⟩
  have ho1' : Only (· = N + 4) w w1 := by rw [← hw1]; exact (Only.refl (· = N + 4) w).set (q := ⟨N + 4, 0, none⟩) rfl _
  have hz1 : w1.heap.size = w.heap.size := by rw [← hw1]; simp
  have r2 : w1.rowIs (N + 2) 33 1 (fun _ => .slice A k c) := by rw [← hk]; exact ho1'.row h2 (by omega)
  have r3 := ho1'.row h4 (by omega)
  have r0 := ho1'.row h0 (by omega)
  have r1 := ho1'.row h1 (by omega)
  have r4 : w1.rowIs (N + 4) 4 1 (fun _ => .bool true) := by rw [← hw1]; exact (h5.set 0 (.bool true)).congr (fun i _ => by split <;> rfl)
  have hown1 : w1.ownsRow B 5 1 (.slice A k c) k (Z.map byV) := by
    rw [hk] at h3
    rw [← hw1]
    exact ownsRow_setCell_below h3 (show N + 4 < B by omega) _
  have hp1 : ByAt w1 Ap np cp l := hp.only ho1' (fun g o' h0' e q => by have := hpg g o' h0' e; omega)
  obtain ⟨K, hK⟩ : ∃ K, k + np = K := ⟨_, rfl⟩
  have hw3 : IntKind.i64.wrap ((j : Int) + 1) = ((j + 1 : Nat) : Int) := by rw [IntWalk.i64_in _ (by omega)]; omega
  obtain ⟨jj, hjj⟩ : ∃ jj, j + 1 = jj := ⟨_, rfl⟩
  rw [hjj] at hw3 hj
  have hjI : (jj : Int) < 5000 := by omega
  have hsum : (j : Int) + 1 = (jj : Int) := by omega
  have e2 : w1.cell? ⟨N + 2, 0, none⟩ = some (.slice A k c) := r2.cell (i := 0) (by omega)
  have HO1 := Lib.hid hown1
  have HP1 := Lib.hid hp1
  have HK := Lib.hid hK
  have hB1 : B ≤ w1.heap.size := by omega
  have HKL : Hid (K ≤ 140737488355328) := by unfold Hid; omega
  have HEND : Hid (∀ w5 A5 c5, w5.ownsRow B 5 1 (.slice A5 K c5) K ((Z ++ l).map byV) → Below B w1 w5 → w5.cell? ⟨N + 2, 0, none⟩ = some (.slice A k c) ∧ w5.frozen? ⟨N + 2, 0, none⟩ = false ∧ w5.cell? ⟨N + 3, 0, none⟩ = some (.int .i64 (j : Int)) ∧ w5.frozen? ⟨N + 3, 0, none⟩ = false ∧ PcTo w B N o t (Z ++ l) jj ((w5.setCell ⟨N + 2, 0, none⟩ (.slice A5 K c5)).setCell ⟨N + 3, 0, none⟩ (.int .i64 (jj : Int)))) := fun w5 A5 c5 hown hb => by
    have q0 := r0.of_block (hb.block N (by omega))
    have q1 := r1.of_block (hb.block (N + 1) (by omega))
    have q2 := r2.of_block (hb.block (N + 2) (by omega))
    have q3 := r3.of_block (hb.block (N + 3) (by omega))
    have q4 := r4.of_block (hb.block (N + 4) (by omega))
    have hlK : (Z ++ l).length = K := by rw [List.length_append, hk, hlen, hK]
    have hz5 := hb.size
    have hz : ((w5.setCell ⟨N + 2, 0, none⟩ (.slice A5 K c5)).setCell ⟨N + 3, 0, none⟩ (.int .i64 (jj : Int))).heap.size = w5.heap.size := by simp
    refine ⟨q2.cell (i := 0) (by omega), q2.frozen 0, q3.cell (i := 0) (by omega), q3.frozen 0, ⟨?_, ?_, ⟨A5, c5, ?_, ?_⟩, ?_, ?_, h6, by omega⟩, ?_⟩
    · exact (q0.setOther (a := ⟨N + 2, 0, none⟩) (show N ≠ N + 2 by omega) _).setOther (a := ⟨N + 3, 0, none⟩) (show N ≠ N + 3 by omega) _
    · exact (q1.setOther (a := ⟨N + 2, 0, none⟩) (show N + 1 ≠ N + 2 by omega) _).setOther (a := ⟨N + 3, 0, none⟩) (show N + 1 ≠ N + 3 by omega) _
    · rw [hlK]
      exact ((q2.set 0 (.slice A5 K c5)).congr (fun i hi => by rw [if_pos (by omega)])).setOther (a := ⟨N + 3, 0, none⟩) (show N + 2 ≠ N + 3 by omega) _
    · rw [hlK]
      exact ownsRow_setCell_below (ownsRow_setCell_below hown (show N + 2 < B by omega) _) (show N + 3 < B by omega) _
    · exact ((q3.setOther (a := ⟨N + 2, 0, none⟩) (show N + 3 ≠ N + 2 by omega) _).set 0 (.int .i64 (jj : Int))).congr (fun i hi => by rw [if_pos (by omega)])
    · exact (q4.setOther (a := ⟨N + 2, 0, none⟩) (show N + 4 ≠ N + 2 by omega) _).setOther (a := ⟨N + 3, 0, none⟩) (show N + 4 ≠ N + 3 by omega) _
    · have k1 : Only (PcOnly B N) w w1 := ho1'.mono (fun i e => Or.inr (Or.inr (Or.inl e)))
      have k2 : Only (PcOnly B N) w1 w5 := ⟨hb.os, hb.tape, hb.output, hb.size, fun i hi hn => hb.block i (Nat.lt_of_not_le fun q => hn (Or.inr (Or.inr (Or.inr q))))⟩
      exact ((k1.trans k2).set (q := ⟨N + 2, 0, none⟩) (Or.inl rfl) _).set (q := ⟨N + 3, 0, none⟩) (Or.inr (Or.inl rfl)) _
  have HW1 := Lib.hid hw1
  have HJ := Lib.hid hjj
  rw [hk] at c2
  clear h0 h1 h2 h3 h4 h5 hp hlen ho1' hz1 r0 r1 r2 r3 r4 hown1 hp1 hK hjj hk hw1 hpg ha
  go_enter Try.func38, Try.ntmps38
  go_wp2_with (first | rw [HW1.out] | (at_builtin; refine wpList_append_by rfl _ _ rfl B A k c Z rfl HO1.out hB1 Ap np cp l rfl HP1.out K HK.out HKL.out ?_))
  intro A5 c5 w5 HO5 hb5
  obtain ⟨k2, f2, k3, f3, he⟩ := HEND.out w5 A5 c5 (by have q := HO5.out; (try rw [← List.map_append] at q); exact q) hb5
  have HE := Lib.hid he
  clear hb5 he
  go_wp2
  go_ret
  exact ⟨rfl, by rw [HJ.out]; exact HE.out⟩

end Go.Proofs.Ytbecjaamheibmaa
