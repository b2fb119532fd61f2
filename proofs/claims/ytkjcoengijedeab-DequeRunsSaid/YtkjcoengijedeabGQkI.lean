/-
  Package deque (values: int): the walks of Of, All and what All tells inside a range. Conditions: the row lies in memory as it reads.
-/
import Derived.Test.YtkjcoengijedeabGQlI
import Derived.Test.YtkjcoengijedeabDqP
import Derived.RangeFuncNested
import Derived.RangeFuncBound
import Derived.RangeFuncCalls
import Derived.RangeFuncLeaves
import Derived.Shelf.Abstract
import Derived.Shelf.RegionOpen
import Derived.OwnWalkIn
import Derived.TacticsInMore
import Derived.LoopNIn
import Derived.LoopIn
import Derived.Sort.BigQuietIn
namespace Go.Proofs.Ytkjcoengijedeab
open Go.RowKit Go.Shelf

attribute [local go_sem] Oper.semAt_some

/-- What a round keeps: the row's blocks and the box. -/
def KpDI (F : Nat → Prop) (Bn : Nat) (W W' : World) : Prop := ∀ k, F k ∨ k = Bn → W'.heap[k]? = W.heap[k]?
set_option maxRecDepth 100000 in
set_option maxHeartbeats 8000000 in
theorem KpDI.t {F : Nat → Prop} {Bn : Nat} {A B C : World} (h : KpDI F Bn A B) (k : KpDI F Bn B C) : KpDI F Bn A C := fun i hi => (k i hi).trans (h i hi)
set_option maxRecDepth 100000 in
set_option maxHeartbeats 8000000 in
theorem KpDI.of_below {F : Nat → Prop} {Bn n : Nat} {A B : World} (h : Below n A B) (hF : ∀ k, F k → k < n) (hB : Bn < n) : KpDI F Bn A B := fun k hk => h.block k (by
  rcases hk with hk | hk
  · exact hF k hk
  · omega)

set_option maxRecDepth 100000 in
set_option maxHeartbeats 8000000 in
theorem DqOn.blocksI {w w' : World} {base D M : Nat} {F : Nat → Prop} {L : List Int} (h : DqOn KDI w base F D M L) (hk : ∀ k, F k → w'.heap[k]? = w.heap[k]?) : DqOn KDI w' base F D M L := by
  obtain ⟨h1, h2, h3⟩ := h
  refine ⟨fun k hF => ⟨(h1 k hF).1, ?_⟩, h2, ?_⟩
  · have q := hk k hF
    rw [Array.getElem?_eq_getElem (h1 k hF).2] at q
    exact (Array.getElem?_eq_some_iff.1 q).1
  · rcases h3 with ⟨q, q2⟩ | ⟨R, g, N, c, f, S, q1, q2, q3, q4, q5⟩
    · exact Or.inl ⟨q.of_block (hk D h2), q2⟩
    · exact Or.inr ⟨R, g, N, c, f, S, q1.of_block (hk D h2), q2, q3, q4, q5.keep (hk R q2) (fun hp => hk g (q3 hp))⟩

set_option maxRecDepth 100000 in
set_option maxHeartbeats 8000000 in
theorem all1I_in (n : Nat) (hn : 1 ≤ n) (l Bn D M base : Nat) (F : Nat → Prop) (L : List Int) (hM : M ≤ 400000) (hL : L.length ≤ 400000) (J Jx : List (Int × Nat) → World → Prop)
    (hY : ∀ pre x W, J pre W → pre.length < L.zipIdx.length → YieldAt Fence.wide (n - 1) Try.prog l #[.int .i64 x.2, (Value.int .i64) x.1] W fun e W' =>
      (e = .returned (.bool true) ∧ J (pre ++ [x]) W' ∧ KpDI F Bn W W') ∨ (e = .returned (.bool false) ∧ Jx (pre ++ [x]) W'))
    (W : World) (hBn : W.cell? ⟨Bn, 0, none⟩ = some (.pointer (some ⟨D, 0, none⟩))) (hD : DqOn KDI W base F D M L) (hJ : AbidesFrom W.heap.size J) (h0 : J [] W) :
    CallsIn Fence.wide n Try.prog 60 #[.func (.yield l) #[] #[], .pointer (some ⟨Bn, 0, none⟩)] W fun e W' => (∃ v, e = .returned v) ∧
      ((∃ ys, ys = L.zipIdx ∧ J ys W') ∨ (∃ pre, pre <+: L.zipIdx ∧ Jx pre W')) := by
  have HLEN := Lib.hid (lenI_any W hD)
  have HD := Lib.hid hD
  have HY := Lib.hid hY
  have HJS := Lib.hid hJ
  have HJ0 := Lib.hid h0
  have HBN := Lib.hid hBn
  obtain ⟨k, hk⟩ : ∃ k, L.length = k := ⟨_, rfl⟩
  have HK := Lib.hid hk
  rw [hk] at HLEN hL
  clear hD hY hJ h0 hk
  refine callsIn_of_wp Try.func60 rfl trivial ?_ rfl
  simp only [Try.ntmps60, List.size_toArray, List.length_cons, List.length_nil, Nat.reduceAdd, Nat.reduceSub, Array.replicate_succ, Array.replicate_zero, List.push_toArray, List.append_toArray, List.nil_append, List.cons_append]
  gi_wp2_with (refine ⟨trivial, ?_⟩; gi_at_call 17; refine (callsIn_wide.2 HLEN.out).mono ?_; rintro e w' ⟨rfl, rfl⟩)
  gi_loopw [3, 4, 5, 8, 11] (fun _ _ _ iv _ wr => ∃ i : Nat, i ≤ k ∧ iv = .int .i64 i ∧ J (L.zipIdx.take i) wr ∧ KpDI F Bn w' wr) (fun _ _ _ iv _ _ => k - (intOf iv).toNat)
  case atStart => exact ⟨0, Nat.zero_le _, rfl, HJ0.out, fun _ _ => rfl⟩
  case round =>
    obtain ⟨i, hi, rfl, hJ2, hK2⟩ := hrel
    have HJ2 := Lib.hid hJ2
    have HK2 := Lib.hid hK2
    have hbn : wr.cell? ⟨Bn, 0, none⟩ = some (.pointer (some ⟨D, 0, none⟩)) := (World.cell?_of_block (a := ⟨Bn, 0, none⟩) (hK2 Bn (Or.inr rfl))).trans HBN.out
    clear hJ2 hK2
    by_cases hlt : i < k
    · obtain ⟨y, hy⟩ : ∃ y, L[i]? = some y := ⟨_, List.getElem?_eq_getElem (by rw [HK.out]; exact hlt)⟩
      have HTK : Hid (L.zipIdx.take (i + 1) = L.zipIdx.take i ++ [(y, i)]) := by
        unfold Hid
        rw [List.take_add_one, List.getElem?_zipIdx, hy]
        simp
      have HAT := Lib.hid (atI_yes (i := i) (v := y) wr (DqOn.blocksI HD.out (fun j hj => HK2.out j (Or.inl hj))) hM hy)
      have HPL : Hid ((L.zipIdx.take i).length < L.zipIdx.length) := by
        unfold Hid
        rw [List.length_take, List.length_zipIdx, HK.out]
        omega
      clear hy
      gi_wp2_with (refine ⟨trivial, ?_⟩; gi_at_call 61; refine (callsIn_wide.2 HAT.out).mono ?_; rintro e w5 ⟨rfl, hb5⟩; have HB5 := Lib.hid hb5; clear hb5; have HJ5 : Hid (J (L.zipIdx.take i) w5) := HJS.out _ wr w5 none HJ2.out ⟨HB5.out.os, HB5.out.tape, HB5.out.output, HB5.out.size, fun j hj _ => HB5.out.block j hj⟩ (fun r e => by cases e); obtain ⟨fn, tmps, assign, body, hy, hR⟩ := HY.out (L.zipIdx.take i) (y, i) w5 HJ5.out HPL.out; have HR := Lib.hid hR; clear hR)
      refine HR.out.mono ?_
      rintro e W4 (⟨rfl, hJ4, hk4⟩ | ⟨rfl, hJx4⟩)
      · have HJ4 : Hid (J (L.zipIdx.take (i + 1)) W4) := by unfold Hid; rw [HTK.out]; exact hJ4
        have HK4 : Hid (KpDI F Bn w' W4) := (HK2.out.t (fun j hj => HB5.out.block j (by
          rcases hj with hj | hj
          · exact lt_of_same (HK2.out j (Or.inl hj)) (HD.out.1 j hj).2
          · rw [hj]; exact lt_of_same (HK2.out Bn (Or.inr rfl)) (World.block_lt_of_cell? w' _ HBN.out)))).t hk4
        clear hJ4 hk4
        gi_wp2
        go_roundw
        case rel => exact ⟨i + 1, by omega, by go_num, HJ4.out, HK4.out⟩
        case measure => simp only [intOf]; omega
      · have HJX := Lib.hid hJx4
        clear hJx4
        gi_wp2
        refine bodyPost_ret (results_none rfl _ _ _) rfl ?_
        exact ⟨⟨_, rfl⟩, .inr ⟨_, by rw [← HTK.out]; exact List.take_prefix _ _, HJX.out⟩⟩
    · obtain rfl : i = k := by omega
      gi_wp2
      go_end0
      have hq : L.zipIdx.take i = L.zipIdx := List.take_of_length_le (by rw [List.length_zipIdx, HK.out]; exact Nat.le_refl _)
      exact ⟨⟨_, rfl⟩, .inl ⟨_, rfl, by rw [← hq]; exact HJ2.out⟩⟩

end Go.Proofs.Ytkjcoengijedeab
