/-
  Package table (values: int): the iterator over a table's buckets, for every loop body that keeps the two rows. Conditions: the rows lie in memory as they read.
-/
import Derived.Test.YtcjoakbaldeaoaaGTeI
import Derived.RangeFuncNested
import Derived.RangeFuncBound
import Derived.RangeFuncCalls
import Derived.RangeFuncLeaves
import Derived.Shelf.Abstract
import Derived.Shelf.RegionOpen
import Derived.WalkKit
import Derived.OwnWalkIn
import Derived.TacticsInMore
import Derived.LoopNIn
import Derived.LoopIn
import Derived.Sort.BigQuietIn
namespace Go.Proofs.Ytcjoakbaldeaoaa
open Go.RowKit Go.Shelf

attribute [local go_sem] Oper.semAt_some

/-- What a round keeps: both rows. -/
def KpRI (gA gB nb : Nat) (W W' : World) : Prop := W'.heap[gA]? = W.heap[gA]? ∧ (0 < nb → W'.heap[gB]? = W.heap[gB]?)

set_option maxRecDepth 100000 in
set_option maxHeartbeats 8000000 in
theorem KpRI.t {gA gB nb : Nat} {A B C : World} (h : KpRI gA gB nb A B) (k : KpRI gA gB nb B C) : KpRI gA gB nb A C := ⟨k.1.trans h.1, fun hp => (k.2 hp).trans (h.2 hp)⟩
set_option maxRecDepth 100000 in
set_option maxHeartbeats 8000000 in
theorem KpRI.r {gA gB nb : Nat} (A : World) : KpRI gA gB nb A A := ⟨rfl, fun _ => rfl⟩
set_option maxRecDepth 100000 in
set_option maxHeartbeats 8000000 in
theorem KpRI.of_below {gA gB nb n : Nat} {A B : World} (h : Below n A B) (hA : gA < n) (hB : 0 < nb → gB < n) : KpRI gA gB nb A B := ⟨h.block _ hA, fun hp => h.block _ (hB hp)⟩

/-- How many buckets lie ahead of a row. -/
def offBI (na nb i : Nat) : Nat := if i = 0 then 0 else if i = 1 then na else na + nb

set_option maxRecDepth 100000 in
set_option maxHeartbeats 8000000 in
theorem take_getI {α : Type} (bv : α → Value) (XS : List α) (L : List Value) (h : XS.map bv = L) {j : Nat} {u : Value} (hj : L[j]? = some u) : ∃ x, bv x = u ∧ XS.take (j + 1) = XS.take j ++ [x] ∧ j < XS.length := by
  rw [← h, List.getElem?_map] at hj
  cases hx : XS[j]? with
  | none => rw [hx] at hj; cases hj
  | some x =>
    rw [hx] at hj
    injection hj with hj
    exact ⟨x, hj, by rw [List.take_add_one, hx, Option.toList_some], (List.getElem?_eq_some_iff.1 hx).1⟩

set_option maxRecDepth 100000 in
set_option maxHeartbeats 8000000 in
theorem rows_atI (na nb : Nat) (sA sB : Nat → Value) : (∀ k, k < na → ((List.range na).map sA ++ (List.range nb).map sB)[k]? = some (sA k)) ∧ (∀ k, k < nb → ((List.range na).map sA ++ (List.range nb).map sB)[na + k]? = some (sB k)) := by
  refine ⟨fun k hk => ?_, fun k hk => ?_⟩
  · rw [List.getElem?_append_left (by rw [List.length_map, List.length_range]; exact hk), List.getElem?_map, List.getElem?_range hk]
    rfl
  · rw [List.getElem?_append_right (by rw [List.length_map, List.length_range]; omega), List.length_map, List.length_range, show na + k - na = k from by omega, List.getElem?_map, List.getElem?_range hk]
    rfl

set_option maxRecDepth 100000 in
set_option maxHeartbeats 8000000 in
theorem buckets1I_in {α : Type} (n : Nat) (hn : 1 ≤ n) (l Bn Q na nb gA gB : Nat) (tA tB : TypeId) (sA sB : Nat → Value) (XS : List α) (bv : α → Value) (hXS : XS.map bv = (List.range na).map sA ++ (List.range nb).map sB) (hna : 0 < na) (hna2 : na ≤ 1000000) (hnb2 : nb ≤ 1000000) (J Jx : List α → World → Prop)
    (hY : ∀ pre x W, J pre W → pre.length < XS.length → YieldAt Fence.wide (n - 1) Try.prog l #[bv x] W fun e W' =>
      (e = .returned (.bool true) ∧ J (pre ++ [x]) W' ∧ KpRI gA gB nb W W') ∨ (e = .returned (.bool false) ∧ Jx (pre ++ [x]) W'))
    (W : World) (hBn : W.cell? ⟨Bn, 0, none⟩ = some (.pointer (some ⟨Q, 0, none⟩))) (c3 : W.cell? ⟨Q, 3, none⟩ = some (rowV gA na)) (c4 : W.cell? ⟨Q, 4, none⟩ = some (rowV gB nb)) (hrA : W.rowIs gA tA na sA) (hrB : 0 < nb → W.rowIs gB tB nb sB) (hJ : AbidesFrom W.heap.size J) (h0 : J [] W) :
    CallsIn Fence.wide n Try.prog 89 #[.func (.yield l) #[] #[], .pointer (some ⟨Bn, 0, none⟩)] W fun e W' => (∃ v, e = .returned v) ∧
      ((∃ ys, ys = XS ∧ J ys W') ∨ (∃ pre, pre <+: XS ∧ Jx pre W')) := by
  have hlen : XS.length = na + nb := by
    have := congrArg List.length hXS
    simpa using this
  have HXS := Lib.hid hXS
  have HLEN := Lib.hid hlen
  have HRA := Lib.hid hrA
  have HRB := Lib.hid hrB
  have HY := Lib.hid hY
  have HJS := Lib.hid hJ
  have HJ0 := Lib.hid h0
  rw [rowV_pos hna] at c3
  clear hXS hrA hrB hY hJ h0
  rcases Nat.eq_zero_or_pos nb with rfl | hnb
  · replace c4 : W.cell? ⟨Q, 4, none⟩ = some (.slice none 0 0) := c4
    have x0 : ∀ w : World, (Instr.index 122 (.agg #[.slice (some ⟨gA, 0, none⟩) na na, .slice none 0 0]) (.int .i64 0)).run Try.prog w = .ok (.slice (some ⟨gA, 0, none⟩) na na) w := fun _ => by kernel_rfl
    have x1 : ∀ w : World, (Instr.index 122 (.agg #[.slice (some ⟨gA, 0, none⟩) na na, .slice none 0 0]) (.int .i64 1)).run Try.prog w = .ok (.slice none 0 0) w := fun _ => by kernel_rfl
    refine callsIn_of_wp Try.func89 rfl trivial ?_ rfl
    simp only [Try.ntmps89, List.size_toArray, List.length_cons, List.length_nil, Nat.reduceAdd, Nat.reduceSub, Array.replicate_succ, Array.replicate_zero, List.push_toArray, List.append_toArray, List.nil_append, List.cons_append]
    gi_wp2
    gi_quiet (fail)
    gi_wp2
    gi_loopw [4, 6, 16] (fun _ _ iv wr => ∃ i : Nat, i ≤ 2 ∧ iv = .int .i64 i ∧ J (XS.take (offBI na 0 i)) wr ∧ KpRI gA gB 0 W wr) (fun _ _ iv _ => 2 - (intOf iv).toNat)
    case atStart => exact ⟨0, by omega, rfl, HJS.out _ _ _ none HJ0.out ⟨rfl, rfl, rfl, Nat.le_refl _, fun _ _ _ => rfl⟩ (fun r e => by cases e), rfl, fun _ => rfl⟩
    case round =>
      obtain ⟨i, hi, rfl, hJ2, hK2⟩ := hrel
      have HJ := Lib.hid hJ2
      have HK := Lib.hid hK2
      clear hJ2 hK2
      have h3 : i = 0 ∨ i = 1 ∨ i = 2 := by omega
      rcases h3 with rfl | rfl | rfl
      · rw [show ((0 : Nat) : Int) = 0 from rfl]
        gi_wp2
        gi_loopw [6, 21] (fun _ kv wr => ∃ k : Nat, k ≤ na ∧ kv = .int .i64 k ∧ J (XS.take (0 + k)) wr ∧ KpRI gA gB 0 W wr) (fun _ kv _ => na - (intOf kv).toNat)
        case atStart => exact ⟨0, Nat.zero_le _, rfl, HJ.out, HK.out⟩
        case round =>
          obtain ⟨k, hk, rfl, hJ3, hK3⟩ := hrel
          have HJ3 := Lib.hid hJ3
          have HK3 := Lib.hid hK3
          by_cases hlt : k < na
          · obtain ⟨x, hxv, hxt, hxl⟩ := take_getI (j := 0 + k) bv XS _ HXS.out (by rw [Nat.zero_add]; exact (rows_atI na 0 sA sB).1 k hlt)
            have hcx : wr.cell? ⟨gA, k, none⟩ = some (bv x) := by rw [hxv]; exact (World.cell?_of_block (a := ⟨gA, k, none⟩) HK3.out.1).trans ((HRA.out).cell hlt)
            obtain ⟨fn, tmps, assign, body, hy, hR⟩ := HY.out (XS.take (0 + k)) x wr HJ3.out (by rw [List.length_take]; omega)
            obtain ⟨bx, hbx⟩ : ∃ b, bv x = b := ⟨_, rfl⟩
            rw [hbx] at hcx hy
            have HXT := Lib.hid hxt
            clear hJ3 hK3 hxv hxt hxl hbx
            gi_wp2
            refine hR.mono ?_
            rintro e W4 (⟨rfl, hJ4, hk4⟩ | ⟨rfl, hJx4⟩)
            · have HJ4 : Hid (J (XS.take (0 + (k + 1))) W4) := by unfold Hid; rw [show 0 + (k + 1) = 0 + k + 1 from by omega, HXT.out]; exact hJ4
              have HK4 := Lib.hid (HK3.out.t hk4)
              clear hJ4 hk4
              gi_wp2
              go_roundw
              case rel => exact ⟨k + 1, by omega, by go_num, HJ4.out, HK4.out⟩
              case measure => simp only [intOf]; omega
            · have HJX := Lib.hid hJx4
              clear hJx4
              gi_wp2
              refine bodyPost_ret (results_none rfl _ _ _) rfl ?_
              exact ⟨⟨_, rfl⟩, .inr ⟨_, by rw [← HXT.out]; exact List.take_prefix _ _, HJX.out⟩⟩
          · obtain rfl : k = na := by omega
            clear hJ3 hK3 hk
            gi_wp2
            go_roundw
            case rel => exact ⟨1, by omega, by first | rfl | go_num, by first | exact HJ3.out | (have q := HJ3.out; simpa [offBI] using q), HK3.out⟩
            case measure => simp only [intOf]; omega
      · rw [show ((1 : Nat) : Int) = 1 from rfl]
        gi_wp2
        gi_loopw [6, 21] (fun _ kv wr => kv = .int .i64 0 ∧ J (XS.take (na + 0)) wr ∧ KpRI gA gB 0 W wr) (fun _ kv _ => 0)
        case atStart => exact ⟨rfl, HJ.out, HK.out⟩
        case round =>
          obtain ⟨rfl, hJ3, hK3⟩ := hrel
          have HJ3 := Lib.hid hJ3
          have HK3 := Lib.hid hK3
          clear hJ3 hK3
          gi_wp2
          go_roundw
          case rel => exact ⟨2, by omega, rfl, HJ3.out, HK3.out⟩
          case measure => simp only [intOf]; omega
      · rw [show ((2 : Nat) : Int) = 2 from rfl]
        gi_wp2
        go_end0
        have hq : XS.take (offBI na 0 2) = XS := List.take_of_length_le (by rw [HLEN.out]; exact Nat.le_refl _)
        exact ⟨⟨_, rfl⟩, .inl ⟨_, rfl, by rw [← hq]; exact HJ.out⟩⟩
  · rw [rowV_pos hnb] at c4
    have x0 : ∀ w : World, (Instr.index 122 (.agg #[.slice (some ⟨gA, 0, none⟩) na na, .slice (some ⟨gB, 0, none⟩) nb nb]) (.int .i64 0)).run Try.prog w = .ok (.slice (some ⟨gA, 0, none⟩) na na) w := fun _ => by kernel_rfl
    have x1 : ∀ w : World, (Instr.index 122 (.agg #[.slice (some ⟨gA, 0, none⟩) na na, .slice (some ⟨gB, 0, none⟩) nb nb]) (.int .i64 1)).run Try.prog w = .ok (.slice (some ⟨gB, 0, none⟩) nb nb) w := fun _ => by kernel_rfl
    refine callsIn_of_wp Try.func89 rfl trivial ?_ rfl
    simp only [Try.ntmps89, List.size_toArray, List.length_cons, List.length_nil, Nat.reduceAdd, Nat.reduceSub, Array.replicate_succ, Array.replicate_zero, List.push_toArray, List.append_toArray, List.nil_append, List.cons_append]
    gi_wp2
    gi_quiet (fail)
    gi_wp2
    gi_loopw [4, 6, 16] (fun _ _ iv wr => ∃ i : Nat, i ≤ 2 ∧ iv = .int .i64 i ∧ J (XS.take (offBI na nb i)) wr ∧ KpRI gA gB nb W wr) (fun _ _ iv _ => 2 - (intOf iv).toNat)
    case atStart => exact ⟨0, by omega, rfl, HJS.out _ _ _ none HJ0.out ⟨rfl, rfl, rfl, Nat.le_refl _, fun _ _ _ => rfl⟩ (fun r e => by cases e), rfl, fun _ => rfl⟩
    case round =>
      obtain ⟨i, hi, rfl, hJ2, hK2⟩ := hrel
      have HJ := Lib.hid hJ2
      have HK := Lib.hid hK2
      clear hJ2 hK2
      have h3 : i = 0 ∨ i = 1 ∨ i = 2 := by omega
      rcases h3 with rfl | rfl | rfl
      · rw [show ((0 : Nat) : Int) = 0 from rfl]
        gi_wp2
        gi_loopw [6, 21] (fun _ kv wr => ∃ k : Nat, k ≤ na ∧ kv = .int .i64 k ∧ J (XS.take (0 + k)) wr ∧ KpRI gA gB nb W wr) (fun _ kv _ => na - (intOf kv).toNat)
        case atStart => exact ⟨0, Nat.zero_le _, rfl, HJ.out, HK.out⟩
        case round =>
          obtain ⟨k, hk, rfl, hJ3, hK3⟩ := hrel
          have HJ3 := Lib.hid hJ3
          have HK3 := Lib.hid hK3
          by_cases hlt : k < na
          · obtain ⟨x, hxv, hxt, hxl⟩ := take_getI (j := 0 + k) bv XS _ HXS.out (by rw [Nat.zero_add]; exact (rows_atI na nb sA sB).1 k hlt)
            have hcx : wr.cell? ⟨gA, k, none⟩ = some (bv x) := by rw [hxv]; exact (World.cell?_of_block (a := ⟨gA, k, none⟩) HK3.out.1).trans ((HRA.out).cell hlt)
            obtain ⟨fn, tmps, assign, body, hy, hR⟩ := HY.out (XS.take (0 + k)) x wr HJ3.out (by rw [List.length_take]; omega)
            obtain ⟨bx, hbx⟩ : ∃ b, bv x = b := ⟨_, rfl⟩
            rw [hbx] at hcx hy
            have HXT := Lib.hid hxt
            clear hJ3 hK3 hxv hxt hxl hbx
            gi_wp2
            refine hR.mono ?_
            rintro e W4 (⟨rfl, hJ4, hk4⟩ | ⟨rfl, hJx4⟩)
            · have HJ4 : Hid (J (XS.take (0 + (k + 1))) W4) := by unfold Hid; rw [show 0 + (k + 1) = 0 + k + 1 from by omega, HXT.out]; exact hJ4
              have HK4 := Lib.hid (HK3.out.t hk4)
              clear hJ4 hk4
              gi_wp2
              go_roundw
              case rel => exact ⟨k + 1, by omega, by go_num, HJ4.out, HK4.out⟩
              case measure => simp only [intOf]; omega
            · have HJX := Lib.hid hJx4
              clear hJx4
              gi_wp2
              refine bodyPost_ret (results_none rfl _ _ _) rfl ?_
              exact ⟨⟨_, rfl⟩, .inr ⟨_, by rw [← HXT.out]; exact List.take_prefix _ _, HJX.out⟩⟩
          · obtain rfl : k = na := by omega
            clear hJ3 hK3 hk
            gi_wp2
            go_roundw
            case rel => exact ⟨1, by omega, by first | rfl | go_num, by first | exact HJ3.out | (have q := HJ3.out; simpa [offBI] using q), HK3.out⟩
            case measure => simp only [intOf]; omega
      · rw [show ((1 : Nat) : Int) = 1 from rfl]
        gi_wp2
        gi_loopw [6, 21] (fun _ kv wr => ∃ k : Nat, k ≤ nb ∧ kv = .int .i64 k ∧ J (XS.take (na + k)) wr ∧ KpRI gA gB nb W wr) (fun _ kv _ => nb - (intOf kv).toNat)
        case atStart => exact ⟨0, Nat.zero_le _, rfl, HJ.out, HK.out⟩
        case round =>
          obtain ⟨k, hk, rfl, hJ3, hK3⟩ := hrel
          have HJ3 := Lib.hid hJ3
          have HK3 := Lib.hid hK3
          by_cases hlt : k < nb
          · obtain ⟨x, hxv, hxt, hxl⟩ := take_getI (j := na + k) bv XS _ HXS.out ((rows_atI na nb sA sB).2 k hlt)
            have hcx : wr.cell? ⟨gB, k, none⟩ = some (bv x) := by rw [hxv]; exact (World.cell?_of_block (a := ⟨gB, k, none⟩) (HK3.out.2 (by omega))).trans ((HRB.out (by omega)).cell hlt)
            obtain ⟨fn, tmps, assign, body, hy, hR⟩ := HY.out (XS.take (na + k)) x wr HJ3.out (by rw [List.length_take]; omega)
            obtain ⟨bx, hbx⟩ : ∃ b, bv x = b := ⟨_, rfl⟩
            rw [hbx] at hcx hy
            have HXT := Lib.hid hxt
            clear hJ3 hK3 hxv hxt hxl hbx
            gi_wp2
            refine hR.mono ?_
            rintro e W4 (⟨rfl, hJ4, hk4⟩ | ⟨rfl, hJx4⟩)
            · have HJ4 : Hid (J (XS.take (na + (k + 1))) W4) := by unfold Hid; rw [show na + (k + 1) = na + k + 1 from by omega, HXT.out]; exact hJ4
              have HK4 := Lib.hid (HK3.out.t hk4)
              clear hJ4 hk4
              gi_wp2
              go_roundw
              case rel => exact ⟨k + 1, by omega, by go_num, HJ4.out, HK4.out⟩
              case measure => simp only [intOf]; omega
            · have HJX := Lib.hid hJx4
              clear hJx4
              gi_wp2
              refine bodyPost_ret (results_none rfl _ _ _) rfl ?_
              exact ⟨⟨_, rfl⟩, .inr ⟨_, by rw [← HXT.out]; exact List.take_prefix _ _, HJX.out⟩⟩
          · obtain rfl : k = nb := by omega
            clear hJ3 hK3 hk
            gi_wp2
            go_roundw
            case rel => exact ⟨2, by omega, by first | rfl | go_num, by first | exact HJ3.out | (have q := HJ3.out; simpa [offBI] using q), HK3.out⟩
            case measure => simp only [intOf]; omega
      · rw [show ((2 : Nat) : Int) = 2 from rfl]
        gi_wp2
        go_end0
        have hq : XS.take (offBI na nb 2) = XS := List.take_of_length_le (by rw [HLEN.out]; exact Nat.le_refl _)
        exact ⟨⟨_, rfl⟩, .inl ⟨_, rfl, by rw [← hq]; exact HJ.out⟩⟩

end Go.Proofs.Ytcjoakbaldeaoaa
