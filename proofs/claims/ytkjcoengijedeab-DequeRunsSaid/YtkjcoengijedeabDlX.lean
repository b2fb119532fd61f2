/-
  What the statements' walked tells of a row, rising or falling, of a row that is nil too. Conditions: the row lies in memory as it reads.
-/
import Derived.Test.YtkjcoengijedeabDlW
namespace Go.Proofs.Ytkjcoengijedeab
open Go.RowKit

theorem backS_mk (p : Option Addr) (w : World) :
    Calls Try.prog 40 #[.pointer p] w fun e w' => e = .returned (.func (.func 51) #[] #[.pointer (some ⟨w.heap.size, 0, none⟩)]) ∧ w' = w.alloc (.cells #[.pointer p] 25) := by
  go_enter Try.func40, Try.ntmps40
  go_wp2
  go_ret
  exact ⟨rfl, rfl⟩

theorem all1_nil {Bn : Nat} (V : Value) (w : World) (hd : w.cell? ⟨Bn, 0, none⟩ = some (.pointer none)) :
    Calls Try.prog 50 #[V, .pointer (some ⟨Bn, 0, none⟩)] w fun e w' => e = .returned (.tuple #[]) ∧ w' = w := by
  have HL := Lib.hid (lenS_nil w)
  go_enter Try.func50, Try.ntmps50
  go_wp2_with fail
  refine HL.out.mono ?_
  rintro e w2 ⟨rfl, rfl⟩
  go_wp2_with fail
  go_loopw [3, 4, 5, 8, 11] (fun _ _ _ iv _ wr => iv = .int .i64 0 ∧ wr = w2) (fun _ _ _ _ _ _ => 0)
  case atStart => exact ⟨rfl, rfl⟩
  case round =>
    obtain ⟨rfl, rfl⟩ := hrel
    go_wp2
    go_end0
    exact ⟨rfl, rfl⟩

theorem back1_nil {Bn : Nat} (V : Value) (w : World) (hd : w.cell? ⟨Bn, 0, none⟩ = some (.pointer none)) :
    Calls Try.prog 51 #[V, .pointer (some ⟨Bn, 0, none⟩)] w fun e w' => e = .returned (.tuple #[]) ∧ w' = w := by
  have HL := Lib.hid (lenS_nil w)
  go_enter Try.func51, Try.ntmps51
  go_wp2_with fail
  refine HL.out.mono ?_
  rintro e w2 ⟨rfl, rfl⟩
  go_wp2_with fail
  go_loopw [3, 4, 5, 13] (fun iv _ _ _ wr => iv = .int .i64 (-1) ∧ wr = w2) (fun _ _ _ _ _ => 0)
  case atStart => exact ⟨rfl, rfl⟩
  case round =>
    obtain ⟨rfl, rfl⟩ := hrel
    go_wp2
    go_end0
    exact ⟨rfl, rfl⟩

/-- The boxes of walked, as they are made. -/
theorem boxes5 (w : World) (B : Nat) (hB : w.heap.size = B) (pd : Option Addr) (back : Bool) (m a : Int) :
    ∃ wz, ((((w.alloc (.cells #[.bool back] 4)).alloc (.cells #[.int .i64 m] 3)).alloc (.cells #[.slice none 0 0] 22)).alloc (.cells #[.bool true] 4)).alloc (.cells #[.int .i64 a] 3) = wz ∧ wz.heap.size = B + 5 ∧ Below w.heap.size w wz ∧
      (WkAt (wz.alloc (.cells #[.pointer pd] 25)) B B (B + 5) pd back m a []) ∧
      (WkAt ((wz.alloc (.cells #[.pointer pd] 25)).alloc (.cells #[.pointer pd] 25)) B B (B + 6) pd back m a []) := by
  subst hB
  obtain ⟨w1, h1⟩ : ∃ x, w.alloc (.cells #[.bool back] 4) = x := ⟨_, rfl⟩
  obtain ⟨w2, h2⟩ : ∃ x, w1.alloc (.cells #[.int .i64 m] 3) = x := ⟨_, rfl⟩
  obtain ⟨w3, h3⟩ : ∃ x, w2.alloc (.cells #[.slice none 0 0] 22) = x := ⟨_, rfl⟩
  obtain ⟨w4, h4⟩ : ∃ x, w3.alloc (.cells #[.bool true] 4) = x := ⟨_, rfl⟩
  obtain ⟨w5, h5⟩ : ∃ x, w4.alloc (.cells #[.int .i64 a] 3) = x := ⟨_, rfl⟩
  obtain ⟨w6, h6⟩ : ∃ x, w5.alloc (.cells #[.pointer pd] 25) = x := ⟨_, rfl⟩
  obtain ⟨w7, h7⟩ : ∃ x, w6.alloc (.cells #[.pointer pd] 25) = x := ⟨_, rfl⟩
  have z1 : w1.heap.size = w.heap.size + 1 := by rw [← h1]; simp
  have z2 : w2.heap.size = w.heap.size + 2 := by rw [← h2]; simp [z1]
  have z3 : w3.heap.size = w.heap.size + 3 := by rw [← h3]; simp [z2]
  have z4 : w4.heap.size = w.heap.size + 4 := by rw [← h4]; simp [z3]
  have z5 : w5.heap.size = w.heap.size + 5 := by rw [← h5]; simp [z4]
  have z6 : w6.heap.size = w.heap.size + 6 := by rw [← h6]; simp [z5]
  have b1 : Boxed w1 w.heap.size 4 (.bool back) := by rw [← h1]; exact Boxed.new w _ _
  have b2 : Boxed w2 (w.heap.size + 1) 3 (.int .i64 m) := by rw [← h2, ← z1]; exact Boxed.new w1 _ _
  have b3 : Boxed w3 (w.heap.size + 2) 22 (.slice none 0 0) := by rw [← h3, ← z2]; exact Boxed.new w2 _ _
  have b4 : Boxed w4 (w.heap.size + 3) 4 (.bool true) := by rw [← h4, ← z3]; exact Boxed.new w3 _ _
  have b5 : Boxed w5 (w.heap.size + 4) 3 (.int .i64 a) := by rw [← h5, ← z4]; exact Boxed.new w4 _ _
  have b6 : Boxed w6 (w.heap.size + 5) 25 (.pointer pd) := by rw [← h6, ← z5]; exact Boxed.new w5 _ _
  have b7 : Boxed w7 (w.heap.size + 6) 25 (.pointer pd) := by rw [← h7, ← z6]; exact Boxed.new w6 _ _
  have k2 : ∀ k, k < w1.heap.size → w2.heap[k]? = w1.heap[k]? := fun k hk => by rw [← h2]; exact Below.heap_alloc _ _ _ hk
  have k3 : ∀ k, k < w2.heap.size → w3.heap[k]? = w2.heap[k]? := fun k hk => by rw [← h3]; exact Below.heap_alloc _ _ _ hk
  have k4 : ∀ k, k < w3.heap.size → w4.heap[k]? = w3.heap[k]? := fun k hk => by rw [← h4]; exact Below.heap_alloc _ _ _ hk
  have k5 : ∀ k, k < w4.heap.size → w5.heap[k]? = w4.heap[k]? := fun k hk => by rw [← h5]; exact Below.heap_alloc _ _ _ hk
  have k6 : ∀ k, k < w5.heap.size → w6.heap[k]? = w5.heap[k]? := fun k hk => by rw [← h6]; exact Below.heap_alloc _ _ _ hk
  have k7 : ∀ k, k < w6.heap.size → w7.heap[k]? = w6.heap[k]? := fun k hk => by rw [← h7]; exact Below.heap_alloc _ _ _ hk
  have c1 := box_same (box_same (box_same (box_same (box_same b1 (k2 _ (by omega))) (k3 _ (by omega))) (k4 _ (by omega))) (k5 _ (by omega))) (k6 _ (by omega))
  have c2 := box_same (box_same (box_same (box_same b2 (k3 _ (by omega))) (k4 _ (by omega))) (k5 _ (by omega))) (k6 _ (by omega))
  have c3 := box_same (box_same (box_same b3 (k4 _ (by omega))) (k5 _ (by omega))) (k6 _ (by omega))
  have c4 := box_same (box_same b4 (k5 _ (by omega))) (k6 _ (by omega))
  have c5 := box_same b5 (k6 _ (by omega))
  rw [h1, h2, h3, h4, h5]
  refine ⟨w5, rfl, z5, ?_, ?_, ?_⟩
  · rw [← h5, ← h4, ← h3, ← h2, ← h1]
    exact ((((((Below.refl w.heap.size w).alloc (Nat.le_refl _) _).alloc (by simp) _).alloc (by simp; omega) _).alloc (by simp; omega) _).alloc (by simp; omega) _)
  · rw [h6]
    exact ⟨Nat.le_refl _, by omega, c1, c2, ⟨_, c3, World.ownsRow_nil _ _ _ _⟩, c4, c5, b6⟩
  · rw [h6, h7]
    exact ⟨Nat.le_refl _, by omega, box_same c1 (k7 _ (by omega)), box_same c2 (k7 _ (by omega)), ⟨_, box_same c3 (k7 _ (by omega)), World.ownsRow_nil _ _ _ _⟩, box_same c4 (k7 _ (by omega)), box_same c5 (k7 _ (by omega)), b7⟩

set_option maxRecDepth 100000 in
set_option maxHeartbeats 8000000 in
theorem walked_core (pd : Option Addr) (back : Bool) (m k : Nat) (rs : List Value) (w : World) (hk : k ≤ 400000) (hlen : ∀ X, Below w.heap.size w X → Calls Try.prog 11 #[.pointer pd] X fun e w' => e = .returned (.int .i64 k) ∧ w' = X)
    (hrun : ∀ X Bn B, B = w.heap.size → WkAt X B B Bn pd back (m : Int) (if back then (k : Int) - 1 else 0) [] → Below w.heap.size w X → Calls Try.prog (if back then 51 else 50) #[.func (.func 41) #[] #[.pointer (some ⟨B + 3, 0, none⟩), .pointer (some ⟨B + 4, 0, none⟩), .pointer (some ⟨B + 2, 0, none⟩), .pointer (some ⟨B, 0, none⟩), .pointer (some ⟨B + 1, 0, none⟩)], .pointer (some ⟨Bn, 0, none⟩)] X fun e w' =>
      e = .returned (.tuple #[]) ∧ (∃ a, WkAt w' B B Bn pd back (m : Int) a rs) ∧ Below B X w') :
    Calls Try.prog 18 #[.pointer pd, .bool back, .int .i64 m] w fun e w' => ∃ v, e = .returned (.tuple #[v, .bool true]) ∧ w'.ownsRow w.heap.size 9 1 v rs.length rs ∧ Below w.heap.size w w' := by
  have HALL := Lib.hid (fun X => allS_mk pd X)
  have HBACK := Lib.hid (fun X => backS_mk pd X)
  obtain ⟨B, hB⟩ : ∃ B, w.heap.size = B := ⟨_, rfl⟩
  have HB := Lib.hid hB
  cases back
  · obtain ⟨wz, hwz, hzz, hbz, hwk, -⟩ := boxes5 w B hB pd false m 0
    have HWZ := Lib.hid hwz
    have HBZ := Lib.hid (hbz.alloc hbz.size (.cells #[.pointer pd] 25))
    have HRUN := Lib.hid (hrun (wz.alloc (.cells #[.pointer pd] 25)) (B + 5) B hB.symm hwk HBZ.out)
    have hnl : ∀ (X : World) (a b : Array Value), (binOp .eql 72 (.func (.func 50) a b) .nilFunc).run Try.prog X = .ok (.bool false) X := fun _ _ _ => by rfl
    have ebk := hwk.bk.cell
    clear hrun hwk hbz hwz hB hlen
    go_enter Try.func18, Try.ntmps18
    go_wp2_with fail
    rw [HWZ.out, HB.out, show B + 1 + 1 + 1 + 1 = B + 4 from rfl, show B + 1 + 1 + 1 = B + 3 from rfl, show B + 1 + 1 = B + 2 from rfl]
    refine (HALL.out _).mono ?_
    rintro e w2 ⟨rfl, rfl⟩
    rw [hzz]
    go_wp2_with fail
    refine HRUN.out.mono ?_
    rintro e w3 ⟨rfl, ⟨a, hw3⟩, hb3⟩
    have HB3 := Lib.hid (HBZ.out.trans (by rw [← HB.out] at hb3; exact hb3))
    have eok := hw3.ok.cell
    obtain ⟨v, hv, hrow⟩ := hw3.l
    have el := hv.cell
    have HROW := Lib.hid hrow
    obtain ⟨A, c, rfl⟩ := own_form1 hrow
    clear hw3 hb3 hv hrow
    go_wp2_with fail
    go_quiet (fail)
    go_wp2
    go_ret2
    exact ⟨_, rfl, by rw [HB.out]; exact HROW.out, HB3.out.trans (below_drewN _ _ _)⟩
  · obtain ⟨wz, hwz, hzz, hbz, -, hwk⟩ := boxes5 w B hB pd true m ((k : Int) - 1)
    have HWZ := Lib.hid hwz
    have HBZ := Lib.hid ((hbz.alloc hbz.size (.cells #[.pointer pd] 25)).alloc (by have := hbz.size; simp; omega) (.cells #[.pointer pd] 25))
    have HRUN := Lib.hid (hrun ((wz.alloc (.cells #[.pointer pd] 25)).alloc (.cells #[.pointer pd] 25)) (B + 6) B hB.symm hwk HBZ.out)
    have hnl : ∀ (X : World) (a b : Array Value), (binOp .eql 72 (.func (.func 51) a b) .nilFunc).run Try.prog X = .ok (.bool false) X := fun _ _ _ => by rfl
    have ebk := hwk.bk.cell
    have hw1 : IntKind.i64.wrap ((k : Int) - 1) = (k : Int) - 1 := IntWalk.i64_in _ (by omega)
    have hnl2 : ∀ (X : World) (a b : Array Value), (binOp .eql 72 (.func (.func 50) a b) .nilFunc).run Try.prog X = .ok (.bool false) X := fun _ _ _ => by rfl
    have HLEN := Lib.hid hlen
    have ebz : (wz.alloc (.cells #[.pointer pd] 25)).cell? ⟨B, 0, none⟩ = some (.bool true) := by
      have q : (wz.alloc (.cells #[.pointer pd] 25)).heap[B]? = some (.cells #[.bool true] 4 (0, 0)) := by
        have q2 := hwk.bk
        exact (Below.heap_alloc (wz.alloc (.cells #[.pointer pd] 25)) (.cells #[.pointer pd] 25) B (by simp; omega)).symm.trans q2
      simp [World.cell?, q]
    clear hrun hwk hbz hwz hB hlen
    go_enter Try.func18, Try.ntmps18
    go_wp2_with fail
    refine (HLEN.out _ ?_).mono ?_
    · exact ((((((Below.refl w.heap.size w).alloc (Nat.le_refl _) _).alloc (by simp) _).alloc (by simp; omega) _).alloc (by simp; omega) _).alloc (by simp; omega) _)
    rintro e w2 ⟨rfl, rfl⟩
    go_wp2_with fail
    rw [HWZ.out, HB.out, show B + 1 + 1 + 1 + 1 = B + 4 from rfl, show B + 1 + 1 + 1 = B + 3 from rfl, show B + 1 + 1 = B + 2 from rfl]
    refine (HALL.out _).mono ?_
    rintro e w2 ⟨rfl, rfl⟩
    rw [hzz]
    go_wp2_with fail
    refine (HBACK.out _).mono ?_
    rintro e w2 ⟨rfl, rfl⟩
    rw [show (wz.alloc (.cells #[.pointer pd] 25)).heap.size = B + 6 by simp [hzz]]
    go_wp2_with fail
    refine HRUN.out.mono ?_
    rintro e w3 ⟨rfl, ⟨a, hw3⟩, hb3⟩
    have HB3 := Lib.hid (HBZ.out.trans (by rw [← HB.out] at hb3; exact hb3))
    have eok := hw3.ok.cell
    obtain ⟨v, hv, hrow⟩ := hw3.l
    have el := hv.cell
    have HROW := Lib.hid hrow
    obtain ⟨A, c, rfl⟩ := own_form1 hrow
    clear hw3 hb3 hv hrow
    go_wp2_with fail
    go_quiet (fail)
    go_wp2
    go_ret2
    exact ⟨_, rfl, by rw [HB.out]; exact HROW.out, HB3.out.trans (below_drewN _ _ _)⟩

theorem walked_any {D M base m : Nat} {F : Nat → Prop} {L : List ByteArray} (back : Bool) (w : World) (hD : DqOn KDS w base F D M L) (hM : M ≤ 400000) (hL : L.length ≤ 400000) (hm : 1 ≤ m) :
    Calls Try.prog 18 #[.pointer (some ⟨D, 0, none⟩), .bool back, .int .i64 m] w fun e w' => ∃ v, e = .returned (.tuple #[v, .bool true]) ∧ w'.ownsRow w.heap.size 9 1 v (((if back then L.reverse else L).take m).map Value.string).length (((if back then L.reverse else L).take m).map Value.string) ∧ Below w.heap.size w w' := by
  refine walked_core (some ⟨D, 0, none⟩) back m L.length _ w hL (fun X hX => lenS_any X (hD.below hX)) (fun X Bn B hB hw hb => ?_)
  subst hB
  cases back
  · exact all1_wk X (hD.below hb) hM hL hw hm (fun k hk => (hD.1 k hk).2) hb.size
  · exact back1_wk X (hD.below hb) hM hL hw hm (fun k hk => (hD.1 k hk).2) hb.size

theorem walked_nil {m : Nat} (back : Bool) (w : World) :
    Calls Try.prog 18 #[.pointer none, .bool back, .int .i64 m] w fun e w' => ∃ v, e = .returned (.tuple #[v, .bool true]) ∧ w'.ownsRow w.heap.size 9 1 v 0 [] ∧ Below w.heap.size w w' := by
  refine walked_core none back m 0 [] w (by omega) (fun X _ => lenS_nil X) (fun X Bn B hB hw hb => ?_)
  cases back
  · refine (all1_nil _ X hw.d.cell).mono ?_
    rintro e w' ⟨he, rfl⟩
    exact ⟨he, ⟨_, hw⟩, Below.refl _ _⟩
  · refine (back1_nil _ X hw.d.cell).mono ?_
    rintro e w' ⟨he, rfl⟩
    exact ⟨he, ⟨_, hw⟩, Below.refl _ _⟩

end Go.Proofs.Ytkjcoengijedeab
