/-
  items: a table's keys and values; same: two rows that read alike.
-/
import Derived.Test.YtekbaajhdilbdaaTcJ
namespace Go.Proofs.Ytekbaajhdilbdaa
open Go.RowKit

theorem keys_all {p : List UInt8 → Prop} {t : Tb Int} (h : KeysT p t) : ∀ x ∈ allT t, p x.1 := by
  intro x hx
  unfold allT at hx
  rcases List.mem_append.1 hx with hx | hx
  · obtain ⟨l, hl, hxl⟩ := List.mem_flatten.1 hx
    obtain ⟨i, hi⟩ := List.getElem?_of_mem hl
    exact h.1 i l hi x hxl
  · obtain ⟨l, hl, hxl⟩ := List.mem_flatten.1 hx
    obtain ⟨i, hi⟩ := List.getElem?_of_mem hl
    exact h.2 i l hi x hxl

set_option maxRecDepth 100000 in
set_option maxHeartbeats 8000000 in
theorem items_any {w : World} {base Q seed m : Nat} {ow : Own} {t : Tb Int} {gA gB : Nat} {sA sB : Nat → Value} (h : PT KI w base ow Q 67 seed t gA sA gB sB) (hg : Good (hashT seed) m t) (hm : m ≤ 4000) (hks : KeysT (fun k => k.length ≤ 1000) t) :
    Calls Try.prog 20 #[.pointer (some ⟨Q, 0, none⟩)] w fun e w' => ∃ v, e = .returned v ∧ w'.ownsRow w.heap.size 53 2 v (allT t).length (itemCells (allT t)) ∧ Below w.heap.size w w' := by
  have hmf : ∀ (fn : Fn) (first cap : Array Value) (w : World), (Instr.makeFunc fn first cap).run Try.prog w = .ok (.func fn first cap) w := fun _ _ _ _ => rfl
  have hng : ∀ (W : World) (f : Fn) (a b : Array Value), (binOp .eql 75 (.func f a b) .nilFunc).run Try.prog W = .ok (.bool false) W := fun _ _ _ _ => by first | rfl | kernel_rfl
  have HALL : Hid (∀ (X : World) (A : Nat), Below w.heap.size w X → X.cell? ⟨A, 0, none⟩ = some (.pointer (some ⟨Q, 0, none⟩)) → Boxed X w.heap.size 42 (.slice none 0 0) → Calls Try.prog 77 #[.func (.func 52) #[] #[.pointer (some ⟨w.heap.size, 0, none⟩)], .pointer (some ⟨A, 0, none⟩)] X fun e w' => e = .returned (.tuple #[]) ∧ ∃ v', Boxed w' w.heap.size 42 v' ∧ w'.ownsRow w.heap.size 53 2 v' (allT t).length (itemCells (allT t)) ∧ Below w.heap.size X w') :=
    fun X A hX hA hb => all1_items (h.below' hX) hg hm hks (keys_all hks) hA hb (Nat.le_refl _)
  clear h hg hks
  obtain ⟨w1, hw1⟩ : ∃ w1, w.alloc (.cells #[.slice none 0 0] 42) = w1 := ⟨_, rfl⟩
  have hb1 : Below w.heap.size w w1 := by rw [← hw1]; exact (Below.refl _ _).alloc (Nat.le_refl _) _
  have hx1 : Boxed w1 w.heap.size 42 (.slice none 0 0) := by rw [← hw1]; exact Boxed.new w _ _
  have HW1 := Lib.hid hw1
  have HB1 := Lib.hid hb1
  have HX1 := Lib.hid hx1
  clear hw1 hb1 hx1
  go_enter Try.func20, Try.ntmps20
  go_wp2_with fail
  rw [HW1.out]
  refine (allI_any (some ⟨Q, 0, none⟩) w1).mono ?_
  rintro e w2 ⟨rfl, hw2⟩
  have hb2 : Below w1.heap.size w1 w2 := by rw [hw2]; exact (Below.refl _ _).alloc (Nat.le_refl _) _
  have hc2 : w2.cell? ⟨w1.heap.size, 0, none⟩ = some (.pointer (some ⟨Q, 0, none⟩)) := by
    have q := heap_alloc_new w1 (.cells #[.pointer (some ⟨Q, 0, none⟩)] 28)
    rw [← hw2] at q
    simp [World.cell?, q]
  have HC2 := Lib.hid hc2
  have HX2 : Hid (Boxed w2 w.heap.size 42 (.slice none 0 0)) := by unfold Hid; rw [hw2]; exact HX1.out.alloc _
  have HB2 := Lib.hid (HB1.out.trans (hb2.mono HB1.out.size))
  clear hw2 hb2 hc2
  go_wp2_with fail
  refine (HALL.out _ _ HB2.out HC2.out HX2.out).mono ?_
  rintro e w3 ⟨rfl, v, q1, q2, q3⟩
  have c3 := q1.cell
  have HQ2 := Lib.hid q2
  have HB3 := Lib.hid (HB2.out.trans q3)
  obtain ⟨Av, cv, rfl⟩ := own_form q2
  clear q1 q2 q3
  go_wp2
  go_ret
  exact ⟨_, rfl, HQ2.out, HB3.out⟩

set_option maxRecDepth 100000 in
set_option maxHeartbeats 8000000 in
theorem same_any {w : World} {b1 b2 : Nat} {v1 v2 : Value} {l : List (List UInt8 × Int)} (h1 : w.ownsRow b1 53 2 v1 l.length (itemCells l)) (h2 : w.ownsRow b2 53 2 v2 l.length (itemCells l)) (hl : l.length ≤ 100000) :
    Calls Try.prog 19 #[v1, v2] w fun e w' => e = .returned (.bool true) ∧ Below w.heap.size w w' := by
  obtain ⟨A1, c1, rfl⟩ := own_form h1
  obtain ⟨A2, c2, rfl⟩ := own_form h2
  have H1 := Lib.hid h1
  have H2 := Lib.hid h2
  obtain ⟨N, hN⟩ : ∃ N, l.length = N := ⟨_, rfl⟩
  have HN := Lib.hid hN
  rw [hN] at H1 H2 hl ⊢
  clear h1 h2 hN
  go_enter Try.func19, Try.ntmps19
  go_wp2_with fail
  go_loopw [5] (fun iv wr => ∃ j : Nat, iv = .int .i64 j ∧ j ≤ N ∧ Below w.heap.size w wr) (fun iv _ => N - (intOf iv).toNat)
  case atStart => exact ⟨0, rfl, by omega, Below.refl _ _⟩
  case round =>
    obtain ⟨j, rfl, hj, hb⟩ := hrel
    have HB := Lib.hid hb
    clear hb
    by_cases hlt : j < N
    · obtain ⟨⟨k, n⟩, hx⟩ : ∃ x, l[j]? = some x := ⟨_, List.getElem?_eq_getElem (by rw [HN.out]; exact hlt)⟩
      obtain ⟨g1, rfl⟩ : ∃ g, A1 = some ⟨g, 0, none⟩ := by
        rcases H1.out.2 with ⟨q, q2⟩ | ⟨g, cap, cur, q, _⟩
        · omega
        · injection q with q
          exact ⟨g, q⟩
      obtain ⟨g2, rfl⟩ : ∃ g, A2 = some ⟨g, 0, none⟩ := by
        rcases H2.out.2 with ⟨q, q2⟩ | ⟨g, cap, cur, q, _⟩
        · omega
        · injection q with q
          exact ⟨g, q⟩
      obtain ⟨K, hK⟩ : ∃ K : ByteArray, (⟨k.toArray⟩ : ByteArray) = K := ⟨_, rfl⟩
      have d0 := (World.ownsRow.cellAt H1.out (j * 2) (by omega)).trans (encIt_get KR.enc l j _ hx).1
      have d1 := (World.ownsRow.cellAt H1.out (j * 2 + 1) (by omega)).trans (encIt_get KR.enc l j _ hx).2
      have e0 := (World.ownsRow.cellAt H2.out (j * 2) (by omega)).trans (encIt_get KR.enc l j _ hx).1
      have e1 := (World.ownsRow.cellAt H2.out (j * 2 + 1) (by omega)).trans (encIt_get KR.enc l j _ hx).2
      dsimp only at d0 e0
      rw [hK] at d0 e0
      replace d0 := (HB.out.cell (p := ⟨g1, j * 2, none⟩) (World.block_lt_of_cell? w _ d0)).trans d0
      replace e0 := (HB.out.cell (p := ⟨g2, j * 2, none⟩) (World.block_lt_of_cell? w _ e0)).trans e0
      replace d1 : wr.cell? ⟨g1, j * 2 + 1, none⟩ = some (.int .i64 n) := (HB.out.cell (p := ⟨g1, j * 2 + 1, none⟩) (World.block_lt_of_cell? w _ d1)).trans d1
      replace e1 : wr.cell? ⟨g2, j * 2 + 1, none⟩ = some (.int .i64 n) := (HB.out.cell (p := ⟨g2, j * 2 + 1, none⟩) (World.block_lt_of_cell? w _ e1)).trans e1
      have k0 : (K.toList == K.toList) = true := by simp
      have k1 : (n == n) = true := by simp
      clear hx hK
      have hne : ∀ X : World, (binOp .neq 53 (.agg #[.string K, .int .i64 n]) (.agg #[.string K, .int .i64 n])).run Try.prog X = .ok (.bool false) X := by intro X; go_simp
      go_wp2_with fail
      go_quiet (fail)
      go_wp2
      go_roundw
      case rel => exact ⟨j + 1, by go_num, by omega, HB.out.trans (bdN _ _ _)⟩
      case measure => simp only [intOf]; omega
    · obtain rfl : j = N := by omega
      go_wp2
      go_ret
      exact ⟨rfl, HB.out⟩

end Go.Proofs.Ytekbaajhdilbdaa
