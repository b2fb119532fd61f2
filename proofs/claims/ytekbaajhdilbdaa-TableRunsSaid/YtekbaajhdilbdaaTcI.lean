/-
  items$1, the closure that lays a key and its value behind the rest.
-/
import Derived.Test.YtekbaajhdilbdaaTcN
import Derived.Test.YtekbaajhdilbdaaTcE
namespace Go.Proofs.Ytekbaajhdilbdaa
open Go.RowKit

set_option maxRecDepth 100000 in
set_option maxHeartbeats 8000000 in
theorem items1_any {w : World} {n0 B : Nat} {v : Value} {xs : List (List UInt8 × Int)} (K : ByteArray) (n : Int) (hbx : Boxed w B 42 v) (hrow : w.ownsRow n0 53 2 v xs.length (itemCells xs)) (hn0 : n0 ≤ w.heap.size) (hB : n0 ≤ B) (hl : xs.length ≤ 100000) :
    Calls Try.prog 52 #[.string K, .int .i64 n, .pointer (some ⟨B, 0, none⟩)] w fun e w' => e = .returned (.bool (decide (((xs.length + 1 : Nat) : Int) < 5000))) ∧ ∃ v', Boxed w' B 42 v' ∧ w'.ownsRow n0 53 2 v' (xs.length + 1) (itemCells (xs ++ [(K.data.toList, n)])) ∧ Below n0 w w' ∧ (∀ k, k < w.heap.size → k ≠ B → some k ≠ v.ownBlock → w'.heap[k]? = w.heap[k]?) ∧ (v'.ownBlock = v.ownBlock ∨ v'.ownBlock = some (w.heap.size + 1)) := by
  have c0 := hbx.cell
  obtain ⟨w1, hw1⟩ : ∃ w1, w.alloc (.cells #[.string K, .int .i64 n] 53) = w1 := ⟨_, rfl⟩
  have hq1 := heap_alloc_new w (.cells #[.string K, .int .i64 n] 53)
  have hs1 : w1.heap.size = w.heap.size + 1 := by rw [← hw1]; simp
  rw [hw1] at hq1
  have hrow1 : w1.ownsRow n0 53 2 v xs.length (itemCells xs) := by rw [← hw1]; exact hrow.alloc _
  have hbk : BktAt w1 (some ⟨w.heap.size, 0, none⟩) w.heap.size 0 1 [(K.data.toList, n)] := ⟨Nat.le_refl 1, by decide, fun _ => ⟨rfl, by omega⟩, fun i x hx => by
    cases i with
    | zero =>
      simp only [List.getElem?_cons_zero, Option.some.injEq] at hx
      subst hx
      exact ⟨by simp [World.cell?, hq1], by simp [World.cell?, hq1]⟩
    | succ i => simp at hx, fun e => by cases e⟩
  have HW1 := Lib.hid hw1
  have HROW1 := Lib.hid hrow1
  have HBK := Lib.hid hbk
  have HROW := Lib.hid hrow
  have HBX := Lib.hid hbx
  obtain ⟨Av, cv, rfl⟩ := own_form hrow
  have hs1' : n0 ≤ w1.heap.size := by omega
  clear hw1 hq1 hrow1 hbk hrow hbx
  go_enter Try.func52, Try.ntmps52
  go_wp2_with (first | rw [HW1.out] | (at_builtin; refine wpList_append_items rfl _ _ rfl n0 _ xs rfl HROW1.out (some ⟨w.heap.size, 0, none⟩) w.heap.size 0 1 [(K.data.toList, n)] rfl HBK.out ?c1 ?c2 ?_))
  try case c1 => simp; omega
  try case c2 => exact hs1'
  intro v' w' hown' hgr hor
  replace hown' : w'.ownsRow n0 53 2 v' (xs.length + 1) (itemCells (xs ++ [(K.data.toList, n)])) := hown'
  have hgr' : (w.alloc (.cells #[.string K, .int .i64 n] 53)).grownBy w' (Value.slice Av xs.length cv).ownBlock := by rw [HW1.out]; exact hgr
  obtain ⟨a1, a2, a3, a4, a5⟩ := Boxed.appended HBX.out (by decide) HROW.out hn0 hB hown' hgr'
  have hoth : ∀ k, k < w.heap.size → k ≠ B → some k ≠ (Value.slice Av xs.length cv).ownBlock → w'.heap[k]? = w.heap[k]? := fun k hk _ hne => by
    have h1 := hgr.block k (by omega) hne
    have h2 := ((Below.refl w.heap.size w).alloc (Nat.le_refl _) (.cells #[.string K, .int .i64 n] 53)).block k hk
    rw [HW1.out] at h2
    exact h1.trans h2
  obtain ⟨Av', cv', rfl⟩ := own_form hown'
  obtain ⟨m, hm⟩ : ∃ m, xs.length + 1 = m := ⟨_, rfl⟩
  rw [hm] at a2 a3 a4 a5 hown' hor ⊢
  have e1 := a1.cell
  have f1 := a1.frozen
  obtain ⟨wf, hwf⟩ : ∃ wf, w'.setCell ⟨B, 0, none⟩ (.slice Av' m cv') = wf := ⟨_, rfl⟩
  have hoth2 : ∀ k, k < w.heap.size → k ≠ B → some k ≠ (Value.slice Av xs.length cv).ownBlock → wf.heap[k]? = w.heap[k]? := fun k hk hkB hne => by
    rw [← hwf]
    exact (Below.heap_setCell _ _ _ _ (by show k ≠ B; exact hkB)).trans (hoth k hk hkB hne)
  rw [hwf] at a2 a3 a4 a5
  have e2 := a2.cell
  have HWF := Lib.hid hwf
  have HA2 := Lib.hid a2
  have HA3 := Lib.hid a3
  have HA5 := Lib.hid a5
  have HO2 := Lib.hid hoth2
  have HOR := Lib.hid hor
  clear hown' hgr hgr' a1 a2 a3 a4 a5 hoth hoth2 hwf hor
  have hmx := Lib.hid hm
  clear hm
  go_wp2_with fail
  rw [HWF.out, hmx.out]
  go_ret
  exact ⟨rfl, _, HA2.out, HA3.out, HA5.out, HO2.out, HOR.out⟩

end Go.Proofs.Ytekbaajhdilbdaa
