/-
  Package skip: From of a list that stands, and what it tells in a range. Conditions: the list stands.
-/
import Derived.Test.YtcbiiioglklpoaaDoorSkU3
import Derived.Test.YtcbiiioglklpoaaDoorSkV3
import Derived.RangeFuncNested
import Derived.RangeFuncBound
import Derived.RangeFuncCalls
import Derived.RangeFuncLeaves
import Derived.RangeFuncFrom
import Derived.RangeFuncBox
import Derived.OwnWalkIn
import Derived.TacticsInMore
import Derived.LoopNIn
import Derived.LoopIn
namespace Go.Proofs.YtcbiiioglklpoaaDoor
open Go.RowKit

attribute [local go_sem] Oper.semAt_some

section
variable {w : World} {base seed s c h mb N : Nat} {ns : List Nd} {S : Nat → Nat → Value} {g : List UInt8 → Option Nat} {sz : Nat} {L : List Mb}

set_option maxRecDepth 100000 in
set_option maxHeartbeats 4000000 in
theorem from_mk2 (p : Option Addr) (rank : Int) (w : World) : Calls Tryd.prog 54 #[.pointer p, .int .i64 rank, .bool false] w fun e w' =>
    e = .returned (.func (.func 73) #[] #[.pointer (some ⟨w.heap.size, 0, none⟩), .pointer (some ⟨w.heap.size + 1, 0, none⟩), .pointer (some ⟨w.heap.size + 3, 0, none⟩), .pointer (some ⟨w.heap.size + 2, 0, none⟩)]) ∧
      (w'.cell? ⟨w.heap.size, 0, none⟩ = some (.pointer p) ∧ w'.cell? ⟨w.heap.size + 1, 0, none⟩ = some (.int .i64 rank) ∧ w'.cell? ⟨w.heap.size + 2, 0, none⟩ = some (.int .i64 1) ∧ w'.cell? ⟨w.heap.size + 3, 0, none⟩ = some (.func (.func 71) #[] #[])) ∧ Below w.heap.size w w' ∧ w'.heap.size = w.heap.size + 4 := by
  have hmf : ∀ (fn : Fn) (first cap : Array Value) (w : World), (Instr.makeFunc fn first cap).run Tryd.prog w = .ok (.func fn first cap) w := fun _ _ _ _ => rfl
  have hst : ∀ (a : Addr) (X : World), (store a (.func (.func 71) #[] #[])).run Tryd.prog X = stored Tryd.prog X a (.func (.func 71) #[] #[]) .plain := fun a X => run_store Tryd.prog X a _ _ rfl
  go_enter Tryd.func54, Tryd.ntmps54
  go_wp2
  go_ret
  exact ⟨rfl, ⟨by simp [go_sem], by simp [go_sem], by simp [go_sem], by simp [go_sem]⟩, ((((Below.refl _ _).alloc (Nat.le_refl _) _).alloc (by simp) _).alloc (by simp; omega) _).alloc (by simp; omega) _, by simp⟩

theorem nodeAt_ptr (ns : List Nd) (r : Int) : ∃ p, nodeAt ns r = .pointer p := by
  unfold nodeAt
  split
  · generalize (ns[r.toNat]?).map (·.1) = o
    cases o <;> exact ⟨_, rfl⟩
  · exact ⟨_, rfl⟩

/-- The node behind a node. -/
theorem from1_any {X : World} {lv : Mb → Nat} (ch : ChOn lv X h ns S) (hl : ∀ m, 0 < lv m) {i : Nat} {x : Nd} (hx : ns[i]? = some x) :
    Calls Tryd.prog 71 #[.pointer (some ⟨x.1, 0, none⟩)] X fun e w' => e = .returned (nodeAt ns ((i + 1 : Nat) : Int)) ∧ w' = X := by
  have hlt := (List.getElem?_eq_some_iff.1 hx).1
  have q5 : X.cell? ⟨x.1, 3, none⟩ = some (nodeAt ns ((i + 1 : Nat) : Int)) := by
    have hn : nodeAt ns ((i + 1 : Nat) : Int) = ptrV ((ns[i + 1]?).map (·.1)) := by unfold nodeAt; rw [if_pos (by omega)]; rfl
    rw [hn]
    have hlw := low_way (lv := lv) (ns := ns) (p := i + 1) hl
    have ho : OnLv lv ns 0 (i + 1) := Or.inr ⟨x, hx, hl _⟩
    rcases ch.step (BlkAt.succ hx) ho (by omega) with ⟨h1, h2, _⟩ | ⟨d, y, h1, _, _, _, h5, _⟩
    · have hnk : ¬ i + 1 < ns.length := fun e => by
        obtain ⟨y, _, hy⟩ := hlw.1 e
        rw [hy] at h1
        cases h1
      rw [List.getElem?_eq_none (by omega)]
      exact h2
    · have hk : i + 1 < ns.length := by
        refine Classical.byContradiction fun e => ?_
        rw [hlw.2 e] at h1
        cases h1
      obtain ⟨z, hz, hy⟩ := hlw.1 hk
      rw [hy] at h1
      simp only [Option.some.injEq, Prod.mk.injEq] at h1
      rw [hz]
      show X.cell? ⟨x.1, 3, none⟩ = some (.pointer (some ⟨z.1, 0, none⟩))
      rw [h1.2]
      exact h5
  obtain ⟨V, hV⟩ : ∃ V, nodeAt ns ((i + 1 : Nat) : Int) = V := ⟨_, rfl⟩
  obtain ⟨p, hp⟩ : ∃ p, V = .pointer p := by rw [← hV]; exact nodeAt_ptr _ _
  rw [hV] at q5 ⊢
  subst hp
  clear ch hV hx hlt
  go_enter Tryd.func71, Tryd.ntmps71
  go_wp2
  go_ret
  exact ⟨rfl, rfl⟩

end

end Go.Proofs.YtcbiiioglklpoaaDoor
