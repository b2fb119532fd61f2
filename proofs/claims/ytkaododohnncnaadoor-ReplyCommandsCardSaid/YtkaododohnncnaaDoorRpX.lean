/-
  The walks of package resp's textOf, of the function that Split defers, and of requests. Conditions: as typed.
-/
import Derived.Test.YtkaododohnncnaaDoorRpR
import Derived.RangeFuncNested
import Derived.RangeFuncBound
import Derived.RangeFuncCalls
import Derived.RangeFuncLeaves
import Derived.Recover
import Derived.OwnWalkIn
import Derived.TacticsInMore
import Derived.LoopNIn
import Derived.LoopIn
namespace Go.Proofs.YtkaododohnncnaaDoor
open Go.RowKit

/-- A deferred function that may recover, in the wide fence. -/
theorem deferred_wide {P : Program} {n : Nat} {f : FuncId} {fn : Func} {c : Code} {args : Array Value} {u : FrameMode} {w : World} {R : Ending → FrameMode → World → Prop}
    (hf : P.funcs[f]? = some fn) (hb : fn.body = some c)
    (h : ∀ (c₀ : Frame) (cs : List Frame), c₀.mode = u → c.wpS P (bodyPostS P fn c₀ cs R) { tmps := args ++ Array.replicate (fn.ntmps - args.size) undef, defers := [] } (c₀ :: cs) w) :
    CallsDIn Fence.wide n P f args u w R := by
  refine ⟨trivial, fun c₀ cs hu _ => ?_⟩
  obtain ⟨b, hbd⟩ : ∃ b : Frame, b = { (default : Frame) with fn := f, kind := .deferred } := ⟨_, rfl⟩
  have hent : Frame.enter P f args .deferred = b.at { tmps := args ++ Array.replicate (fn.ntmps - args.size) undef, defers := [] } [.code c] := by
    rw [hbd]
    simp [Frame.enter, Frame.at, hf, hb]
  obtain ⟨e, a', cs', w', hq, harr⟩ := h c₀ cs hu b [] (by rw [hbd]) (by rw [hbd]; rfl)
  rw [← hent] at harr
  have hk : b.kind = .deferred := by rw [hbd]
  have hn : b.fn = f := by rw [hbd]
  have hm : b.mode = .run := by rw [hbd]; rfl
  cases e with
  | outgrown =>
    obtain ⟨u', hR⟩ := hq
    exact ⟨.outgrown, u', w', b, hR, harr.resolve_left (by rw [hk]; simp), hk, hn, trivial⟩
  | normal =>
    obtain ⟨hd, u', hcs, v, hr, hR⟩ := hq
    rw [hcs] at harr
    exact ⟨.returned v, u', w', _, hR, comesIn_wide.2 (Steps.trans harr (.one step_end)), hk, hn, rfl, hd, fn, by show P.funcs[b.fn]? = _; rw [hn]; exact hf, hr⟩
  | ret =>
    obtain ⟨hd, u', hcs, v, hr, hR⟩ := hq
    rw [hcs] at harr
    obtain ⟨todo, hs⟩ := harr
    exact ⟨.returned v, u', w', _, hR, comesIn_wide.2 hs, hk, hn, rfl, hd, fn, by show P.funcs[b.fn]? = _; rw [hn]; exact hf, hr⟩
  | panic chain =>
    obtain ⟨hd, u', hcs, hR⟩ := hq
    rw [hcs] at harr
    obtain ⟨todo, hs⟩ := harr
    exact ⟨.panicked chain, u', w', _, hR, comesIn_wide.2 hs, hk, hn, rfl, hd, fn, by show P.funcs[b.fn]? = _; rw [hn]; exact hf⟩
  | exit id => exact hq.elim
  | goto l => exact hq.elim

theorem assert_nil (x : TypeId) (w : World) : (Instr.typeAssert .nilIface x 91 true).run Tryd.prog w = .ok (.tuple #[.string ⟨#[]⟩, .bool false]) w := by
  simp [Instr.typeAssert, go_sem]
theorem assert_fault (v : Value) (x : TypeId) (w : World) : (Instr.typeAssert (.iface 91 v) x 91 true).run Tryd.prog w = .ok (.tuple #[v, .bool true]) w := by
  simp [Instr.typeAssert, go_sem]

set_option maxRecDepth 100000 in
set_option maxHeartbeats 1000000 in
theorem ptextOf_nil (w : World) : Calls Tryd.prog 35 #[.nilIface] w fun e w' => e = .returned (.string ⟨#[]⟩) ∧ w = w' := by
  have hta := assert_nil
  go_enter Tryd.func35, Tryd.ntmps35
  go_wp2
  go_ret
  exact ⟨rfl, rfl⟩
set_option maxRecDepth 100000 in
set_option maxHeartbeats 1000000 in
theorem ptextOf_fault (f : List UInt8) (w : World) : Calls Tryd.prog 35 #[faultV f] w fun e w' => e = .returned (.string ⟨f.toArray⟩) ∧ w = w' := by
  unfold faultV
  have hta := assert_fault
  go_enter Tryd.func35, Tryd.ntmps35
  go_wp2
  go_ret
  exact ⟨rfl, rfl⟩

set_option maxRecDepth 100000 in
set_option maxHeartbeats 2000000 in
theorem pdeferred_ret (n T : Nat) (v0 : Value) (w : World) (hc : w.cell? ⟨T, 0, none⟩ = some v0) (hf : w.frozen? ⟨T, 0, none⟩ = false) :
    CallsDIn Fence.wide n Tryd.prog 34 #[.pointer (some ⟨T, 0, none⟩)] .returning w fun e u' w' => e = .returned (.tuple #[]) ∧ u' = .returning ∧ w' = w.setCell ⟨T, 0, none⟩ (.string ⟨#[]⟩) := by
  refine deferred_wide Tryd.func34 rfl fun c₀ cs hu => ?_
  apply wpS_region
  simp [wpOpsS, go_sem, recoverD, hu, Tryd.ntmps34]
  refine (ptextOf_nil w).mono ?_
  rintro e w' ⟨rfl, rfl⟩
  simp [go_sem, hc, hf, bodyPostS, results, Tryd.results34]
  rw [← hu]

set_option maxRecDepth 100000 in
set_option maxHeartbeats 2000000 in
theorem pdeferred_panic (n T : Nat) (v0 : Value) (f : List UInt8) (w : World) (hc : w.cell? ⟨T, 0, none⟩ = some v0) (hf : w.frozen? ⟨T, 0, none⟩ = false) :
    CallsDIn Fence.wide n Tryd.prog 34 #[.pointer (some ⟨T, 0, none⟩)] (.panicking [{ v := faultV f, recovered := false }]) w fun e u' w' => e = .returned (.tuple #[]) ∧ u' = .panicking [{ v := faultV f, recovered := true }] ∧ w' = w.setCell ⟨T, 0, none⟩ (.string ⟨f.toArray⟩) := by
  refine deferred_wide Tryd.func34 rfl fun c₀ cs hu => ?_
  apply wpS_region
  simp [wpOpsS, go_sem, recoverD, hu, Tryd.ntmps34]
  refine (ptextOf_fault f w).mono ?_
  rintro e w' ⟨rfl, rfl⟩
  simp [go_sem, hc, hf, bodyPostS, results, Tryd.results34]

set_option maxRecDepth 100000 in
set_option maxHeartbeats 1000000 in
theorem prequests_any (B : Nat) (w : World) : Calls Tryd.prog 36 #[.pointer (some ⟨B, 0, none⟩)] w fun e w' => e = .returned (.func (.func 50) #[] #[.pointer (some ⟨w.heap.size, 0, none⟩)]) ∧ w' = w.alloc (.cells #[.pointer (some ⟨B, 0, none⟩)] 93) := by
  have hmf : ∀ (fn : Fn) (first cap : Array Value) (w : World), (Instr.makeFunc fn first cap).run Tryd.prog w = .ok (.func fn first cap) w := fun _ _ _ _ => rfl
  go_enter Tryd.func36, Tryd.ntmps36
  go_wp2
  go_ret
  exact ⟨rfl, rfl⟩

end Go.Proofs.YtkaododohnncnaaDoor
