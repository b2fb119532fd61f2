/-
  A range over a function whose rounds always go on, and whose iterator keeps what it holds in memory and may panic: what the caller owes. No program, no condition.
-/
import Derived.Test.YtkaododohnncnaaDoorRet
import Derived.RangeFuncNested
import Derived.RangeFuncBound
import Derived.RangeFuncCalls
import Derived.RangeFuncLeaves
import Derived.RangeFuncRecord
namespace Go.Proofs.YtkaododohnncnaaDoor
open Go.RowKit

theorem range_on {P : Program} {n : Nat} {g : Operand} {ps : Array Tmp} {assign body : Code} {Q : Exit → Act → World → Prop} {a : Act} {w : World} {gf : Nat} {lb : Array Value}
    (hg : a.eval g = .func (.func gf) #[] lb) (eg : ∀ args w, (callFunc gf args).run P w = .ok (.enter gf args) w)
    (h : ∀ (rec : LoopState → Loop) (W1 : World), (∀ st, (rec st).state = st ∧ (rec st).pending = none) → W1.heap.size = w.heap.size + 2 → Below w.heap.size w W1 →
      W1.heap[w.heap.size]? = some (.deferred (some [])) → W1.heap[w.heap.size + 1]? = some (.loop (rec .ready)) →
      (∀ (m : Nat) (args : Array Value) (W : World) (R : Ending → World → Prop) (a₁ : Act), args.size = ps.size → W.heap[w.heap.size + 1]? = some (.loop (rec .ready)) →
        (∀ K : Act → World → Prop, K a₁ W → assign.wpIn (Fence.wide.inRound (w.heap.size + 1)) m P (Exit.then K (fun _ _ _ => False)) { tmps := (ps.zip args).foldl (fun t (p, v) => t.setIfInBounds p v) a.tmps, defers := [] } W) →
        body.wpIn (Fence.wide.inRound (w.heap.size + 1)) m P (fun e _ W3 => e = .normal ∧ W3.heap[w.heap.size + 1]? = some (.loop (rec .busy)) ∧ R (.returned (.bool true)) (W3.putObj (w.heap.size + 1) (.loop (rec .ready)))) a₁ (W.putObj (w.heap.size + 1) (.loop (rec .busy))) →
        YieldAt Fence.wide m P (w.heap.size + 1) args W R) →
      CallsIn Fence.wide n P gf (#[.func (.yield (w.heap.size + 1)) #[] #[]] ++ lb) W1 fun e W2 =>
        (∃ v, e = .returned v ∧ W2.heap[w.heap.size + 1]? = some (.loop (rec .ready)) ∧ Q .normal { a with defers := { target := .collected w.heap.size, args := #[] } :: a.defers } (W2.putObj (w.heap.size + 1) (.loop (rec .exhausted)))) ∨
        (∃ chain, e = .panicked chain ∧ Q (.panic chain) { a with defers := { target := .collected w.heap.size, args := #[] } :: a.defers } W2)) :
    (Code.rangeFunc g ps assign body).wp P Q a w := by
  refine (wpIn_wide (n := n + 1)).1 (wpIn_rangeFunc ?_)
  intro fn _
  obtain ⟨rec, hrec⟩ : ∃ rec : LoopState → Loop, rec = fun st => { state := st, pending := none, fn, tmps := a.tmps, params := ps, assign, body, defers := w.heap.size } := ⟨_, rfl⟩
  obtain ⟨W1, hW1⟩ : ∃ W1, (w.alloc (.deferred (some []))).alloc (.loop (rec .ready)) = W1 := ⟨_, rfl⟩
  have hL : W1.heap[w.heap.size + 1]? = some (.loop (rec .ready)) := by
    rw [← hW1]
    have := World.alloc_heap_new (w.alloc (.deferred (some []))) (.loop (rec .ready))
    rwa [World.size_alloc] at this
  have hD : W1.heap[w.heap.size]? = some (.deferred (some [])) := by
    rw [← hW1]
    exact (Below.heap_alloc _ _ _ (by simp)).trans (World.alloc_heap_new w _)
  have hb : Below w.heap.size w W1 := by
    rw [← hW1]
    exact ((Below.refl _ w).alloc (Nat.le_refl _) _).alloc (by simp) _
  have hz : W1.heap.size = w.heap.size + 2 := by rw [← hW1]; simp
  refine ⟨w.heap.size + 1, [{ target := .collected w.heap.size, args := #[] }], W1, { target := .fn (.func gf) lb, args := #[.func (.yield (w.heap.size + 1)) #[] #[]] }, W1, gf,
    #[.func (.yield (w.heap.size + 1)) #[] #[]] ++ lb, W1, ?_, ?_, fun _ _ => trivial, ?_, fun _ => by omega, ?_⟩
  · rw [← hW1, hrec]
    exact run_enterLoop_outer _ _ _ _ _
  · simp only [resolve, hg]
    simp [go_sem]
  · simp [invoke, go_sem, eg]
  · rw [Nat.add_sub_cancel]
    refine (h rec W1 (fun st => by rw [hrec]; exact ⟨rfl, rfl⟩) hz hb hD hL ?_).mono ?_
    · intro m args W R a₁ hs hl hassign hbody
      have hlt : w.heap.size + 1 < W.heap.size := (Array.getElem?_eq_some_iff.1 hl).1
      have hy := run_yield (P := P) (args := args) hl (by rw [hrec]; exact hs)
      rw [hrec] at hy
      refine ⟨fn, _, assign, body, hy, roundIn_of_wpIn trivial (hassign _ ⟨_, run_beginRound hl (by rw [hrec]), ?_⟩)⟩
      have e1 : ({ rec .ready with state := .busy } : Loop) = rec .busy := by rw [hrec]
      rw [e1]
      refine wpIn_mono hbody ?_
      rintro e a3 W3 ⟨rfl, hl3, hR⟩
      have he := run_endRound (P := P) none hl3
      have e2 : ({ rec .busy with state := .ready, pending := none } : Loop) = rec .ready := by rw [hrec]
      refine ⟨_, _, he, ?_⟩
      simp only [Option.isNone_none, if_true]
      rw [e2]
      exact hR
    · rintro e W2 (⟨v, rfl, hl2, hq⟩ | ⟨chain, rfl, hq⟩)
      · have he := run_endLoop (P := P) hl2 (by rw [hrec]; simp)
        have e3 : ({ rec .ready with state := .exhausted } : Loop) = rec .exhausted := by rw [hrec]
        rw [e3] at he
        refine ⟨none, _, by rw [hrec] at he ⊢; exact he, hq⟩
      · exact hq

end Go.Proofs.YtkaododohnncnaaDoor
