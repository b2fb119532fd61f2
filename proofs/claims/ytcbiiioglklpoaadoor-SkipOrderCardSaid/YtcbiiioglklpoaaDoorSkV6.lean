/-
  A range over a function whose rounds always go on and lay memory ahead of their body; All of a list that stands. Conditions: as typed.
-/
import Derived.Test.YtcbiiioglklpoaaDoorSkV5
import Derived.RangeFuncRecord
namespace Go.Proofs.YtcbiiioglklpoaaDoor
open Go.RowKit

attribute [local go_sem] Oper.semAt_some

theorem range_on2 {P : Program} {n : Nat} {g : Operand} {ps : Array Tmp} {assign body : Code} {Q : Exit → Act → World → Prop} {a : Act} {w : World} {gf : Nat} {lb : Array Value}
    (hg : a.eval g = .func (.func gf) #[] lb) (eg : ∀ args w, (callFunc gf args).run P w = .ok (.enter gf args) w)
    (h : ∀ (rec : LoopState → Loop) (W1 : World), (∀ st, (rec st).state = st ∧ (rec st).pending = none) → W1.heap.size = w.heap.size + 2 → Below w.heap.size w W1 →
      W1.heap[w.heap.size]? = some (.deferred (some [])) → W1.heap[w.heap.size + 1]? = some (.loop (rec .ready)) →
      (∀ (m : Nat) (args : Array Value) (W W' : World) (R : Ending → World → Prop) (a₁ : Act), args.size = ps.size → W.heap[w.heap.size + 1]? = some (.loop (rec .ready)) → W'.heap[w.heap.size + 1]? = some (.loop (rec .ready)) →
        (∀ K : Act → World → Prop, K a₁ W' → assign.wpIn (Fence.wide.inRound (w.heap.size + 1)) m P (Exit.then K (fun _ _ _ => False)) { tmps := (ps.zip args).foldl (fun t (p, v) => t.setIfInBounds p v) a.tmps, defers := [] } W) →
        body.wpIn (Fence.wide.inRound (w.heap.size + 1)) m P (fun e _ W3 => e = .normal ∧ W3.heap[w.heap.size + 1]? = some (.loop (rec .busy)) ∧ R (.returned (.bool true)) (W3.putObj (w.heap.size + 1) (.loop (rec .ready)))) a₁ (W'.putObj (w.heap.size + 1) (.loop (rec .busy))) →
        YieldAt Fence.wide m P (w.heap.size + 1) args W R) →
      CallsIn Fence.wide n P gf (#[.func (.yield (w.heap.size + 1)) #[] #[]] ++ lb) W1 fun e W2 =>
        (∃ v, e = .returned v ∧ W2.heap[w.heap.size + 1]? = some (.loop (rec .ready)) ∧ Q .normal { a with defers := { target := .collected w.heap.size, args := #[] } :: a.defers } (W2.putObj (w.heap.size + 1) (.loop (rec .exhausted))))) :
    (Code.rangeFunc g ps assign body).wp P Q a w := by
  refine (wpIn_wide (n := n + 1)).1 (wpIn_rangeFunc ?_)
  intro fn _
  obtain ⟨rec, hrec⟩ : ∃ rec : LoopState → Loop, rec = fun st => { state := st, pending := none, fn, tmps := a.tmps, params := ps, assign, body, defers := w.heap.size } := ⟨_, rfl⟩
  obtain ⟨W1, hW1⟩ : ∃ W1, (w.alloc (.deferred (some []))).alloc (.loop (rec .ready)) = W1 := ⟨_, rfl⟩
  have hL : W1.heap[w.heap.size + 1]? = some (.loop (rec .ready)) := by
    rw [← hW1]
    have := World.alloc_heap_new (w.alloc (.deferred (some []))) (.loop (rec .ready))
    rwa [World.size_alloc] at this
  have hD : W1.heap[w.heap.size]? = some (.deferred (some [])) := by
    rw [← hW1]
    exact (Below.heap_alloc _ _ _ (by simp)).trans (World.alloc_heap_new w _)
  have hb : Below w.heap.size w W1 := by
    rw [← hW1]
    exact ((Below.refl _ w).alloc (Nat.le_refl _) _).alloc (by simp) _
  have hz : W1.heap.size = w.heap.size + 2 := by rw [← hW1]; simp
  refine ⟨w.heap.size + 1, [{ target := .collected w.heap.size, args := #[] }], W1, { target := .fn (.func gf) lb, args := #[.func (.yield (w.heap.size + 1)) #[] #[]] }, W1, gf,
    #[.func (.yield (w.heap.size + 1)) #[] #[]] ++ lb, W1, ?_, ?_, fun _ _ => trivial, ?_, fun _ => by omega, ?_⟩
  · rw [← hW1, hrec]
    exact run_enterLoop_outer _ _ _ _ _
  · simp only [resolve, hg]
    simp [go_sem]
  · simp [invoke, go_sem, eg]
  · rw [Nat.add_sub_cancel]
    refine (h rec W1 (fun st => by rw [hrec]; exact ⟨rfl, rfl⟩) hz hb hD hL ?_).mono ?_
    · intro m args W W' R a₁ hs hl hl' hassign hbody
      have hy := run_yield (P := P) (args := args) hl (by rw [hrec]; exact hs)
      rw [hrec] at hy
      refine ⟨fn, _, assign, body, hy, roundIn_of_wpIn trivial (hassign _ ⟨_, run_beginRound hl' (by rw [hrec]), ?_⟩)⟩
      have e1 : ({ rec .ready with state := .busy } : Loop) = rec .busy := by rw [hrec]
      rw [e1]
      refine wpIn_mono hbody ?_
      rintro e a3 W3 ⟨rfl, hl3, hR⟩
      have he := run_endRound (P := P) none hl3
      have e2 : ({ rec .busy with state := .ready, pending := none } : Loop) = rec .ready := by rw [hrec]
      refine ⟨_, _, he, ?_⟩
      simp only [Option.isNone_none, if_true]
      rw [e2]
      exact hR
    · rintro e W2 ⟨v, rfl, hl2, hq⟩
      have he := run_endLoop (P := P) hl2 (by rw [hrec]; simp)
      have e3 : ({ rec .ready with state := .exhausted } : Loop) = rec .exhausted := by rw [hrec]
      rw [e3] at he
      exact ⟨none, _, by rw [hrec] at he ⊢; exact he, hq⟩

section
variable {P : Program} {F : Fence} {nF : Nat} {w : World}
theorem wpListIn_append_own2 {ops : Array Oper} {rest : List Oper} {o : Oper} {a : Act} {Q : Exit → Act → World → Prop} (hgd : o.guard = none) (s x : Operand) (t : TypeId)
    (ho : o.op = .call { callee := .builtin .append, args := #[s, x], argTypes := #[t, t] })
    (base : Nat) (e : TypeId) (i : TypeInfo) (z : Value) (size bytes : Nat) (ht : P.underlying t = some (.slice e)) (hi : P.info? e = some i) (hz : i.zero = some z) (hsize : i.size = size) (hby : i.bytes = bytes) (hzs : z.cells.size = size) (hsz : 0 < size)
    (v : Value) (n : Nat) (xs : List Value) (hs : a.eval s = v) (hown : w.ownsRow base e size v n xs) (ad : Addr) (m c : Nat) (news : List Value) (hx : a.eval x = .slice (some ad) m c) (hl : news.length = m * size) (hnews : ∀ j u, news[j]? = some u → w.cell? (ad.add j) = some u) (h1 : ∀ u ∈ news, u.oneCell' = true)
    (h63 : n + m ≤ maxLen) (hbytes : (n + m) * bytes ≤ 140737488355328) (hbase : base ≤ w.heap.size)
    (h : ∀ v' w', w'.ownsRow base e size v' (n + m) (xs ++ news) → w.grownBy w' v.ownBlock → (v'.ownBlock = v.ownBlock ∨ v'.ownBlock = some w.heap.size) → wpListIn F nF P ops Q rest (a.put o.dst v') w') :
    wpListIn F nF P ops Q (o :: rest) a w := by
  refine wpListIn_plain hgd fun K hK => ?_
  obtain ⟨v', w', hr, h2, h3, _, h5⟩ := run_append_own_at (P := P) w base t o.type e i z size bytes ht hi hz hsize hby hzs hsz v n xs hown ad m c news hl hnews h1 h63 hbytes hbase
  unfold Oper.wpIn
  refine ⟨by simp [Oper.about, ho, resolve, Target.leads, Sem.run_pure], ?_⟩
  rw [Oper.semAt_plain F _ _ (by rw [ho]; intro c hc'; cases hc')]
  simp [execOp, ho, resolve, invoke, builtin, hs, hx, hr, Result.andThen]
  exact hK _ _ (h v' w' h2 h3 h5)
end

theorem grown_trans {a b c : World} {r : Option Nat} (h : a.grownBy b r) (k : b.grownBy c r) : a.grownBy c r :=
  ⟨k.os.trans h.os, k.tape.trans h.tape, k.output.trans h.output, Nat.le_trans h.size k.size, fun j hj hne => (k.block j (Nat.lt_of_lt_of_le hj h.size) hne).trans (h.block j hj hne)⟩
theorem grown_of_below {a b : World} {r : Option Nat} (h : Below a.heap.size a b) : a.grownBy b r := ⟨h.os, h.tape, h.output, h.size, fun j hj _ => h.block j hj⟩

theorem own_block {w w' : World} {base : Nat} {e : TypeId} {size n : Nat} {v : Value} {xs : List Value} (h : w.ownsRow base e size v n xs) (hb : ∀ b, v.ownBlock = some b → w'.heap[b]? = w.heap[b]?) : w'.ownsRow base e size v n xs := by
  refine ⟨h.1, ?_⟩
  rcases h.2 with q | ⟨g, cap, cur, rfl, h1, h2, h3⟩
  · exact Or.inl q
  · exact Or.inr ⟨g, cap, cur, rfl, h1, (hb g rfl).trans h2, h3⟩

theorem make_scored0 {n : Nat} (hn : n ≤ 900000) (w : World) : (Instr.makeSlice 35 (.int .i64 0) (.int .i64 (n : Int))).run Tryd.prog w = .ok (.slice (some ⟨w.heap.size, 0, none⟩) 0 n) (w.alloc (.cells (madeCells #[.string ⟨#[]⟩, .int .i64 0] (n * 2)) 47)) := by
  obtain ⟨i, hi, hz⟩ := Option.map_eq_some_iff.1 info_scored
  simp only [Prod.mk.injEq] at hz
  obtain ⟨z1, z2, z3⟩ := hz
  have q := run_make (P := Tryd.prog) w 35 47 i (.agg #[.string ⟨#[]⟩, .int .i64 0]) Tryd.underlying35 hi z1 .i64 .i64 (0 : Int) (n : Int) (by omega) (by omega) (by rw [z3]; omega) (by omega)
  rw [z2, show (Value.agg #[.string ⟨#[]⟩, .int .i64 0]).cells = #[.string ⟨#[]⟩, .int .i64 0] from rfl] at q
  simpa using q

/-- How All's memory stands between two rounds. -/
def JA (w : World) (c : Nat) (L : List Mb) (r : Loop) (i : Nat) (X : World) : Prop :=
  (∃ v, Boxed X (w.heap.size + 1) 35 v ∧ X.ownsRow w.heap.size 47 2 v i (mcells (L.take i)) ∧ (∀ b, v.ownBlock = some b → b = w.heap.size ∨ w.heap.size + 8 < b)) ∧
  X.heap[w.heap.size + 6]? = some (.deferred (some [])) ∧ X.heap[w.heap.size + 7]? = some (.loop r) ∧ w.grownBy X (some c)

theorem JA.step {w X X' : World} {c i : Nat} {L : List Mb} {r : Loop} (h : JA w c L r i X) (hc : c < w.heap.size) (k : X.grownBy X' (some c)) : JA w c L r i X' := by
  obtain ⟨⟨v, h1, h2, h3⟩, h4, h5, h6⟩ := h
  refine ⟨⟨v, h1.kept k (fun e => by injection e with e; omega), own_block h2 (fun b hb => k.block b (h2.lt b hb).2 (fun e => by injection e with e; rcases h3 b hb with q | q <;> omega)), h3⟩, ?_, ?_, grown_trans h6 k⟩
  · exact (k.block _ (Array.getElem?_eq_some_iff.1 h4).1 (fun e => by injection e with e; omega)).trans h4
  · exact (k.block _ (Array.getElem?_eq_some_iff.1 h5).1 (fun e => by injection e with e; omega)).trans h5

end Go.Proofs.YtcbiiioglklpoaaDoor
