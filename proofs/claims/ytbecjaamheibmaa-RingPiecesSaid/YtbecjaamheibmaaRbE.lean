/-
  append of bytes, as the walks of layer 19 meet it. Conditions: as typed.
-/
import Derived.Test.YtbecjaamheibmaaRbC
namespace Go.Proofs.Ytbecjaamheibmaa
open Go.RowKit

/-- append of some bytes behind a row of no bytes. -/
theorem wpList_append_emp {w : World} {ops : Array Oper} {rest : List Oper} {o : Oper} {a : Act} {Q : Exit → Act → World → Prop} (hgd : o.guard = none) (s x : Operand)
    (ho : o.op = .call { callee := .builtin .append, args := #[s, x], argTypes := #[33, 33] })
    (base g : Nat) (hE : EmpAt w base g) (hs : a.eval s = .slice (some ⟨g, 0, none⟩) 0 0) (A : Option Addr) (n c : Nat) (l : Tx) (hx : a.eval x = .slice A n c) (hb : ByAt w A n c l) (hn : n ≤ 140737488355328)
    (h : ∀ A' c' w', Hid (w'.ownsRow base 5 1 (.slice A' n c') n (l.map byV)) → Below base w w' → wpList Try.prog ops Q rest (a.put o.dst (.slice A' n c')) w') : wpList Try.prog ops Q (o :: rest) a w := by
  refine wpList_plain hgd fun K hK => ?_
  obtain ⟨A', c', w', hrun, h2, h3⟩ := run_append_emp o.type hE hb hn
  unfold Oper.wp execOp
  simp only [ho, resolve, invoke, builtin, Sem.run_bind, Sem.run_pure, Result.andThen_ok, List.map_toArray, List.map_cons, List.map_nil, hs, hx, hrun]
  exact hK _ _ (h A' c' w' h2 h3)

theorem run_append_by {w : World} {base n c n2 c2 N : Nat} {A A2 : Option Addr} {l l2 : Tx} (ty : TypeId) (hown : w.ownsRow base 5 1 (.slice A n c) n (l.map byV)) (hbase : base ≤ w.heap.size) (hb : ByAt w A2 n2 c2 l2) (hN : n + n2 = N) (hn : N ≤ 140737488355328) :
    ∃ A' c' w', (Builtin.append_ #[33, 33] ty #[.slice A n c, .slice A2 n2 c2]).run Try.prog w = .ok (.slice A' N c') w' ∧ w'.ownsRow base 5 1 (.slice A' N c') N ((l ++ l2).map byV) ∧ Below base w w' := by
  obtain ⟨i0, hi, hy⟩ := Option.map_eq_some_iff.1 info_by
  simp only [Prod.mk.injEq] at hy
  obtain ⟨hy0, hy1, hy2⟩ := hy
  obtain ⟨v', w', h1, h2, h3, _, _⟩ := run_append_sl (P := Try.prog) base 33 ty 5 i0 (.int .u8 0) 1 Try.underlying33 hi hy0 hy1 hy2 rfl (.slice A n c) n (l.map byV) hown A2 n2 c2 (l2.map byV) hb (by_one l2) (by omega) (by omega) hbase
  rw [hN] at h2
  obtain ⟨A', c', rfl⟩ := own_form1 h2
  rw [← List.map_append] at h2
  exact ⟨A', c', w', h1, h2, (Below.refl _ _).grown h3 hbase (fun k e => (hown.lt k e).1)⟩

/-- append of some bytes behind a row of the call's own. -/
theorem wpList_append_by {w : World} {ops : Array Oper} {rest : List Oper} {o : Oper} {a : Act} {Q : Exit → Act → World → Prop} (hgd : o.guard = none) (s x : Operand)
    (ho : o.op = .call { callee := .builtin .append, args := #[s, x], argTypes := #[33, 33] })
    (base : Nat) (A : Option Addr) (n c : Nat) (l : Tx) (hs : a.eval s = .slice A n c) (hown : w.ownsRow base 5 1 (.slice A n c) n (l.map byV)) (hbase : base ≤ w.heap.size) (A2 : Option Addr) (n2 c2 : Nat) (l2 : Tx) (hx : a.eval x = .slice A2 n2 c2) (hb : ByAt w A2 n2 c2 l2) (N : Nat) (hN : n + n2 = N) (hn : N ≤ 140737488355328)
    (h : ∀ A' c' w', Hid (w'.ownsRow base 5 1 (.slice A' N c') N ((l ++ l2).map byV)) → Below base w w' → wpList Try.prog ops Q rest (a.put o.dst (.slice A' N c')) w') : wpList Try.prog ops Q (o :: rest) a w := by
  refine wpList_plain hgd fun K hK => ?_
  obtain ⟨A', c', w', hrun, h2, h3⟩ := run_append_by o.type hown hbase hb hN hn
  unfold Oper.wp execOp
  simp only [ho, resolve, invoke, builtin, Sem.run_bind, Sem.run_pure, Result.andThen_ok, List.map_toArray, List.map_cons, List.map_nil, hs, hx, hrun]
  exact hK _ _ (h A' c' w' h2 h3)

end Go.Proofs.Ytbecjaamheibmaa
