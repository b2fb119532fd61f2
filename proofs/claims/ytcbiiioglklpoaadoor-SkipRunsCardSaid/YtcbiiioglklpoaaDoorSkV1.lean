/-
  The statements' own few: the first hundred, each member cut. Conditions: the members lie in memory.
-/
import Derived.Test.YtcbiiioglklpoaaDoorSkE
import Derived.Maps.AppendAt
namespace Go.Proofs.YtcbiiioglklpoaaDoor
open Go.RowKit

theorem step_append_own {P : Program} {ops : Array Oper} {o : Oper} {a : Act} {w : World} {K : Act → World → Prop} {Q : Exit → Act → World → Prop} {E : Prop} (hgd : o.guard = none) (s x : Operand) (t : TypeId)
    (ho : o.op = .call { callee := .builtin .append, args := #[s, x], argTypes := #[t, t] })
    (base : Nat) (e : TypeId) (i : TypeInfo) (z : Value) (size bytes : Nat) (ht : P.underlying t = some (.slice e)) (hi : P.info? e = some i) (hz : i.zero = some z) (hsize : i.size = size) (hby : i.bytes = bytes) (hzs : z.cells.size = size) (hsz : 0 < size)
    (v : Value) (n : Nat) (xs : List Value) (hs : a.eval s = v) (hown : w.ownsRow base e size v n xs) (ad : Addr) (m c : Nat) (news : List Value) (hx : a.eval x = .slice (some ad) m c) (hl : news.length = m * size) (hnews : ∀ j u, news[j]? = some u → w.cell? (ad.add j) = some u) (h1 : ∀ u ∈ news, u.oneCell' = true)
    (h63 : n + m ≤ maxLen) (hbytes : (n + m) * bytes ≤ 140737488355328) (hbase : base ≤ w.heap.size)
    (h : ∀ v' w', w'.ownsRow base e size v' (n + m) (xs ++ news) → w.grownBy w' v.ownBlock → K (a.put o.dst v') w') :
    if Region.wanted o (yielded ops a.tmps) = true then Oper.wp P o a w K Q else E := by
  have hw : Region.wanted o (yielded ops a.tmps) = true := by simp [Region.wanted, hgd]
  rw [if_pos hw]
  obtain ⟨v', w', hrun, h2, h3, _, _⟩ := run_append_own_at (P := P) w base t o.type e i z size bytes ht hi hz hsize hby hzs hsz v n xs hown ad m c news hl hnews h1 h63 hbytes hbase
  unfold Oper.wp
  simp [execOp, ho, resolve, invoke, builtin, hs, hx, hrun, Result.andThen]
  exact h v' w' h2 h3

def mcells (l : List Mb) : List Value := l.flatMap fun x => [.string ⟨x.1.toArray⟩, .int .i64 x.2]
theorem mcells_length (l : List Mb) : (mcells l).length = l.length * 2 := by
  unfold mcells
  induction l with
  | nil => rfl
  | cons x l ih => rw [List.flatMap_cons, List.length_append, ih]; simp; omega
theorem mcells_append (l k : List Mb) : mcells (l ++ k) = mcells l ++ mcells k := by unfold mcells; rw [List.flatMap_append]
theorem mcells_at {l : List Mb} {j : Nat} {x : Mb} (h : l[j]? = some x) : (mcells l)[j * 2]? = some (.string ⟨x.1.toArray⟩) ∧ (mcells l)[j * 2 + 1]? = some (.int .i64 x.2) := by
  induction l generalizing j with
  | nil => simp at h
  | cons y l ih =>
    cases j with
    | zero => simp at h; subst h; exact ⟨rfl, rfl⟩
    | succ j =>
      simp at h
      obtain ⟨h1, h2⟩ := ih h
      have e1 : (j + 1) * 2 = j * 2 + 1 + 1 := by omega
      have e2 : (j + 1) * 2 + 1 = j * 2 + 1 + 1 + 1 := by omega
      rw [e1]
      exact ⟨h1, h2⟩

/-- A row of members of the call's own is a slice of members. -/
theorem sc_of_own {w : World} {base n : Nat} {v : Value} {l : List Mb} (h : w.ownsRow base 47 2 v n (mcells l)) : ∃ A c, v = .slice A n c ∧ ScAt w A n c l := by
  have hl : l.length = n := by have := h.1; rw [mcells_length] at this; omega
  rcases h.2 with ⟨rfl, rfl⟩ | ⟨g, cap, cur, rfl, hb, hg, hn, hm, hs, ht⟩
  · exact ⟨none, 0, rfl, by obtain rfl := List.eq_nil_of_length_eq_zero hl; exact ScAt.nil w⟩
  · refine ⟨_, _, rfl, hl, hn, by unfold maxLen at hm; exact hm, fun _ => ⟨g, 0, rfl, (Array.getElem?_eq_some_iff.1 hg).1, fun j x hx => ?_⟩⟩
    obtain ⟨h1, h2⟩ := mcells_at hx
    have key : ∀ k u, (mcells l)[k]? = some u → w.cell? ⟨g, k, none⟩ = some u := fun k u hu => by
      rw [← ht, List.getElem?_take] at hu
      split at hu
      · simp only [World.cell?, hg]
        simpa using hu
      · cases hu
    exact ⟨by rw [Nat.zero_add]; exact key _ _ h1, by rw [Nat.zero_add]; exact key _ _ h2⟩

def fewM (l : List Mb) : List Mb := (l.take 100).map fun x => ((cutK ⟨x.1.toArray⟩).data.toList, x.2)
theorem fewM_length (l : List Mb) : (fewM l).length = min 100 l.length := by unfold fewM; rw [List.length_map, List.length_take]
theorem fewM_size {l : List Mb} {x : Mb} (h : x ∈ fewM l) : x.1.length ≤ 100 := by
  unfold fewM at h
  obtain ⟨y, _, rfl⟩ := List.mem_map.1 h
  have := cutK_size ⟨y.1.toArray⟩
  show (cutK ⟨y.1.toArray⟩).data.toList.length ≤ 100
  rw [Array.length_toList]
  exact this
theorem fewM_step {l : List Mb} {k : Nat} {x : Mb} (h : l[k]? = some x) (hk : k < 100) : (fewM l).take (k + 1) = (fewM l).take k ++ [((cutK ⟨x.1.toArray⟩).data.toList, x.2)] := by
  unfold fewM
  rw [List.take_add_one, List.getElem?_map, List.getElem?_take, if_pos hk, h]
  rfl

end Go.Proofs.YtcbiiioglklpoaaDoor
