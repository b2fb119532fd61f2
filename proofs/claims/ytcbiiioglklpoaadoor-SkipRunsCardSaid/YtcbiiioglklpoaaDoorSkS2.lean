/-
  Slices of members: append of one behind a row of the call's own; a part of one. Conditions: as typed.
-/
import Derived.Test.YtcbiiioglklpoaaDoorSkV3
import Derived.Maps.AppendAt
import Derived.OwnWalk
import Derived.Laws.OwnMore
namespace Go.Proofs.YtcbiiioglklpoaaDoor
open Go.RowKit

/-- A slice of members, nil where it has no memory. -/
def SdAt (w : World) (A : Option Addr) (n c : Nat) (l : List Mb) : Prop := ScAt w A n c l ∧ (A = none → c = 0)

theorem SdAt.below {w w' : World} {A : Option Addr} {n c : Nat} {l : List Mb} (h : SdAt w A n c l) (hb : Below w.heap.size w w') : SdAt w' A n c l := ⟨h.1.below hb, h.2⟩
theorem SdAt.nil (w : World) : SdAt w none 0 0 [] := ⟨ScAt.nil w, fun _ => rfl⟩
theorem sd_of_own {w : World} {base n : Nat} {v : Value} {l : List Mb} (h : w.ownsRow base 47 2 v n (mcells l)) : ∃ A c, v = .slice A n c ∧ SdAt w A n c l := by
  obtain ⟨A, c, e, hs⟩ := sc_of_own h
  refine ⟨A, c, e, hs, fun ha => ?_⟩
  subst ha
  rcases h.2 with ⟨q1, q2⟩ | ⟨g, cap, cur, q, _⟩
  · rw [q1] at e
    injection e with _ _ e
    exact e.symm
  · rw [q] at e
    injection e with e
    cases e

/-- A slice's memory is newer than M. -/
def Frh (M : Nat) (A : Option Addr) : Prop := ∀ b o sp, A = some ⟨b, o, sp⟩ → M ≤ b
theorem Frh.mono {M M' : Nat} {A : Option Addr} (h : Frh M A) (hm : M' ≤ M) : Frh M' A := fun b o sp e => Nat.le_trans hm (h b o sp e)
theorem sd_of_own2 {w : World} {base n : Nat} {v : Value} {l : List Mb} (h : w.ownsRow base 47 2 v n (mcells l)) : ∃ A c, v = .slice A n c ∧ SdAt w A n c l ∧ Frh base A := by
  obtain ⟨A, c, e, hs⟩ := sd_of_own h
  refine ⟨A, c, e, hs, fun b o sp ha => ?_⟩
  subst ha
  refine own_lo h ?_
  rw [e]
  rfl

theorem mcells_one {l : List Mb} {u : Value} (h : u ∈ mcells l) : u.oneCell' = true := by
  unfold mcells at h
  obtain ⟨x, _, hx⟩ := List.mem_flatMap.1 h
  simp at hx
  rcases hx with rfl | rfl <;> rfl

theorem mcells_cell {w : World} {A : Option Addr} {n c : Nat} {l : List Mb} (h : ScAt w A n c l) {b o : Nat} (hA : A = some ⟨b, o, none⟩) {j : Nat} {u : Value} (hu : (mcells l)[j]? = some u) : w.cell? ((⟨b, o, none⟩ : Addr).add j) = some u := by
  have hj := (List.getElem?_eq_some_iff.1 hu).1
  rw [mcells_length] at hj
  have hl := h.len
  obtain ⟨b', o', e', _, hc⟩ := h.at_ (by omega)
  rw [hA] at e'
  injection e' with e'
  injection e' with e1 e2
  subst e1 e2
  have hx : l[j / 2]? = some l[j / 2] := List.getElem?_eq_getElem (by omega)
  obtain ⟨q0, q1⟩ := hc _ _ hx
  obtain ⟨m0, m1⟩ := mcells_at hx
  have ha : ∀ k, (⟨b, o, none⟩ : Addr).add k = ⟨b, o + k, none⟩ := fun k => by unfold Addr.add; split <;> simp_all
  rw [ha]
  rcases (by omega : j = j / 2 * 2 ∨ j = j / 2 * 2 + 1) with e | e
  · rw [← e] at m0 q0
    rw [m0] at hu
    rw [q0, hu]
  · have e2 : o + j / 2 * 2 + 1 = o + j := by omega
    rw [← e] at m1
    rw [e2] at q1
    rw [m1] at hu
    rw [q1, hu]

theorem run_append_sc {w : World} (base : Nat) (ty : TypeId) (v : Value) (n : Nat) (xs : List Mb) (hown : w.ownsRow base 47 2 v n (mcells xs)) (A : Option Addr) (m c : Nat) (news : List Mb) (hr : SdAt w A m c news)
    (h63 : n + m ≤ 2000000) (hbase : base ≤ w.heap.size) :
    ∃ v' w', (Builtin.append_ #[35, 35] ty #[v, .slice A m c]).run Tryd.prog w = .ok v' w' ∧ w'.ownsRow base 47 2 v' (n + m) (mcells (xs ++ news)) ∧ w.grownBy w' v.ownBlock ∧ (v'.ownBlock = v.ownBlock ∨ v'.ownBlock = some w.heap.size) := by
  obtain ⟨i, hi, hz⟩ := Option.map_eq_some_iff.1 info_scored
  simp only [Prod.mk.injEq] at hz
  obtain ⟨z1, z2, z3⟩ := hz
  rcases A with _ | ⟨b, o, sp⟩
  · have hc := hr.2 rfl
    have hm : m = 0 := by have := hr.1.le; omega
    subst hc hm
    have hn : news = [] := List.eq_nil_of_length_eq_zero hr.1.len
    subst hn
    exact ⟨v, w, run_append_owned_none (P := Tryd.prog) (w := w) base _ ty _ i 2 Tryd.underlying35 hi v n _ hown, by simpa using hown, World.grownBy.refl w _, Or.inl rfl⟩
  · have hcells : ∀ j u, (mcells news)[j]? = some u → w.cell? ((⟨b, o, sp⟩ : Addr).add j) = some u := fun j u hu => by
      have hm : 0 < m := by have := (List.getElem?_eq_some_iff.1 hu).1; rw [mcells_length] at this; have := hr.1.len; omega
      obtain ⟨b', o', e', _, _⟩ := hr.1.at_ hm
      rw [Option.some.inj e']
      exact mcells_cell hr.1 e' hu
    obtain ⟨v', w', h1, h2, h3, _, h5⟩ := run_append_own_at (P := Tryd.prog) w base 35 ty 47 i _ 2 24 Tryd.underlying35 hi z1 z2 z3 rfl (by omega) v n _ hown ⟨b, o, sp⟩ m c (mcells news) (by rw [mcells_length, hr.1.len]) hcells (fun u hu => mcells_one hu) (by unfold maxLen; omega) (by omega) hbase
    rw [← mcells_append] at h2
    exact ⟨v', w', h1, h2, h3, h5⟩

section
variable {w : World}
theorem wpList_append_sc {ops : Array Oper} {rest : List Oper} {o : Oper} {a : Act} {Q : Exit → Act → World → Prop} (hgd : o.guard = none) (s x : Operand)
    (ho : o.op = .call { callee := .builtin .append, args := #[s, x], argTypes := #[35, 35] })
    (base : Nat) (v : Value) (n : Nat) (xs : List Mb) (hs : a.eval s = v) (hown : w.ownsRow base 47 2 v n (mcells xs)) (A : Option Addr) (m c : Nat) (news : List Mb) (hx : a.eval x = .slice A m c) (hr : SdAt w A m c news)
    (h63 : n + m ≤ 2000000) (hbase : base ≤ w.heap.size)
    (h : ∀ v' w', w'.ownsRow base 47 2 v' (n + m) (mcells (xs ++ news)) → w.grownBy w' v.ownBlock → (v'.ownBlock = v.ownBlock ∨ v'.ownBlock = some w.heap.size) → wpList Tryd.prog ops Q rest (a.put o.dst v') w') :
    wpList Tryd.prog ops Q (o :: rest) a w := by
  obtain ⟨v', w', hrun, h2, h3, h4⟩ := run_append_sc base o.type v n xs hown A m c news hr h63 hbase
  refine wpList_plain hgd fun K hK => ?_
  unfold Oper.wp
  simp [execOp, ho, resolve, invoke, builtin, hs, hx, hrun, Result.andThen]
  exact hK _ _ (h v' w' h2 h3 h4)

theorem step_append_sc {ops : Array Oper} {o : Oper} {a : Act} {K : Act → World → Prop} {Q : Exit → Act → World → Prop} {E : Prop} (hgd : o.guard = none) (s x : Operand)
    (ho : o.op = .call { callee := .builtin .append, args := #[s, x], argTypes := #[35, 35] })
    (base : Nat) (v : Value) (n : Nat) (xs : List Mb) (hs : a.eval s = v) (hown : w.ownsRow base 47 2 v n (mcells xs)) (A : Option Addr) (m c : Nat) (news : List Mb) (hx : a.eval x = .slice A m c) (hr : SdAt w A m c news)
    (h63 : n + m ≤ 2000000) (hbase : base ≤ w.heap.size)
    (h : ∀ v' w', w'.ownsRow base 47 2 v' (n + m) (mcells (xs ++ news)) → w.grownBy w' v.ownBlock → (v'.ownBlock = v.ownBlock ∨ v'.ownBlock = some w.heap.size) → K (a.put o.dst v') w') :
    if Region.wanted o (yielded ops a.tmps) = true then Oper.wp Tryd.prog o a w K Q else E := by
  have hw : Region.wanted o (yielded ops a.tmps) = true := by simp [Region.wanted, hgd]
  rw [if_pos hw]
  obtain ⟨v', w', hrun, h2, h3, h4⟩ := run_append_sc base o.type v n xs hown A m c news hr h63 hbase
  unfold Oper.wp
  simp [execOp, ho, resolve, invoke, builtin, hs, hx, hrun, Result.andThen]
  exact h v' w' h2 h3 h4
end

/-- The first members of a slice. -/
theorem SdAt.first {w : World} {A : Option Addr} {n c : Nat} {l : List Mb} (h : SdAt w A n c l) {k : Nat} (hk : k ≤ n) : SdAt w A k c (l.take k) :=
  ⟨⟨by rw [List.length_take, h.1.len]; omega, by have := h.1.le; omega, h.1.max, fun hn => by
    obtain ⟨b, o, e, hb, hc⟩ := h.1.at_ (by omega)
    refine ⟨b, o, e, hb, fun j x hx => hc j x ?_⟩
    rw [List.getElem?_take] at hx
    split at hx
    · exact hx
    · cases hx⟩, h.2⟩
/-- The last members of a slice. -/
theorem SdAt.rest {w : World} {A : Option Addr} {n c : Nat} {l : List Mb} (h : SdAt w A n c l) {k : Nat} (hk : k ≤ n) : SdAt w (if c = k then A else A.map fun x => x.add (k * 2)) (n - k) (c - k) (l.drop k) :=
  ⟨⟨by rw [List.length_drop, h.1.len], by have := h.1.le; omega, by have := h.1.max; omega, fun hn => by
    have hle := h.1.le
    obtain ⟨b, o, e, hb, hc⟩ := h.1.at_ (by omega)
    refine ⟨b, o + k * 2, by rw [if_neg (by omega), e]; show some (Addr.add _ _) = _; unfold Addr.add; split <;> simp_all, hb, fun j x hx => ?_⟩
    rw [List.getElem?_drop] at hx
    obtain ⟨q0, q1⟩ := hc _ _ hx
    exact ⟨by rw [show o + k * 2 + j * 2 = o + (k + j) * 2 from by omega]; exact q0, by rw [show o + k * 2 + j * 2 = o + (k + j) * 2 from by omega]; exact q1⟩⟩, fun e => by
      have hA : c = k ∨ A = none := by
        by_cases q : c = k
        · exact Or.inl q
        · rw [if_neg q] at e
          cases A with
          | none => exact Or.inr rfl
          | some a => cases e
      rcases hA with q | q
      · omega
      · have := h.2 q
        omega⟩

end Go.Proofs.YtcbiiioglklpoaaDoor
