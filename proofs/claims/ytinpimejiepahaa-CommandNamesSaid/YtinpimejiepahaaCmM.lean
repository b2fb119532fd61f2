/-
  Rows of commands in memory, seven cells an item: read, cut, added to. Conditions: as typed.
-/
import Derived.Test.YtinpimejiepahaaMbM
import Derived.Test.YtinpimejiepahaaCmA
namespace Go.Proofs.Ytinpimejiepahaa
open Go.RowKit

/-- A command's cells. -/
def encS (x : Sp) : List Value := [.string ⟨x.1.toArray⟩, .int .i64 x.2.1, .int .i64 x.2.2.1, .bool x.2.2.2.1, .int .i64 x.2.2.2.2.1, .int .i64 x.2.2.2.2.2.1, .int .i64 x.2.2.2.2.2.2]
def aggS (x : Sp) : Value := .agg (encS x).toArray
def scells (l : List Sp) : List Value := l.flatMap encS

theorem scells_append (a b : List Sp) : scells (a ++ b) = scells a ++ scells b := List.flatMap_append
theorem scells_cons (a : Sp) (b : List Sp) : scells (a :: b) = encS a ++ scells b := List.flatMap_cons
theorem scells_length : ∀ l : List Sp, (scells l).length = l.length * 7
  | [] => rfl
  | a :: l => by
    rw [scells_cons, List.length_append, scells_length l, List.length_cons]
    show 7 + _ = _
    omega
theorem scells_at : ∀ {l : List Sp} {j : Nat} {x : Sp}, l[j]? = some x → ∀ {i : Nat} {v : Value}, (encS x)[i]? = some v → (scells l)[j * 7 + i]? = some v
  | [], j, x, h, i, v, _ => by simp at h
  | a :: l, 0, x, h, i, v, hv => by
    simp at h
    subst h
    rw [scells_cons, List.getElem?_append_left (by have := (List.getElem?_eq_some_iff.1 hv).1; omega), Nat.zero_mul, Nat.zero_add]
    exact hv
  | a :: l, j + 1, x, h, i, v, hv => by
    rw [List.getElem?_cons_succ] at h
    have q := scells_at h hv
    rw [scells_cons, List.getElem?_append_right (by show 7 ≤ _; omega)]
    rw [← q]
    congr 1
    show (j + 1) * 7 + i - 7 = _
    omega
theorem encS_one {x : Sp} {u : Value} (h : u ∈ encS x) : u.oneCell' = true := by
  simp only [encS, List.mem_cons, List.not_mem_nil, or_false] at h
  rcases h with rfl | rfl | rfl | rfl | rfl | rfl | rfl <;> rfl
theorem scells_one {l : List Sp} {u : Value} (h : u ∈ scells l) : u.oneCell' = true := by
  obtain ⟨x, _, hx⟩ := List.mem_flatMap.1 h
  exact encS_one hx
theorem encS_len (x : Sp) : (encS x).length = 7 := rfl

/-- A slice that reads as commands. -/
structure SpAt (w : World) (A : Option Addr) (n c : Nat) (l : List Sp) : Prop where
  len : l.length = n
  le : n ≤ c
  max : c ≤ 9223372036854775807
  bare : A = none → c = 0
  at_ : 0 < n → ∃ b o, A = some ⟨b, o, none⟩ ∧ b < w.heap.size ∧ ∀ j x, l[j]? = some x → ∀ i v, (encS x)[i]? = some v → w.cell? ⟨b, o + j * 7 + i, none⟩ = some v

section
variable {w w' : World} {A : Option Addr} {n c : Nat} {l : List Sp}

theorem SpAt.keep (h : SpAt w A n c l) (hs : w.heap.size ≤ w'.heap.size) (hk : ∀ b o, 0 < n → A = some ⟨b, o, none⟩ → w'.heap[b]? = w.heap[b]?) : SpAt w' A n c l :=
  ⟨h.len, h.le, h.max, h.bare, fun hn => by
    obtain ⟨b, o, e, hb, hc⟩ := h.at_ hn
    exact ⟨b, o, e, Nat.lt_of_lt_of_le hb hs, fun j x hx i v hv => (World.cell?_of_block (a := ⟨b, o + j * 7 + i, none⟩) (hk b o hn e)).trans (hc j x hx i v hv)⟩⟩
theorem SpAt.below (h : SpAt w A n c l) (hb : Below w.heap.size w w') : SpAt w' A n c l :=
  h.keep hb.size (fun b o hn e => by
    obtain ⟨b', o', e', hb', _⟩ := h.at_ hn
    rw [e] at e'
    injection e' with e'
    injection e' with e1 e2
    exact hb.block b (by omega))
theorem SpAt.nil (w : World) : SpAt w none 0 0 [] := ⟨rfl, Nat.le_refl _, by omega, fun _ => rfl, fun h => absurd h (Nat.lt_irrefl 0)⟩
theorem SpAt.get (h : SpAt w A n c l) {j : Nat} (hj : j < n) : ∃ x, l[j]? = some x := ⟨_, List.getElem?_eq_getElem (by rw [h.len]; exact hj)⟩
theorem SpAt.first (h : SpAt w A n c l) {k : Nat} (hk : k ≤ n) : SpAt w A k c (l.take k) :=
  ⟨by rw [List.length_take, h.len]; omega, by have := h.le; omega, h.max, h.bare, fun hn => by
    obtain ⟨b, o, e, hb, hc⟩ := h.at_ (by omega)
    refine ⟨b, o, e, hb, fun j x hx => hc j x ?_⟩
    rw [List.getElem?_take] at hx
    split at hx
    · exact hx
    · cases hx⟩
theorem SpAt.rest (h : SpAt w A n c l) {k : Nat} (hk : k ≤ n) : SpAt w (if c = k then A else A.map fun x => x.add (k * 7)) (n - k) (c - k) (l.drop k) := by
  have hle := h.le
  have hmx := h.max
  refine ⟨by rw [List.length_drop, h.len], by omega, by omega, fun e => ?_, fun hn => ?_⟩
  · split at e
    · omega
    · have : A = none := by cases A with
        | none => rfl
        | some a => cases e
      have := h.bare this
      omega
  · obtain ⟨b, o, rfl, hb, hc⟩ := h.at_ (by omega)
    rw [if_neg (by omega)]
    refine ⟨b, o + k * 7, ?_, hb, fun j x hx i v hv => ?_⟩
    · simp only [Option.map_some, Option.some.injEq]
      unfold Addr.add
      split
      · rename_i h0
        rw [h0, Nat.add_zero]
      · rfl
    · rw [List.getElem?_drop] at hx
      have q := hc _ _ hx i v hv
      rw [show o + k * 7 + j * 7 + i = o + (k + j) * 7 + i from by omega]
      exact q

/-- An item's seven cells, as a walk asks for them. -/
theorem SpAt.seven {b o j : Nat} {x : Sp} (hc : ∀ j x, l[j]? = some x → ∀ i v, (encS x)[i]? = some v → w.cell? ⟨b, o + j * 7 + i, none⟩ = some v) (hx : l[j]? = some x) :
    w.cell? ⟨b, o + j * 7, none⟩ = some (.string ⟨x.1.toArray⟩) ∧ w.cell? ⟨b, o + j * 7 + 1, none⟩ = some (.int .i64 x.2.1) ∧ w.cell? ⟨b, o + j * 7 + 2, none⟩ = some (.int .i64 x.2.2.1) ∧ w.cell? ⟨b, o + j * 7 + 3, none⟩ = some (.bool x.2.2.2.1) ∧ w.cell? ⟨b, o + j * 7 + 4, none⟩ = some (.int .i64 x.2.2.2.2.1) ∧ w.cell? ⟨b, o + j * 7 + 5, none⟩ = some (.int .i64 x.2.2.2.2.2.1) ∧ w.cell? ⟨b, o + j * 7 + 6, none⟩ = some (.int .i64 x.2.2.2.2.2.2) :=
  ⟨hc j x hx 0 _ rfl, hc j x hx 1 _ rfl, hc j x hx 2 _ rfl, hc j x hx 3 _ rfl, hc j x hx 4 _ rfl, hc j x hx 5 _ rfl, hc j x hx 6 _ rfl⟩

theorem SpAt.own {base : Nat} {e : TypeId} (h : w.ownsRow base e 7 (.slice A n c) n (scells l)) : SpAt w A n c l := by
  obtain ⟨h1, h2⟩ := h
  rw [scells_length] at h1
  have hn : l.length = n := by omega
  rcases h2 with ⟨q, q2⟩ | ⟨g, cap, cur, q, _, q3, q4, q5, q6, q7⟩
  · injection q with q q3 q4
    subst q q3 q4
    exact ⟨hn, Nat.le_refl _, by omega, fun _ => rfl, fun h => absurd h (Nat.lt_irrefl 0)⟩
  · injection q with q q8 q9
    subst q q9
    refine ⟨hn, q4, by simpa [maxLen] using q5, (fun e => by cases e), fun hn => ⟨g, 0, rfl, (Array.getElem?_eq_some_iff.1 q3).1, fun j x hx i v hv => ?_⟩⟩
    have q := scells_at hx hv
    rw [← q7, List.getElem?_take] at q
    rw [Nat.zero_add]
    split at q
    · simp [World.cell?, q3]
      simpa using q
    · cases q

theorem sp_of_own {base : Nat} {e : TypeId} {v : Value} (h : w.ownsRow base e 7 v n (scells l)) : ∃ A c, v = .slice A n c ∧ SpAt w A n c l ∧ Frh base A := by
  obtain ⟨A, c, rfl⟩ := own_slice h
  exact ⟨A, c, rfl, SpAt.own h, fun b o sp e => own_lo h (by rw [e]; rfl)⟩

theorem scells_cell (h : SpAt w A n c l) {b o : Nat} (hA : A = some ⟨b, o, none⟩) {j : Nat} {u : Value} (hu : (scells l)[j]? = some u) : w.cell? ((⟨b, o, none⟩ : Addr).add j) = some u := by
  have hj := (List.getElem?_eq_some_iff.1 hu).1
  rw [scells_length] at hj
  have hl := h.len
  obtain ⟨b', o', e', _, hc⟩ := h.at_ (by omega)
  rw [hA] at e'
  injection e' with e'
  injection e' with e1 e2
  subst e1 e2
  have hx : l[j / 7]? = some l[j / 7] := List.getElem?_eq_getElem (by omega)
  have hi : j % 7 < (encS l[j / 7]).length := by rw [encS_len]; omega
  have hv : (encS l[j / 7])[j % 7]? = some (encS l[j / 7])[j % 7] := List.getElem?_eq_getElem hi
  have q := hc _ _ hx _ _ hv
  have q2 := scells_at hx hv
  have e7 : j / 7 * 7 + j % 7 = j := by omega
  rw [e7, hu] at q2
  injection q2 with q2
  have ha : (⟨b, o, none⟩ : Addr).add j = ⟨b, o + j, none⟩ := by unfold Addr.add; split <;> simp_all
  rw [ha, q2, ← q]
  congr 2
  omega

theorem info_spec : (Try.prog.info? 27).map (fun i => (i.zero, i.size, i.bytes)) = some (some (.agg #[.string ⟨#[]⟩, .int .i64 0, .int .i64 0, .bool false, .int .i64 0, .int .i64 0, .int .i64 0]), 7, 64) := by kernel_rfl

/-- A value owns a row of commands. -/
def SpO (w : World) (base : Nat) (v : Value) (n : Nat) (l : List Sp) : Prop := w.ownsRow base 27 7 v n (scells l)

theorem run_append_sp (base : Nat) (ty : TypeId) (v : Value) (n : Nat) (xs : List Sp) (hown : w.ownsRow base 27 7 v n (scells xs)) (A : Option Addr) (m c : Nat) (news : List Sp) (hr : SpAt w A m c news)
    (h63 : n + m ≤ 1000000) (hbase : base ≤ w.heap.size) :
    ∃ v' w', (Builtin.append_ #[23, 23] ty #[v, .slice A m c]).run Try.prog w = .ok v' w' ∧ w'.ownsRow base 27 7 v' (n + m) (scells (xs ++ news)) ∧ w.grownBy w' v.ownBlock ∧ (v'.ownBlock = v.ownBlock ∨ v'.ownBlock = some w.heap.size) := by
  obtain ⟨i, hi, hz⟩ := Option.map_eq_some_iff.1 info_spec
  simp only [Prod.mk.injEq] at hz
  obtain ⟨z1, z2, z3⟩ := hz
  rcases A with _ | ⟨b, o, sp⟩
  · have hc := hr.bare rfl
    have hm : m = 0 := by have := hr.le; omega
    subst hc hm
    have hn : news = [] := List.eq_nil_of_length_eq_zero hr.len
    subst hn
    exact ⟨v, w, run_append_owned_none (P := Try.prog) (w := w) base _ ty _ i 7 Try.underlying23 hi v n _ hown, by simpa using hown, World.grownBy.refl w _, Or.inl rfl⟩
  · have hcells : ∀ j u, (scells news)[j]? = some u → w.cell? ((⟨b, o, sp⟩ : Addr).add j) = some u := fun j u hu => by
      have hm : 0 < m := by have := (List.getElem?_eq_some_iff.1 hu).1; rw [scells_length] at this; have := hr.len; omega
      obtain ⟨b', o', e', _, _⟩ := hr.at_ hm
      rw [Option.some.inj e']
      exact scells_cell hr e' hu
    obtain ⟨v', w', h1, h2, h3, _, h5⟩ := run_append_own_at (P := Try.prog) w base 23 ty 27 i _ 7 64 Try.underlying23 hi z1 z2 z3 rfl (by omega) v n _ hown ⟨b, o, sp⟩ m c (scells news) (by rw [scells_length, hr.len]) hcells (fun u hu => scells_one hu) (by unfold maxLen; omega) (by omega) hbase
    rw [← scells_append] at h2
    exact ⟨v', w', h1, h2, h3, h5⟩
end

section
variable {w : World}
theorem wpList_append_sp {ops : Array Oper} {rest : List Oper} {o : Oper} {a : Act} {Q : Exit → Act → World → Prop} (hgd : o.guard = none) (s x : Operand)
    (ho : o.op = .call { callee := .builtin .append, args := #[s, x], argTypes := #[23, 23] })
    (base : Nat) (v : Value) (n : Nat) (xs : List Sp) (hs : a.eval s = v) (hown : w.ownsRow base 27 7 v n (scells xs)) (A : Option Addr) (m c : Nat) (news : List Sp) (hx : a.eval x = .slice A m c) (hr : SpAt w A m c news)
    (h63 : n + m ≤ 1000000) (hbase : base ≤ w.heap.size)
    (h : ∀ v' w', SpO w' base v' (n + m) (xs ++ news) → w.grownBy w' v.ownBlock → (v'.ownBlock = v.ownBlock ∨ v'.ownBlock = some w.heap.size) → wpList Try.prog ops Q rest (a.put o.dst v') w') :
    wpList Try.prog ops Q (o :: rest) a w := by
  obtain ⟨v', w', hrun, h2, h3, h4⟩ := run_append_sp base o.type v n xs hown A m c news hr h63 hbase
  refine wpList_plain hgd fun K hK => ?_
  unfold Oper.wp
  simp [execOp, ho, resolve, invoke, builtin, hs, hx, hrun, Result.andThen]
  exact hK _ _ (h v' w' h2 h3 h4)

theorem step_append_sp {ops : Array Oper} {o : Oper} {a : Act} {K : Act → World → Prop} {Q : Exit → Act → World → Prop} {E : Prop} (hgd : o.guard = none) (s x : Operand)
    (ho : o.op = .call { callee := .builtin .append, args := #[s, x], argTypes := #[23, 23] })
    (base : Nat) (v : Value) (n : Nat) (xs : List Sp) (hs : a.eval s = v) (hown : w.ownsRow base 27 7 v n (scells xs)) (A : Option Addr) (m c : Nat) (news : List Sp) (hx : a.eval x = .slice A m c) (hr : SpAt w A m c news)
    (h63 : n + m ≤ 1000000) (hbase : base ≤ w.heap.size)
    (h : ∀ v' w', SpO w' base v' (n + m) (xs ++ news) → w.grownBy w' v.ownBlock → (v'.ownBlock = v.ownBlock ∨ v'.ownBlock = some w.heap.size) → K (a.put o.dst v') w') :
    if Region.wanted o (yielded ops a.tmps) = true then Oper.wp Try.prog o a w K Q else E := by
  have hw : Region.wanted o (yielded ops a.tmps) = true := by simp [Region.wanted, hgd]
  rw [if_pos hw]
  obtain ⟨v', w', hrun, h2, h3, h4⟩ := run_append_sp base o.type v n xs hown A m c news hr h63 hbase
  unfold Oper.wp
  simp [execOp, ho, resolve, invoke, builtin, hs, hx, hrun, Result.andThen]
  exact h v' w' h2 h3 h4

/-- A row of commands laid by a literal. -/
theorem SpAt.lit (w : World) (l : List Sp) (g : Nat) (hg : g = w.heap.size) (h0 : 0 < l.length) (hl : l.length ≤ 1000000) (cs : Array Value) (hcs : cs = (scells l).toArray) (n : Nat) (hn : n = l.length) :
    SpAt (w.alloc (.cells cs 27)) (some ⟨g, 0, none⟩) n n l := by
  subst hg hcs hn
  have q := heap_alloc_new w (.cells (scells l).toArray 27)
  refine ⟨rfl, Nat.le_refl _, by omega, fun e => (by cases e), fun _ => ⟨w.heap.size, 0, rfl, by simp, fun j x hx i v hv => ?_⟩⟩
  have r := scells_at hx hv
  rw [Nat.zero_add]
  simp only [World.cell?, q]
  simpa using r
end

end Go.Proofs.Ytinpimejiepahaa
