/-
  Rows of texts in memory, one cell an item: read, cut, added to, laid whole. Conditions: as typed.
-/
import Derived.Test.YtinpimejiepahaaRet
import Derived.Test.YtinpimejiepahaaMbA
import Derived.Laws.OwnMore
import Derived.Laws.AppendOwn
import Derived.Maps.AppendAt
import Derived.OwnWalk
import Derived.Deep.OwnRows
import Derived.Sort.EncStr
namespace Go.Proofs.Ytinpimejiepahaa
open Go.RowKit

theorem bup {a b c : World} (h : Below a.heap.size a b) (k : Below b.heap.size b c) : Below a.heap.size a c := h.trans (k.mono h.size)
theorem below_drewN (n : Nat) (w : World) (k : Nat) : Below n w (w.drewN k) := ⟨rfl, rfl, rfl, Nat.le_refl _, fun _ _ => rfl⟩

/-- A slice that reads as texts, none of more than 2^47 bytes. -/
structure TxAt (w : World) (A : Option Addr) (n c : Nat) (L : List Tx) : Prop where
  len : L.length = n
  le : n ≤ c
  max : c ≤ 9223372036854775807
  bare : A = none → c = 0
  fits : ∀ x ∈ L, x.length ≤ 140737488355328
  at_ : 0 < n → ∃ b o, A = some ⟨b, o, none⟩ ∧ b < w.heap.size ∧ ∀ j x, L[j]? = some x → w.cell? ⟨b, o + j, none⟩ = some (.string ⟨x.toArray⟩)

section
variable {w w' : World} {A : Option Addr} {n c : Nat} {L : List Tx}

theorem TxAt.keep (h : TxAt w A n c L) (hs : w.heap.size ≤ w'.heap.size) (hk : ∀ b o, 0 < n → A = some ⟨b, o, none⟩ → w'.heap[b]? = w.heap[b]?) : TxAt w' A n c L :=
  ⟨h.len, h.le, h.max, h.bare, h.fits, fun hn => by
    obtain ⟨b, o, e, hb, hc⟩ := h.at_ hn
    exact ⟨b, o, e, Nat.lt_of_lt_of_le hb hs, fun j u hu => (World.cell?_of_block (a := ⟨b, o + j, none⟩) (hk b o hn e)).trans (hc j u hu)⟩⟩
theorem TxAt.below (h : TxAt w A n c L) (hb : Below w.heap.size w w') : TxAt w' A n c L :=
  h.keep hb.size (fun b o hn e => by
    obtain ⟨b', o', e', hb', _⟩ := h.at_ hn
    rw [e] at e'
    injection e' with e'
    injection e' with e1 e2
    exact hb.block b (by omega))
theorem TxAt.nil (w : World) : TxAt w none 0 0 [] := ⟨rfl, Nat.le_refl _, by omega, fun _ => rfl, (fun x h => by cases h), fun h => absurd h (Nat.lt_irrefl 0)⟩
theorem TxAt.first (h : TxAt w A n c L) {k : Nat} (hk : k ≤ n) : TxAt w A k c (L.take k) :=
  ⟨by rw [List.length_take, h.len]; omega, by have := h.le; omega, h.max, h.bare, fun x hx => h.fits x (List.mem_of_mem_take hx), fun hn => by
    obtain ⟨b, o, e, hb, hc⟩ := h.at_ (by omega)
    refine ⟨b, o, e, hb, fun j x hx => hc j x ?_⟩
    rw [List.getElem?_take] at hx
    split at hx
    · exact hx
    · cases hx⟩
theorem TxAt.rest (h : TxAt w A n c L) {i : Nat} (hi : i ≤ n) : TxAt w (if c = i then A else A.map (fun x => x.add i)) (n - i) (c - i) (L.drop i) := by
  have hle := h.le
  have hmx := h.max
  refine ⟨by rw [List.length_drop, h.len], by omega, by omega, fun e => ?_, fun x hx => h.fits x (List.mem_of_mem_drop hx), fun hn => ?_⟩
  · split at e
    · omega
    · have : A = none := by cases A with
        | none => rfl
        | some a => cases e
      have := h.bare this
      omega
  · obtain ⟨b, o, rfl, hb, hc⟩ := h.at_ (by omega)
    rw [if_neg (by omega)]
    refine ⟨b, o + i, ?_, hb, fun j u hu => ?_⟩
    · simp only [Option.map_some, Option.some.injEq]
      unfold Addr.add
      split
      · rename_i h0
        rw [h0, Nat.add_zero]
      · rfl
    · rw [List.getElem?_drop] at hu
      rw [Nat.add_assoc]
      exact hc _ _ hu
theorem TxAt.get (h : TxAt w A n c L) {j : Nat} (hj : j < n) : ∃ x, L[j]? = some x := ⟨_, List.getElem?_eq_getElem (by rw [h.len]; exact hj)⟩
theorem TxAt.fit (h : TxAt w A n c L) {j : Nat} {x : Tx} (hx : L[j]? = some x) : x.length ≤ 140737488355328 := h.fits x (List.mem_of_getElem? hx)

/-- A slice's memory is newer than M. -/
def Frh (M : Nat) (A : Option Addr) : Prop := ∀ b o sp, A = some ⟨b, o, sp⟩ → M ≤ b
theorem Frh.mono {M M' : Nat} {A : Option Addr} (h : Frh M A) (hm : M' ≤ M) : Frh M' A := fun b o sp e => Nat.le_trans hm (h b o sp e)
theorem Frh.none (M : Nat) : Frh M Option.none := fun b o sp e => by cases e

theorem own_slice {w : World} {base : Nat} {e : TypeId} {size : Nat} {v : Value} {n : Nat} {xs : List Value} (h : w.ownsRow base e size v n xs) : ∃ A c, v = .slice A n c := by
  rcases h.2 with ⟨q1, q2⟩ | ⟨g, cap, cur, q, _⟩
  · exact ⟨none, 0, by rw [q1, q2]⟩
  · exact ⟨_, _, q⟩
theorem own_lo {w : World} {base : Nat} {e : TypeId} {size : Nat} {v : Value} {n : Nat} {xs : List Value} (h : w.ownsRow base e size v n xs) {b : Nat} (hb : v.ownBlock = some b) : base ≤ b := by
  rcases h.2 with ⟨q1, _⟩ | ⟨g, cap, cur, q, hg, _⟩
  · rw [q1] at hb; cases hb
  · rw [q] at hb; injection hb with hb; rw [← hb]; exact hg

theorem TxAt.own {base : Nat} {e : TypeId} (h : w.ownsRow base e 1 (.slice A n c) n (L.map encStr)) (hf : ∀ x ∈ L, x.length ≤ 140737488355328) : TxAt w A n c L := by
  obtain ⟨h1, h2⟩ := h
  rw [Nat.mul_one, List.length_map] at h1
  rcases h2 with ⟨q, q2⟩ | ⟨g, cap, cur, q, _, q3, q4, q5, q6, q7⟩
  · injection q with q q3 q4
    subst q q3 q4
    exact ⟨h1, Nat.le_refl _, by omega, fun _ => rfl, hf, fun h => absurd h (Nat.lt_irrefl 0)⟩
  · injection q with q q8 q9
    subst q q9
    refine ⟨h1, q4, by simpa [maxLen] using q5, (fun e => by cases e), hf, fun hn => ⟨g, 0, rfl, (Array.getElem?_eq_some_iff.1 q3).1, fun j u hu => ?_⟩⟩
    rw [Nat.mul_one] at q7
    have hu2 : (L.map encStr)[j]? = some (encStr u) := by rw [List.getElem?_map, hu]; rfl
    rw [← q7, List.getElem?_take] at hu2
    rw [Nat.zero_add]
    split at hu2
    · simp [World.cell?, q3]
      simpa using hu2
    · cases hu2

theorem tx_of_own {base : Nat} {e : TypeId} {v : Value} (h : w.ownsRow base e 1 v n (L.map encStr)) (hf : ∀ x ∈ L, x.length ≤ 140737488355328) : ∃ A c, v = .slice A n c ∧ TxAt w A n c L ∧ Frh base A := by
  obtain ⟨A, c, rfl⟩ := own_slice h
  exact ⟨A, c, rfl, TxAt.own h hf, fun b o sp e => own_lo h (by rw [e]; rfl)⟩
end

theorem own_below {w w' : World} {base : Nat} {e : TypeId} {size : Nat} {v : Value} {n : Nat} {xs : List Value} (h : w.ownsRow base e size v n xs) (hb : Below w.heap.size w w') : w'.ownsRow base e size v n xs :=
  h.kept (row := none) ⟨hb.os, hb.tape, hb.output, hb.size, fun k hk _ => hb.block k hk⟩ (by cases v.ownBlock <;> simp)
def slLen : Value → Nat
  | .slice _ n _ => n
  | _ => 0

theorem info_str : (Try.prog.info? 9).map (fun i => (i.zero, i.size, i.bytes)) = some (some (.string ⟨#[]⟩), 1, 16) := by kernel_rfl

theorem enc_one {L : List Tx} {u : Value} (h : u ∈ L.map encStr) : u.oneCell' = true := by
  obtain ⟨x, _, rfl⟩ := List.mem_map.1 h
  rfl

/-- A value owns a row of texts. -/
def TxO (w : World) (base : Nat) (v : Value) (n : Nat) (L : List Tx) : Prop := w.ownsRow base 9 1 v n (L.map encStr)

section
variable {w : World}

theorem run_append_tx (base : Nat) (ty : TypeId) (v : Value) (n : Nat) (xs : List Tx) (hown : w.ownsRow base 9 1 v n (xs.map encStr)) (A : Option Addr) (m c : Nat) (news : List Tx) (hr : TxAt w A m c news)
    (h63 : n + m ≤ 4000000) (hbase : base ≤ w.heap.size) :
    ∃ v' w', (Builtin.append_ #[32, 32] ty #[v, .slice A m c]).run Try.prog w = .ok v' w' ∧ w'.ownsRow base 9 1 v' (n + m) ((xs ++ news).map encStr) ∧ w.grownBy w' v.ownBlock ∧ (v'.ownBlock = v.ownBlock ∨ v'.ownBlock = some w.heap.size) := by
  obtain ⟨i, hi, hz⟩ := Option.map_eq_some_iff.1 info_str
  simp only [Prod.mk.injEq] at hz
  obtain ⟨z1, z2, z3⟩ := hz
  rcases A with _ | ⟨b, o, sp⟩
  · have hc := hr.bare rfl
    have hm : m = 0 := by have := hr.le; omega
    subst hc hm
    have hn : news = [] := List.eq_nil_of_length_eq_zero hr.len
    subst hn
    exact ⟨v, w, run_append_owned_none (P := Try.prog) (w := w) base _ ty _ i 1 Try.underlying32 hi v n _ hown, by simpa using hown, World.grownBy.refl w _, Or.inl rfl⟩
  · have hcells : ∀ j u, (news.map encStr)[j]? = some u → w.cell? ((⟨b, o, sp⟩ : Addr).add j) = some u := fun j u hu => by
      have hm : 0 < m := by have := (List.getElem?_eq_some_iff.1 hu).1; rw [List.length_map] at this; have := hr.len; omega
      obtain ⟨b', o', e', _, hc⟩ := hr.at_ hm
      rw [Option.some.inj e']
      rw [List.getElem?_map] at hu
      cases hx : news[j]? with
      | none => rw [hx] at hu; cases hu
      | some x =>
        rw [hx] at hu
        injection hu with hu
        rw [← hu]
        have q := hc j x hx
        unfold Addr.add
        split
        · rename_i hj
          subst hj
          exact q
        · exact q
    obtain ⟨v', w', h1, h2, h3, _, h5⟩ := run_append_own_at (P := Try.prog) w base 32 ty 9 i _ 1 16 Try.underlying32 hi z1 z2 z3 rfl (by omega) v n _ hown ⟨b, o, sp⟩ m c (news.map encStr) (by rw [List.length_map, hr.len, Nat.mul_one]) hcells (fun u hu => enc_one hu) (by unfold maxLen; omega) (by omega) hbase
    rw [← List.map_append] at h2
    exact ⟨v', w', h1, h2, h3, h5⟩

theorem wpList_append_tx {ops : Array Oper} {rest : List Oper} {o : Oper} {a : Act} {Q : Exit → Act → World → Prop} (hgd : o.guard = none) (s x : Operand)
    (ho : o.op = .call { callee := .builtin .append, args := #[s, x], argTypes := #[32, 32] })
    (base : Nat) (v : Value) (n : Nat) (xs : List Tx) (hs : a.eval s = v) (hown : w.ownsRow base 9 1 v n (xs.map encStr)) (A : Option Addr) (m c : Nat) (news : List Tx) (hx : a.eval x = .slice A m c) (hr : TxAt w A m c news)
    (h63 : n + m ≤ 4000000) (hbase : base ≤ w.heap.size)
    (h : ∀ v' w', TxO w' base v' (n + m) (xs ++ news) → w.grownBy w' v.ownBlock → wpList Try.prog ops Q rest (a.put o.dst v') w') :
    wpList Try.prog ops Q (o :: rest) a w := by
  obtain ⟨v', w', hrun, h2, h3, _⟩ := run_append_tx base o.type v n xs hown A m c news hr h63 hbase
  refine wpList_plain hgd fun K hK => ?_
  unfold Oper.wp
  simp [execOp, ho, resolve, invoke, builtin, hs, hx, hrun, Result.andThen]
  exact hK _ _ (h v' w' h2 h3)

theorem step_append_tx {ops : Array Oper} {o : Oper} {a : Act} {K : Act → World → Prop} {Q : Exit → Act → World → Prop} {E : Prop} (hgd : o.guard = none) (s x : Operand)
    (ho : o.op = .call { callee := .builtin .append, args := #[s, x], argTypes := #[32, 32] })
    (base : Nat) (v : Value) (n : Nat) (xs : List Tx) (hs : a.eval s = v) (hown : w.ownsRow base 9 1 v n (xs.map encStr)) (A : Option Addr) (m c : Nat) (news : List Tx) (hx : a.eval x = .slice A m c) (hr : TxAt w A m c news)
    (h63 : n + m ≤ 4000000) (hbase : base ≤ w.heap.size)
    (h : ∀ v' w', TxO w' base v' (n + m) (xs ++ news) → w.grownBy w' v.ownBlock → K (a.put o.dst v') w') :
    if Region.wanted o (yielded ops a.tmps) = true then Oper.wp Try.prog o a w K Q else E := by
  have hw : Region.wanted o (yielded ops a.tmps) = true := by simp [Region.wanted, hgd]
  rw [if_pos hw]
  obtain ⟨v', w', hrun, h2, h3, _⟩ := run_append_tx base o.type v n xs hown A m c news hr h63 hbase
  unfold Oper.wp
  simp [execOp, ho, resolve, invoke, builtin, hs, hx, hrun, Result.andThen]
  exact h v' w' h2 h3

/-- One text, laid by itself. -/
theorem TxAt.one (w : World) (x : Tx) (g : Nat) (hg : g = w.heap.size) (hx : x.length ≤ 140737488355328) : TxAt (w.alloc (.cells #[.string ⟨x.toArray⟩] 9)) (some ⟨g, 0, none⟩) 1 1 [x] := by
  subst hg
  have r := World.rowIs_alloc w #[.string ⟨x.toArray⟩] 9 (fun _ => .string ⟨x.toArray⟩) (fun i hi => by
    have hi : i < 1 := hi
    obtain rfl : i = 0 := by omega
    rfl)
  refine ⟨rfl, Nat.le_refl _, by omega, fun e => (by cases e), fun y hy => ?_, fun _ => ⟨w.heap.size, 0, rfl, r.lt, fun j y hy => ?_⟩⟩
  · rw [List.mem_singleton] at hy; rw [hy]; exact hx
  · rcases j with _ | j
    · simp at hy
      subst hy
      exact r.cell (i := 0) Nat.one_pos
    · simp at hy

/-- A row in memory reads as texts. -/
theorem TxAt.row {g n : Nat} {t : TypeId} {f : Nat → Value} {L : List Tx} (h : w.rowIs g t n f) {k c : Nat} (hk : L.length = k) (hkn : k ≤ n) (hkc : k ≤ c) (hc : c ≤ 9223372036854775807) (hf : ∀ x ∈ L, x.length ≤ 140737488355328) (hL : ∀ j x, L[j]? = some x → f j = .string ⟨x.toArray⟩) : TxAt w (some ⟨g, 0, none⟩) k c L :=
  ⟨hk, hkc, hc, fun e => (by cases e), hf, fun _ => ⟨g, 0, rfl, h.lt, fun j x hx => by
    have hj := (List.getElem?_eq_some_iff.1 hx).1
    rw [Nat.zero_add, ← hL j x hx]
    exact h.cell (i := j) (by omega)⟩⟩
end

end Go.Proofs.Ytinpimejiepahaa
