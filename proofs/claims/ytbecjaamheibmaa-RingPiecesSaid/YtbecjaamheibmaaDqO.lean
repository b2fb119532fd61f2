/-
  A slice of one cell an item that reads as a list; append of it behind a row of the call's own; a row with two ends that has been made of one. No program's code.
-/
import Derived.Test.YtbecjaamheibmaaDqN
import Derived.Laws.OwnMore
import Derived.Maps.AppendAt
import Derived.OwnWalk
namespace Go.Proofs.Ytbecjaamheibmaa
open Go.RowKit

/-- A slice that reads as xs. -/
structure SlAt (w : World) (A : Option Addr) (n c : Nat) (xs : List Value) : Prop where
  len : xs.length = n
  le : n ≤ c
  max : c ≤ 9223372036854775807
  bare : A = none → c = 0
  at_ : 0 < n → ∃ b o, A = some ⟨b, o, none⟩ ∧ b < w.heap.size ∧ ∀ j u, xs[j]? = some u → w.cell? ⟨b, o + j, none⟩ = some u

theorem SlAt.keep {w w' : World} {A : Option Addr} {n c : Nat} {xs : List Value} (h : SlAt w A n c xs) (hs : w.heap.size ≤ w'.heap.size) (hk : ∀ b o, 0 < n → A = some ⟨b, o, none⟩ → w'.heap[b]? = w.heap[b]?) : SlAt w' A n c xs :=
  ⟨h.len, h.le, h.max, h.bare, fun hn => by
    obtain ⟨b, o, e, hb, hc⟩ := h.at_ hn
    exact ⟨b, o, e, Nat.lt_of_lt_of_le hb hs, fun j u hu => (World.cell?_of_block (a := ⟨b, o + j, none⟩) (hk b o hn e)).trans (hc j u hu)⟩⟩
theorem SlAt.below {w w' : World} {A : Option Addr} {n c : Nat} {xs : List Value} (h : SlAt w A n c xs) (hb : Below w.heap.size w w') : SlAt w' A n c xs :=
  h.keep hb.size (fun b o hn e => by
    obtain ⟨b', o', e', hb', _⟩ := h.at_ hn
    rw [e] at e'
    injection e' with e'
    injection e' with e1 e2
    exact hb.block b (by omega))
theorem SlAt.nil (w : World) : SlAt w none 0 0 [] := ⟨rfl, Nat.le_refl _, by omega, fun _ => rfl, fun h => absurd h (Nat.lt_irrefl 0)⟩
theorem SlAt.own {w : World} {base n : Nat} {e : TypeId} {A : Option Addr} {c : Nat} {xs : List Value} (h : w.ownsRow base e 1 (.slice A n c) n xs) : SlAt w A n c xs := by
  obtain ⟨h1, h2⟩ := h
  rw [Nat.mul_one] at h1
  rcases h2 with ⟨q, q2⟩ | ⟨g, cap, cur, q, _, q3, q4, q5, q6, q7⟩
  · injection q with q q3 q4
    subst q q3 q4
    exact ⟨h1, Nat.le_refl _, by omega, fun _ => rfl, fun h => absurd h (Nat.lt_irrefl 0)⟩
  · injection q with q q8 q9
    subst q q9
    refine ⟨h1, q4, by simpa [maxLen] using q5, (fun e => by cases e), fun hn => ⟨g, 0, rfl, (Array.getElem?_eq_some_iff.1 q3).1, fun j u hu => ?_⟩⟩
    rw [Nat.mul_one] at q7
    rw [← q7, List.getElem?_take] at hu
    rw [Nat.zero_add]
    split at hu
    · simp [World.cell?, q3]
      simpa using hu
    · cases hu
theorem SlAt.cell {w : World} {A : Option Addr} {n c : Nat} {xs : List Value} (h : SlAt w A n c xs) {j : Nat} (hj : j < n) : ∃ b o u, A = some ⟨b, o, none⟩ ∧ b < w.heap.size ∧ xs[j]? = some u ∧ w.cell? ⟨b, o + j, none⟩ = some u := by
  obtain ⟨b, o, e, hb, hc⟩ := h.at_ (by omega)
  have hl : j < xs.length := by rw [h.len]; exact hj
  exact ⟨b, o, xs[j], e, hb, List.getElem?_eq_getElem hl, hc j _ (List.getElem?_eq_getElem hl)⟩

theorem own_form1 {w : World} {base : Nat} {e : TypeId} {size : Nat} {v : Value} {n : Nat} {xs : List Value} (h : w.ownsRow base e size v n xs) : ∃ A c, v = .slice A n c := by
  rcases h.2 with ⟨q1, q2⟩ | ⟨g, cap, cur, q, _⟩
  · exact ⟨none, 0, by rw [q1, q2]⟩
  · exact ⟨_, _, q⟩

section
variable {P : Program} {w : World}

theorem run_append_sl (base : Nat) (t ty e : TypeId) (i : TypeInfo) (z : Value) (bytes : Nat) (ht : P.underlying t = some (.slice e)) (hi : P.info? e = some i) (hz : i.zero = some z) (hsize : i.size = 1) (hby : i.bytes = bytes) (hzs : z.cells.size = 1)
    (v : Value) (n : Nat) (xs : List Value) (hown : w.ownsRow base e 1 v n xs) (A : Option Addr) (m c : Nat) (news : List Value) (hr : SlAt w A m c news) (h1 : ∀ u ∈ news, u.oneCell' = true)
    (h63 : n + m ≤ 9223372036854775807) (hbytes : (n + m) * bytes ≤ 140737488355328) (hbase : base ≤ w.heap.size) :
    ∃ v' w', (Builtin.append_ #[t, t] ty #[v, .slice A m c]).run P w = .ok v' w' ∧ w'.ownsRow base e 1 v' (n + m) (xs ++ news) ∧ w.grownBy w' v.ownBlock ∧
      (v' = .slice none 0 0 ↔ v = .slice none 0 0 ∧ m = 0) ∧ (v'.ownBlock = v.ownBlock ∨ v'.ownBlock = some w.heap.size) := by
  rcases A with _ | ⟨b, o, sp⟩
  · have hc := hr.bare rfl
    have hm : m = 0 := by have := hr.le; omega
    subst hc hm
    have hn : news = [] := List.eq_nil_of_length_eq_zero hr.len
    subst hn
    exact ⟨v, w, run_append_owned_none (P := P) (w := w) base t ty e i 1 ht hi v n xs hown, by simpa using hown, World.grownBy.refl w _, ⟨fun h => ⟨h, rfl⟩, fun h => h.1⟩, Or.inl rfl⟩
  · have hcells : ∀ j u, news[j]? = some u → w.cell? ((⟨b, o, sp⟩ : Addr).add j) = some u := fun j u hu => by
      have hm : 0 < m := by have := (List.getElem?_eq_some_iff.1 hu).1; have := hr.len; omega
      obtain ⟨b', o', e', _, hc⟩ := hr.at_ hm
      injection e' with e'
      rw [e']
      have q := hc j u hu
      unfold Addr.add
      split
      · rename_i hj
        subst hj
        exact q
      · exact q
    exact run_append_own_at (P := P) w base t ty e i z 1 bytes ht hi hz hsize hby hzs (by omega) v n xs hown ⟨b, o, sp⟩ m c news (by rw [hr.len, Nat.mul_one]) hcells h1 (by simpa [maxLen] using h63) hbytes hbase

theorem wpList_append_sl {ops : Array Oper} {rest : List Oper} {o : Oper} {a : Act} {Q : Exit → Act → World → Prop} (hgd : o.guard = none) (s x : Operand) (t : TypeId)
    (ho : o.op = .call { callee := .builtin .append, args := #[s, x], argTypes := #[t, t] })
    (base : Nat) (e : TypeId) (i : TypeInfo) (z : Value) (bytes : Nat) (ht : P.underlying t = some (.slice e)) (hi : P.info? e = some i) (hz : i.zero = some z) (hsize : i.size = 1) (hby : i.bytes = bytes) (hzs : z.cells.size = 1)
    (v : Value) (n : Nat) (xs : List Value) (hs : a.eval s = v) (hown : w.ownsRow base e 1 v n xs) (A : Option Addr) (m c : Nat) (news : List Value) (hx : a.eval x = .slice A m c) (hr : SlAt w A m c news) (h1 : ∀ u ∈ news, u.oneCell' = true)
    (h63 : n + m ≤ 9223372036854775807) (hbytes : (n + m) * bytes ≤ 140737488355328) (hbase : base ≤ w.heap.size)
    (h : ∀ v' w', w'.ownsRow base e 1 v' (n + m) (xs ++ news) → w.grownBy w' v.ownBlock → (v' = .slice none 0 0 ↔ v = .slice none 0 0 ∧ m = 0) → (v'.ownBlock = v.ownBlock ∨ v'.ownBlock = some w.heap.size) → wpList P ops Q rest (a.put o.dst v') w') :
    wpList P ops Q (o :: rest) a w := by
  refine wpList_plain hgd fun K hK => ?_
  obtain ⟨v', w', hrun, h2, h3, h4, h5⟩ := run_append_sl (P := P) base t o.type e i z bytes ht hi hz hsize hby hzs v n xs hown A m c news hr h1 h63 hbytes hbase
  unfold Oper.wp execOp
  simp only [ho, resolve, invoke, builtin, Sem.run_bind, Sem.run_pure, Result.andThen_ok, List.map_toArray, List.map_cons, List.map_nil, hs, hx, hrun]
  exact hK _ _ (h v' w' h2 h3 h4 h5)
end

section
variable {α : Type} {K : Kq α}

/-- A row with two ends, made of a row of items that nobody else has. -/
theorem dq_made {w : World} {base : Nat} {v : Value} {L : List α} (hown : w.ownsRow base K.tE 1 v L.length (L.map K.enc)) (hnil : v = .slice none 0 0 ↔ L.length = 0) (hb : base ≤ w.heap.size) :
    ∃ F, DqOn K ((w.alloc (.cells #[v, .int .i64 0, .int .i64 L.length] K.tR)).alloc (.cells #[.pointer (some ⟨w.heap.size, 0, none⟩)] K.tD)) base F (w.heap.size + 1) L.length L := by
  have hz : ((w.alloc (.cells #[v, .int .i64 0, .int .i64 L.length] K.tR)).alloc (.cells #[.pointer (some ⟨w.heap.size, 0, none⟩)] K.tD)).heap.size = w.heap.size + 2 := by simp
  have hz1 : (w.alloc (.cells #[v, .int .i64 0, .int .i64 L.length] K.tR)).heap.size = w.heap.size + 1 := by simp
  have hd : ((w.alloc (.cells #[v, .int .i64 0, .int .i64 L.length] K.tR)).alloc (.cells #[.pointer (some ⟨w.heap.size, 0, none⟩)] K.tD)).rowIs (w.heap.size + 1) K.tD 1 (fun _ => .pointer (some ⟨w.heap.size, 0, none⟩)) := by
    have q := World.rowIs_alloc (w.alloc (.cells #[v, .int .i64 0, .int .i64 L.length] K.tR)) #[.pointer (some ⟨w.heap.size, 0, none⟩)] K.tD (fun _ => .pointer (some ⟨w.heap.size, 0, none⟩)) (fun i hi => by
      have hi : i < 1 := hi
      obtain rfl : i = 0 := by omega
      rfl)
    rw [hz1] at q
    exact q
  have hr0 := (World.rowIs_alloc w #[v, .int .i64 0, .int .i64 L.length] K.tR (hdF v 0 L.length) (fun i hi => by
      have hi : i < 3 := hi
      rcases (by omega : i = 0 ∨ i = 1 ∨ i = 2) with rfl | rfl | rfl <;> rfl)).alloc (.cells #[.pointer (some ⟨w.heap.size, 0, none⟩)] K.tD)
  rcases hown.2 with ⟨q, q2⟩ | ⟨g, cap, cur, q, q2, q3, q4, q5, q6, q7⟩
  · have hl : L = [] := List.eq_nil_of_length_eq_zero q2
    subst hl
    subst q
    refine ⟨fun k => k = w.heap.size + 1 ∨ k = w.heap.size, fun k hk => ?_, Or.inl rfl, Or.inr ⟨w.heap.size, 0, 0, 0, 0, fun _ => .pointer none, hd, Or.inr rfl, fun e => absurd e (Nat.lt_irrefl 0), Nat.le_refl _, hr0, fun e => absurd e (Nat.lt_irrefl 0), Nat.le_refl _, Or.inr ⟨rfl, rfl⟩, Nat.le_refl _, fun i x hx => by simp at hx⟩⟩
    rw [hz]
    rcases hk with rfl | rfl <;> omega
  · have hp : 0 < L.length := by
      rcases Nat.eq_zero_or_pos L.length with h0 | h0
      · rw [hnil.2 h0] at q; cases q
      · exact h0
    subst q
    have hg := (Array.getElem?_eq_some_iff.1 q3).1
    refine ⟨fun k => k = w.heap.size + 1 ∨ k = w.heap.size ∨ k = g, fun k hk => ?_, Or.inl rfl, Or.inr ⟨w.heap.size, g, L.length, cap, 0, fun i => (cur[i]?).getD .nilFunc, hd, Or.inr (Or.inl rfl), fun _ => Or.inr (Or.inr rfl), Nat.le_refl _, by rw [slV_pos hp]; exact hr0, fun _ => ?_, q4, Or.inl hp, Nat.le_refl _, fun i x hx => ?_⟩⟩
    · rw [hz]
      rcases hk with rfl | rfl | rfl <;> omega
    · have q8 : w.rowIs g K.tE cap (fun i => (cur[i]?).getD .nilFunc) := ⟨cur, q3, by rw [q6, Nat.mul_one], fun i hi => by
        rw [Nat.mul_one] at q6
        simp [show i < cur.size from by omega]⟩
      exact (q8.alloc _).alloc _
    · have hi := lt_of_some hx
      unfold rp
      rw [Nat.zero_add, Nat.mod_eq_of_lt hi]
      have h7 : (L.map K.enc)[i]? = some (K.enc x) := by rw [List.getElem?_map, hx]; rfl
      rw [← q7, List.getElem?_take, if_pos (by omega)] at h7
      have h8 : cur[i]? = some (K.enc x) := by simpa using h7
      rw [h8]
      rfl
end

end Go.Proofs.Ytbecjaamheibmaa
