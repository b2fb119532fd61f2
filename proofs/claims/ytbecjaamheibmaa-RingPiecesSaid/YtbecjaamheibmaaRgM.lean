/-
  Bytes and a ring in memory; copy into a row that is known whole. No program's code.
-/
import Derived.Test.YtbecjaamheibmaaRgA
import Derived.Test.YtbecjaamheibmaaDqO
import Derived.Test.YtbecjaamheibmaaConv
import Derived.Laws.IdiomCopy
import Derived.Lib.LazyBuf
namespace Go.Proofs.Ytbecjaamheibmaa
open Go.RowKit

def byV (c : UInt8) : Value := .int .u8 (c.toNat : Int)
def byF (S : Nat → UInt8) : Nat → Value := fun i => byV (S i)

/-- A slice that reads as some bytes. -/
def ByAt (w : World) (A : Option Addr) (n c : Nat) (l : Tx) : Prop := SlAt w A n c (l.map byV)

theorem SlAt.first {w : World} {A : Option Addr} {n c m : Nat} {xs : List Value} (h : SlAt w A n c xs) (hm : m ≤ n) : SlAt w A m c (xs.take m) :=
  ⟨by rw [List.length_take, h.len]; omega, Nat.le_trans hm h.le, h.max, h.bare, fun hp => by
    obtain ⟨b, o, e, hb, hc⟩ := h.at_ (by omega)
    exact ⟨b, o, e, hb, fun j u hu => hc j u (by
      rw [List.getElem?_take] at hu
      split at hu
      · exact hu
      · cases hu)⟩⟩
theorem SlAt.rest {w : World} {A : Option Addr} {n c i : Nat} {xs : List Value} (h : SlAt w A n c xs) (hi : i ≤ n) : SlAt w (if c = i then A else A.map (fun x => x.add i)) (n - i) (c - i) (xs.drop i) := by
  have hle := h.le
  have hmx := h.max
  refine ⟨by rw [List.length_drop, h.len], by omega, by omega, fun e => ?_, fun hn => ?_⟩
  · split at e
    · omega
    · have : A = none := by cases A with
        | none => rfl
        | some a => cases e
      have := h.bare this
      omega
  · obtain ⟨b, o, rfl, hb, hc⟩ := h.at_ (by omega)
    rw [if_neg (by omega)]
    refine ⟨b, o + i, ?_, hb, fun j u hu => ?_⟩
    · simp only [Option.map_some, Option.some.injEq]
      unfold Addr.add
      split
      · rename_i h0
        rw [h0, Nat.add_zero]
      · rfl
    · rw [List.getElem?_drop] at hu
      rw [Nat.add_assoc]
      exact hc _ _ hu

section
variable {w w' : World} {A : Option Addr} {n c : Nat} {l : Tx}

theorem ByAt.len (h : ByAt w A n c l) : l.length = n := by have := SlAt.len h; rwa [List.length_map] at this
theorem ByAt.le (h : ByAt w A n c l) : n ≤ c := SlAt.le h
theorem ByAt.max (h : ByAt w A n c l) : c ≤ 9223372036854775807 := SlAt.max h
theorem ByAt.nil (w : World) : ByAt w none 0 0 [] := SlAt.nil w
theorem ByAt.below (h : ByAt w A n c l) (hb : Below w.heap.size w w') : ByAt w' A n c l := SlAt.below h hb
theorem ByAt.keep (h : ByAt w A n c l) (hs : w.heap.size ≤ w'.heap.size) (hk : ∀ b o, 0 < n → A = some ⟨b, o, none⟩ → w'.heap[b]? = w.heap[b]?) : ByAt w' A n c l := SlAt.keep h hs hk
theorem ByAt.first {m : Nat} (h : ByAt w A n c l) (hm : m ≤ n) : ByAt w A m c (l.take m) := by
  have := SlAt.first h hm
  rwa [← List.map_take] at this
theorem ByAt.rest {i : Nat} (h : ByAt w A n c l) (hi : i ≤ n) : ByAt w (if c = i then A else A.map (fun x => x.add i)) (n - i) (c - i) (l.drop i) := by
  have := SlAt.rest h hi
  rwa [← List.map_drop] at this
theorem ByAt.only {p : Nat → Prop} (h : ByAt w A n c l) (hb : Only p w w') (hp : ∀ b o, 0 < n → A = some ⟨b, o, none⟩ → ¬ p b) : ByAt w' A n c l := h.keep hb.size (fun b o hn e => by
  obtain ⟨b', o', e', hlt, _⟩ := h.at_ hn
  rw [e] at e'
  injection e' with e'
  injection e' with e1 e2
  exact hb.block b (by omega) (hp b o hn e))
theorem ByAt.cell (h : ByAt w A n c l) {j : Nat} (hj : j < n) : ∃ b o, A = some ⟨b, o, none⟩ ∧ b < w.heap.size ∧ w.cell? ⟨b, o + j, none⟩ = some (byV (l.getD j 0)) := by
  obtain ⟨b, o, u, e, hb, hu, hc⟩ := SlAt.cell h hj
  refine ⟨b, o, e, hb, ?_⟩
  rw [hc]
  have hl : j < l.length := by rw [ByAt.len h]; exact hj
  rw [List.getElem?_map, List.getElem?_eq_getElem hl, Option.map_some, Option.some.injEq] at hu
  rw [← hu, List.getD_eq_getElem?_getD, List.getElem?_eq_getElem hl]
  rfl
/-- What a copy reads of it. -/
theorem ByAt.src (h : ByAt w A n c l) {k : Nat} (hk : k ≤ n) (h0 : 0 < k) : ∃ ad, A = some ad ∧ ∀ j, j < k → w.cell? (ad.add j) = some (byV (l.getD j 0)) := by
  obtain ⟨b, o, e, _, _⟩ := h.cell (j := 0) (by omega)
  refine ⟨_, e, fun j hj => ?_⟩
  obtain ⟨b', o', e', _, hc⟩ := h.cell (j := j) (by omega)
  rw [e] at e'
  injection e' with e'
  rw [Go.WideShapes.add_plain]
  injection e' with e1 e2
  rw [e1, e2]
  exact hc
theorem ByAt.of_row {g m : Nat} {t : TypeId} {S : Nat → UInt8} (h : w.rowIs g t c (byF S)) (hm : m ≤ c) (hc : c ≤ 9223372036854775807) (hl : l.length = m) (hS : ∀ j, j < m → S j = l.getD j 0) : ByAt w (some ⟨g, 0, none⟩) m c l :=
  ⟨by rw [List.length_map]; exact hl, hm, hc, (fun e => by cases e), fun h0 => ⟨g, 0, rfl, h.lt, fun j u hu => by
    rw [List.getElem?_map] at hu
    cases hx : l[j]? with
    | none => rw [hx] at hu; cases hu
    | some x =>
      rw [hx] at hu
      injection hu with hu
      have hj : j < m := by have := (List.getElem?_eq_some_iff.1 hx).1; omega
      rw [Nat.zero_add, h.cell (i := j) (by omega), ← hu]
      show some (byV (S j)) = some (byV x)
      rw [hS j hj, List.getD_eq_getElem?_getD, hx]
      rfl⟩⟩

/-- Bytes as a text. -/
theorem conv_by (h : ByAt w A n c l) : (convert 33 9 (.slice A n c)).run Try.prog w = .ok (.string ⟨l.toArray⟩) w := by
  have hl := h.len
  by_cases h0 : n = 0
  · subst h0
    obtain rfl : l = [] := List.eq_nil_of_length_eq_zero hl
    rw [run_convert_bytes_string _ _ _ 5 _ _ _ Try.underlying33 Try.underlying5 Try.underlying9]
    cases A with
    | none => rfl
    | some a =>
      rw [run_bytesToString _ _ _ _ []]
      · rfl
      · rfl
  · obtain ⟨b, o, rfl, _, _⟩ := h.cell (j := 0) (by omega)
    subst hl
    refine conv_bytes w b o c l (fun j hj => ?_)
    obtain ⟨b', o', e', _, hc⟩ := h.cell (j := j) hj
    injection e' with e'
    injection e' with e1 e2
    subst e1 e2
    exact hc
end

theorem byV_one (c : UInt8) : (byV c).oneCell' = true := rfl

theorem only_setCells {g : Nat} : ∀ (vs : List Value) (o : Nat) (w : World), Only (· = g) w (w.setCells g o vs)
  | [], _, w => Only.refl _ w
  | v :: r, o, w => Only.trans (p := (· = g)) (Only.set (p := (· = g)) (Only.refl _ w) (q := ⟨g, o, none⟩) rfl v) (only_setCells r (o + 1) _)

/-- k bytes lie at a source, and a destination begins at a place of a row (if k is no 0). -/
def CpAt (w : World) (dp sp : Option Addr) (g q k : Nat) (T : Nat → UInt8) : Prop := 0 < k → dp = some ⟨g, q, none⟩ ∧ ∃ ad, sp = some ad ∧ ∀ j, j < k → w.cell? (ad.add j) = some (byV (T j))

/-- copy: k bytes of some place over a row from a place on. -/
theorem run_copy_by {P : Program} {w : World} (dT sT ty elem : TypeId) (hu : P.underlying dT = some (.slice elem)) (hsz : (P.info? elem).map (·.size) = some 1)
    (dp sp : Option Addr) (dn dc sn sc : Nat) (g c q k : Nat) (t : TypeId) (S T : Nat → UInt8) (hg : 0 < c → w.rowIs g t c (byF S)) (hk : k = Nat.min sn dn)
    (hpos : CpAt w dp sp g q k T) (hfit : q + k ≤ c) :
    ∃ w', (Builtin.copy_ #[dT, sT] ty #[.slice dp dn dc, .slice sp sn sc]).run P w = .ok (goInt k) w' ∧ (0 < c → w'.rowIs g t c (byF (ovl S q k T))) ∧ Only (fun i => i = g ∧ 0 < c) w w' := by
  by_cases h0 : k = 0
  · subst h0
    refine ⟨w, run_copy_none w dT sT ty elem dp sp dn dc sn sc hu hsz hk.symm, fun h0 => (hg h0).congr (fun i _ => ?_), Only.refl _ w⟩
    unfold byF ovl
    rw [if_neg (by omega)]
  · obtain ⟨rfl, ad, rfl, hc⟩ := hpos (by omega)
    have hg := hg (by omega)
    have hl : ((List.range k).map fun j => byV (T j)).length = k := by simp
    have hget : ∀ (j : Nat) (v : Value), ((List.range k).map fun j => byV (T j))[j]? = some v → j < k ∧ v = byV (T j) := fun j v hv => by
      rw [List.getElem?_map] at hv
      by_cases hj : j < k
      · rw [List.getElem?_range hj] at hv
        injection hv with hv
        exact ⟨hj, hv.symm⟩
      · rw [List.getElem?_eq_none (by simp; omega)] at hv
        cases hv
    have hrun := run_copy_cells (P := P) w dT sT ty elem g q dn dc ad sn sc ((List.range k).map fun j => byV (T j)) hu hsz (by rw [hl]; exact hk)
      (fun j v hv => by obtain ⟨hj, rfl⟩ := hget j v hv; exact hc j hj)
      (fun j hj => by rw [hl] at hj; rw [hg.cell (i := q + j) (by omega)]; rfl)
      (fun j hj => hg.frozen (q + j))
      (fun v hv => by obtain ⟨j, _, rfl⟩ := List.mem_map.1 hv; rfl)
    rw [hl] at hrun
    refine ⟨_, hrun, fun _ => (rowIs_setCells _ q w _ hg).congr (fun i hi => ?_), (only_setCells _ q w).mono (fun i e => ⟨e, by omega⟩)⟩
    unfold byF ovl
    rw [hl]
    by_cases hq : q ≤ i ∧ i < q + k
    · rw [if_pos hq, if_pos hq, List.getElem?_map, List.getElem?_range (by omega)]
      rfl
    · rw [if_neg hq, if_neg hq]

theorem wpList_copy_by {P : Program} {w : World} {ops : Array Oper} {rest : List Oper} {o : Oper} {a : Act} {Q : Exit → Act → World → Prop} (hgd : o.guard = none) (d s : Operand) (dT sT : TypeId)
    (ho : o.op = .call { callee := .builtin .copy, args := #[d, s], argTypes := #[dT, sT] }) (elem : TypeId) (hu : P.underlying dT = some (.slice elem)) (hsz : (P.info? elem).map (·.size) = some 1)
    (dp sp : Option Addr) (dn dc sn sc : Nat) (hd : a.eval d = .slice dp dn dc) (hs : a.eval s = .slice sp sn sc)
    (g c q k : Nat) (t : TypeId) (S T : Nat → UInt8) (hg : 0 < c → w.rowIs g t c (byF S)) (hk : k = Nat.min sn dn)
    (hpos : CpAt w dp sp g q k T) (hfit : q + k ≤ c)
    (h : ∀ w', (0 < c → w'.rowIs g t c (byF (ovl S q k T))) → Only (fun i => i = g ∧ 0 < c) w w' → wpList P ops Q rest (a.put o.dst (.int .i64 (k : Int))) w') :
    wpList P ops Q (o :: rest) a w := by
  refine wpList_plain hgd fun K hK => ?_
  obtain ⟨w', hrun, h1, h2⟩ := run_copy_by (P := P) dT sT o.type elem hu hsz dp sp dn dc sn sc g c q k t S T hg hk hpos hfit
  unfold Oper.wp
  simp [execOp, ho, resolve, invoke, builtin, hd, hs, hrun, Result.andThen]
  exact hK _ _ (h w' h1 h2)

theorem step_copy_by {P : Program} {ops : Array Oper} {o : Oper} {a : Act} {w : World} {K : Act → World → Prop} {Q : Exit → Act → World → Prop} {E : Prop} (hgd : o.guard = none) (d s : Operand) (dT sT : TypeId)
    (ho : o.op = .call { callee := .builtin .copy, args := #[d, s], argTypes := #[dT, sT] }) (elem : TypeId) (hu : P.underlying dT = some (.slice elem)) (hsz : (P.info? elem).map (·.size) = some 1)
    (dp sp : Option Addr) (dn dc sn sc : Nat) (hd : a.eval d = .slice dp dn dc) (hs : a.eval s = .slice sp sn sc)
    (g c q k : Nat) (t : TypeId) (S T : Nat → UInt8) (hg : 0 < c → w.rowIs g t c (byF S)) (hk : k = Nat.min sn dn)
    (hpos : CpAt w dp sp g q k T) (hfit : q + k ≤ c)
    (h : ∀ w', (0 < c → w'.rowIs g t c (byF (ovl S q k T))) → Only (fun i => i = g ∧ 0 < c) w w' → K (a.put o.dst (.int .i64 (k : Int))) w') :
    if Region.wanted o (yielded ops a.tmps) = true then Oper.wp P o a w K Q else E := by
  have hw : Region.wanted o (yielded ops a.tmps) = true := by simp [Region.wanted, hgd]
  rw [if_pos hw]
  obtain ⟨w', hrun, h1, h2⟩ := run_copy_by (P := P) dT sT o.type elem hu hsz dp sp dn dc sn sc g c q k t S T hg hk hpos hfit
  unfold Oper.wp
  simp [execOp, ho, resolve, invoke, builtin, hd, hs, hrun, Result.andThen]
  exact h w' h1 h2

/-- A stream's history. -/
structure Hst where
  id : Int
  off : Int
  sec : Int
  frk : Int

/-- A ring's cells. -/
def rgV (p : Nat) (h : Hst) (s al : Int) (sl : Value) : Nat → Value := fun i =>
  if i = 0 then .pointer (some ⟨p, 0, none⟩) else if i = 1 then .int .u64 h.id else if i = 2 then .int .i64 h.off else if i = 3 then .int .u64 h.sec else if i = 4 then .int .i64 h.frk else if i = 5 then .int .i64 s else if i = 6 then .int .i64 al else sl

def RoomN (s r m : Nat) : Prop := m ≤ s ∧ (m = s ∨ r ≤ m)
theorem RoomN.room {s m : Nat} {X : Tx} (h : RoomN s X.length m) : Room s X m := h

/-- A ring in memory: its own blocks F, its head at p, of size s; al: how many bytes it says that it was fed; r: room for so many; X: what it was fed. -/
def LsOn (w : World) (base : Nat) (F : Nat → Prop) (p s : Nat) (h : Hst) (al r : Nat) (X : Tx) : Prop :=
  (∀ k, F k → base ≤ k ∧ k < w.heap.size) ∧ F p ∧ X.length ≤ r ∧ ∃ g m S, w.rowIs p 67 8 (rgV p h s al (slV g m m)) ∧ (0 < m → F g ∧ g ≠ p ∧ w.rowIs g 5 m (byF S)) ∧ RoomN s r m ∧ Slots s X S

section
variable {w w' : World} {base p s al r : Nat} {F : Nat → Prop} {h : Hst} {X : Tx}
theorem LsOn.keep (H : LsOn w base F p s h al r X) (hs : w.heap.size ≤ w'.heap.size) (hk : ∀ k, F k → w'.heap[k]? = w.heap[k]?) : LsOn w' base F p s h al r X := by
  obtain ⟨h1, h2, h0, g, m, S, h3, h4, h5⟩ := H
  exact ⟨fun k hF => ⟨(h1 k hF).1, Nat.lt_of_lt_of_le (h1 k hF).2 hs⟩, h2, h0, g, m, S, h3.of_block (hk p h2), fun hm => ⟨(h4 hm).1, (h4 hm).2.1, (h4 hm).2.2.of_block (hk g (h4 hm).1)⟩, h5⟩
theorem LsOn.below (H : LsOn w base F p s h al r X) (hb : Below w.heap.size w w') : LsOn w' base F p s h al r X := H.keep hb.size (fun k hk => hb.block k (H.1 k hk).2)
theorem LsOn.only {q : Nat → Prop} (H : LsOn w base F p s h al r X) (hb : Only q w w') (hp : ∀ k, F k → ¬ q k) : LsOn w' base F p s h al r X := H.keep hb.size (fun k hk => hb.block k (H.1 k hk).2 (hp k hk))
end

end Go.Proofs.Ytbecjaamheibmaa
