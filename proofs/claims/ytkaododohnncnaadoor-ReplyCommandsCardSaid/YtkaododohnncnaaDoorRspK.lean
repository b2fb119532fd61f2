/-
  Plain theory of the requests of layer 2, and what an owned row keeps: the laws that the walks of the document's own answers and those of package resp share. No program, no condition.
-/
import Derived.Test.YtkaododohnncnaaDoorRspM
import Derived.Test.YtkaododohnncnaaDoorConv
import Derived.Lib.VarintMem
namespace Go.Proofs.YtkaododohnncnaaDoor
open Go.RowKit

def findI (c : UInt8) (l : List UInt8) (at_ : Nat) : Int := match findL c (l.drop at_) with | some k => ((at_ + k : Nat) : Int) | none => -1

/-- A Found as a value. -/
def fndV (st n : Int) (L : Value) (f : List UInt8) : Value := .agg #[.int .i64 st, .int .i64 n, L, .string ⟨f.toArray⟩]

theorem add_lists (a b : List UInt8) : Value.string ({ data := a.toArray } ++ { data := b.toArray }) = .string ⟨(a ++ b).toArray⟩ := congrArg Value.string (ByteArray.mk_append_mk a b)

theorem perr_add (f : List UInt8) : ({ data := #[80, 114, 111, 116, 111, 99, 111, 108, 32, 101, 114, 114, 111, 114, 58, 32] } ++ { data := f.toArray } : ByteArray) = ⟨(perrB ++ f).toArray⟩ := ByteArray.mk_append_mk perrB f

theorem findL_le {c : UInt8} {l : List UInt8} {k : Nat} (h : findL c l = some k) : k < l.length ∧ k < 65536 ∧ l.getD k 0 = c := by
  obtain ⟨_, h2, h3, h4⟩ := findF_some c 65536 l 0 k h
  exact ⟨by omega, by omega, h4⟩

theorem below_cell4 {B : Nat} {a w : World} (h : Below B a w) {g : Nat} (hg : B ≤ g) (v0 v1 v2 v3 : Value) : Below B a ((((w.setCell ⟨g, 0, none⟩ v0).setCell ⟨g, 1, none⟩ v1).setCell ⟨g, 2, none⟩ v2).setCell ⟨g, 3, none⟩ v3) :=
  (((h.setCell (p := ⟨g, 0, none⟩) hg v0).setCell (p := ⟨g, 1, none⟩) hg v1).setCell (p := ⟨g, 2, none⟩) hg v2).setCell (p := ⟨g, 3, none⟩) hg v3

/-- What head tells: its three results. -/
def headV (at_ : Nat) : Fnd (List UInt8) → Value
  | none => .tuple #[.string ⟨#[]⟩, .int .i64 0, fndV 0 0 (.slice none 0 0) []]
  | some (.inl f) => .tuple #[.string ⟨#[]⟩, .int .i64 0, fndV 2 0 (.slice none 0 0) f]
  | some (.inr (t, nx)) => .tuple #[.string ⟨t.toArray⟩, .int .i64 ((at_ + nx : Nat) : Int), fndV 1 0 (.slice none 0 0) []]

theorem drop_cons (l : List UInt8) (k : Nat) (h : k < l.length) : l.drop k = l.getD k 0 :: l.drop (k + 1) := by
  rw [List.drop_eq_getElem_cons h]
  simp [List.getD, h]

theorem bulkS_other (c : UInt8) (r : List UInt8) (h : c ≠ 36) : bulkS (c :: r) = some (.inl (perrB ++ (expB ++ shownS c ++ [39]))) := by
  simp only [bulkS]
  rw [if_pos h]

theorem bulkS_wait {r : List UInt8} (h : headS bigB (36 :: r) = none) : bulkS (36 :: r) = none := by
  simp only [bulkS]
  rw [if_neg (by decide), h]

theorem bulkS_big {r f : List UInt8} (h : headS bigB (36 :: r) = some (.inl f)) : bulkS (36 :: r) = some (.inl f) := by
  simp only [bulkS]
  rw [if_neg (by decide), h]

theorem bulkS_nan {r t : List UInt8} {nx : Nat} (h : headS bigB (36 :: r) = some (.inr (t, nx))) (hp : parseV t = none) : bulkS (36 :: r) = some (.inl (perrB ++ badB)) := by
  simp only [bulkS]
  rw [if_neg (by decide), h]
  simp only [hp]

theorem bulkS_out {r t : List UInt8} {nx : Nat} {n : Int} (h : headS bigB (36 :: r) = some (.inr (t, nx))) (hp : parseV t = some n) (hn : n < 0 ∨ 65536 < n) : bulkS (36 :: r) = some (.inl (perrB ++ badB)) := by
  simp only [bulkS]
  rw [if_neg (by decide), h]
  simp only [hp]
  rw [if_pos hn]

theorem bulkS_short {r t : List UInt8} {nx : Nat} {n : Int} (h : headS bigB (36 :: r) = some (.inr (t, nx))) (hp : parseV t = some n) (hn : ¬ (n < 0 ∨ 65536 < n)) (hs : (36 :: r).length - nx < n.toNat + 2) : bulkS (36 :: r) = none := by
  simp only [bulkS]
  rw [if_neg (by decide), h]
  simp only [hp]
  rw [if_neg hn, if_pos hs]

theorem bulkS_whole {r t : List UInt8} {nx : Nat} {n : Int} (h : headS bigB (36 :: r) = some (.inr (t, nx))) (hp : parseV t = some n) (hn : ¬ (n < 0 ∨ 65536 < n)) (hs : ¬ (36 :: r).length - nx < n.toNat + 2) : bulkS (36 :: r) = some (.inr (((36 :: r).drop nx).take n.toNat, nx + n.toNat + 2)) := by
  simp only [bulkS]
  rw [if_neg (by decide), h]
  simp only [hp]
  rw [if_neg hn, if_neg hs]

theorem headS_inr {big l t : List UInt8} {nx : Nat} (h : headS big l = some (.inr (t, nx))) : 2 ≤ nx ∧ nx ≤ l.length ∧ t.length ≤ 65536 := by
  unfold headS at h
  cases hf : findL 13 l with
  | none => rw [hf] at h; simp only at h; split at h <;> cases h
  | some k =>
    rw [hf] at h
    simp only at h
    obtain ⟨k1, k2, _⟩ := findL_le hf
    split at h
    · cases h
    · simp only [Option.some.injEq, Sum.inr.injEq, Prod.mk.injEq] at h
      obtain ⟨rfl, rfl⟩ := h
      refine ⟨by omega, by omega, ?_⟩
      rw [List.length_drop, List.length_take]
      omega

theorem exp_add (x : List UInt8) : (({ data := #[101, 120, 112, 101, 99, 116, 101, 100, 32, 39, 36, 39, 44, 32, 103, 111, 116, 32, 39] } ++ { data := x.toArray } : ByteArray) ++ { data := #[39] }) = ⟨(expB ++ x ++ [39]).toArray⟩ := by
  rw [show ({ data := #[101, 120, 112, 101, 99, 116, 101, 100, 32, 39, 36, 39, 44, 32, 103, 111, 116, 32, 39] } : ByteArray) = ⟨expB.toArray⟩ from rfl, ByteArray.mk_append_mk]
  exact ByteArray.mk_append_mk _ [39]

theorem shown_length (c : UInt8) : (shownS c).length = 1 := by unfold shownS; split <;> rfl

theorem ownsRow_below {w w' : World} {base : Nat} {e : TypeId} {size : Nat} {v : Value} {n : Nat} {xs : List Value} (h : w.ownsRow base e size v n xs) (hb : Below w.heap.size w w') : w'.ownsRow base e size v n xs := by
  refine ⟨h.1, ?_⟩
  rcases h.2 with h2 | ⟨g, cap, cur, hv, hg, hh, r⟩
  · exact .inl h2
  · refine .inr ⟨g, cap, cur, hv, hg, ?_, r⟩
    have hlt : g < w.heap.size := (Array.getElem?_eq_some_iff.1 hh).1
    rw [hb.block g hlt]; exact hh

theorem ownsRow_base {w : World} {base base' : Nat} {e : TypeId} {size : Nat} {v : Value} {n : Nat} {xs : List Value} (h : w.ownsRow base e size v n xs) (hb : base' ≤ base) : w.ownsRow base' e size v n xs := by
  refine ⟨h.1, ?_⟩
  rcases h.2 with h2 | ⟨g, cap, cur, hv, hg, hh, r⟩
  · exact .inl h2
  · exact .inr ⟨g, cap, cur, hv, by omega, hh, r⟩

theorem ownsRow_set {w : World} {base : Nat} {e : TypeId} {size : Nat} {v : Value} {n : Nat} {xs : List Value} (h : w.ownsRow base e size v n xs) (g : Nat) (hg : g < base) (j : Nat) (u : Value) : (w.setCell ⟨g, j, none⟩ u).ownsRow base e size v n xs :=
  ownsRow_setCell_below h hg u

theorem ownsRow_form {w : World} {base : Nat} {e : TypeId} {size : Nat} {v : Value} {n : Nat} {xs : List Value} (h : w.ownsRow base e size v n xs) : ∃ A c, v = .slice A n c := by
  rcases h.2 with ⟨h1, rfl⟩ | ⟨g, cap, cur, hv, _⟩
  · exact ⟨_, _, h1⟩
  · exact ⟨_, _, hv⟩

def strV (t : List UInt8) : Value := .string ⟨t.toArray⟩

/-- What a Found tells, in memory: its four parts. -/
def FndPost (w : World) (R : Fnd (List (List UInt8))) (e : Ending) (w' : World) : Prop :=
  Below w.heap.size w w' ∧ match R with
  | none => e = .returned (fndV 0 0 (.slice none 0 0) [])
  | some (.inl f) => e = .returned (fndV 2 0 (.slice none 0 0) f)
  | some (.inr (ws, n)) => ∃ v, e = .returned (fndV 1 n v []) ∧ w'.ownsRow w.heap.size 9 1 v ws.length (ws.map strV)

theorem info_str : (Tryd.prog.info? 9).map (fun i => (i.zero, i.size, i.bytes)) = some (some (.string ⟨#[]⟩), 1, 16) := by kernel_rfl

theorem bulkS_inr {l t : List UInt8} {nx : Nat} (h : bulkS l = some (.inr (t, nx))) : 3 ≤ nx ∧ nx ≤ l.length ∧ t.length ≤ 65536 := by
  unfold bulkS at h
  split at h
  · cases h
  · split at h
    · cases h
    · split at h
      · cases h
      · cases h
      · rename_i hh
        obtain ⟨a1, a2, a3⟩ := headS_inr hh
        split at h
        · cases h
        · split at h
          · cases h
          · split at h
            · cases h
            · simp only [Option.some.injEq, Sum.inr.injEq, Prod.mk.injEq] at h
              obtain ⟨rfl, rfl⟩ := h
              refine ⟨by omega, by omega, ?_⟩
              rw [List.length_take]
              omega

theorem bulksGo_step (l : List UInt8) (n at_ : Nat) (acc : List (List UInt8)) : bulksGo l (n + 1) at_ acc = (match bulkS (l.drop at_) with
    | none => none
    | some (.inl f) => some (.inl f)
    | some (.inr (t, nx)) => bulksGo l n (at_ + nx) (acc ++ [t])) := rfl

theorem blankS_iff (c : UInt8) : blankS c = true ↔ ((9 ≤ (c.toNat : Int) ∧ (c.toNat : Int) ≤ 13) ∨ (c.toNat : Int) = 32) := by
  unfold blankS
  simp
  omega

def hexI (c : UInt8) : Int := match hexS c with | some x => (x : Int) | none => -1

theorem hexS_lt {c : UInt8} {x : Nat} (h : hexS c = some x) : x < 16 := by
  unfold hexS at h
  split at h
  · simp only [Option.some.injEq] at h; omega
  · split at h
    · simp only [Option.some.injEq] at h; omega
    · split at h
      · simp only [Option.some.injEq] at h; omega
      · cases h

/-- What stands behind a backslash if it is no two digits. -/
def escD (c : UInt8) : UInt8 := if c = 110 then 10 else if c = 114 then 13 else if c = 116 then 9 else if c = 98 then 8 else if c = 97 then 7 else c

theorem escS_hex (a b : UInt8) (r : List UInt8) (x y : Nat) (ha : hexS a = some x) (hb : hexS b = some y) : escS (120 :: a :: b :: r) = (UInt8.ofNat (x * 16 + y), 4) := by
  simp [escS, ha, hb]

theorem escS_hexa (a b : UInt8) (r : List UInt8) (ha : hexS a = none) : escS (120 :: a :: b :: r) = (escD 120, 2) := by
  simp [escS, ha, escD]

theorem escS_hexb (a b : UInt8) (r : List UInt8) (x : Nat) (ha : hexS a = some x) (hb : hexS b = none) : escS (120 :: a :: b :: r) = (escD 120, 2) := by
  simp [escS, ha, hb, escD]

theorem escS_short (r : List UInt8) (h : r.length < 2) : escS (120 :: r) = (escD 120, 2) := by
  match r, h with
  | [], _ => rfl
  | [a], _ => rfl

theorem escS_other (c : UInt8) (r : List UInt8) (h : c ≠ 120) : escS (c :: r) = (escD c, 2) := by
  simp [escS, h, escD]

theorem escD_cases (c : UInt8) : (c = 110 ∧ escD c = 10) ∨ (c = 114 ∧ escD c = 13) ∨ (c = 116 ∧ escD c = 9) ∨ (c = 98 ∧ escD c = 8) ∨ (c = 97 ∧ escD c = 7) ∨ (c ≠ 110 ∧ c ≠ 114 ∧ c ≠ 116 ∧ c ≠ 98 ∧ c ≠ 97 ∧ escD c = c) := by
  unfold escD
  by_cases a : c = 110
  · simp [a]
  by_cases b : c = 114
  · simp [b]
  by_cases d : c = 116
  · simp [d]
  by_cases e : c = 98
  · simp [e]
  by_cases f : c = 97
  · simp [f]
  simp [a, b, d, e, f]

theorem neI {c k : UInt8} {x : Nat} (hx : c.toNat = x) (h : c ≠ k) : ((x : Int) == (k.toNat : Int)) = false := by
  rw [beq_eq_false_iff_ne]
  intro e
  apply h
  apply UInt8.toNat_inj.1
  omega

theorem drop_at (s : ByteArray) (k : Nat) (h : k < s.size) : s.data.toList.drop k = (s[k]'h) :: s.data.toList.drop (k + 1) := by
  have hl : k < s.data.toList.length := by rw [Array.length_toList]; exact h
  rw [List.drop_eq_getElem_cons hl]
  rfl

theorem info_u8 : (Tryd.prog.info? 5).map (fun i => (i.zero, i.size, i.bytes)) = some (some (.int .u8 0), 1, 1) := by kernel_rfl

/-- What a quoted part tells. -/
def QuotPost (w : World) (sz : Nat) (R : Option (List UInt8 × List UInt8)) (e : Ending) (w' : World) : Prop :=
  Below w.heap.size w w' ∧ match R with
  | none => e = .returned (.tuple #[.slice none 0 0, .int .i64 0, .bool false])
  | some (bs, r) => ∃ v, e = .returned (.tuple #[v, .int .i64 ((sz - r.length : Nat) : Int), .bool true]) ∧ w'.ownsRow w.heap.size 5 1 v bs.length (Lib.byteCells bs)

theorem drop_len (s : ByteArray) (k : Nat) (h : k ≤ s.size) : s.size - (s.data.toList.drop k).length = k := by
  rw [List.length_drop, Array.length_toList]
  show s.size - (s.size - k) = k
  omega

theorem drop_end (s : ByteArray) (k : Nat) (h : s.size ≤ k) : s.data.toList.drop k = [] := List.drop_eq_nil_of_le (by rw [Array.length_toList]; exact h)

theorem quotS_nil (q : UInt8) (f : Nat) (acc : List UInt8) : quotS q f [] acc = none := by cases f <;> rfl

theorem quotS_end (q : UInt8) (f : Nat) (r acc : List UInt8) : quotS q (f + 1) (q :: r) acc = some (acc, r) := by simp [quotS]

theorem quotS_esc (f : Nat) (r acc : List UInt8) : quotS 34 (f + 1) (92 :: r) acc = quotS 34 f ((92 :: r).drop (escS r).2) (acc ++ [(escS r).1]) := by
  rw [quotS, if_neg (by decide), if_pos ⟨rfl, rfl⟩]

theorem quotS_tick (f : Nat) (r acc : List UInt8) : quotS 39 (f + 1) (92 :: 39 :: r) acc = quotS 39 f r (acc ++ [39]) := by
  rw [quotS, if_neg (by decide), if_neg (by decide), if_pos ⟨rfl, rfl, rfl⟩]
  rfl

theorem quotS_back (f : Nat) (r acc : List UInt8) (h : r.head? ≠ some 39) : quotS 39 (f + 1) (92 :: r) acc = quotS 39 f r (acc ++ [92]) := by
  simp only [quotS]
  rw [if_neg (by decide), if_neg (by decide), if_neg (fun e => h e.2.2)]

theorem quotS_plain (q : UInt8) (f : Nat) (c : UInt8) (r acc : List UInt8) (h : c ≠ q) (h2 : c ≠ 92) : quotS q (f + 1) (c :: r) acc = quotS q f r (acc ++ [c]) := by
  simp only [quotS]
  rw [if_neg h, if_neg (fun e => h2 e.2), if_neg (fun e => h2 e.2.1)]

theorem escS_le (l : List UInt8) : 1 ≤ (escS l).2 ∧ (escS l).2 ≤ l.length + 1 := by
  cases l with
  | nil => exact ⟨by decide, by decide⟩
  | cons c r =>
    by_cases h : c = 120
    · subst h
      match r with
      | [] => exact ⟨by decide, by decide⟩
      | [a] => rw [escS_short [a] (by simp)]; simp
      | a :: b :: r =>
        cases ha : hexS a with
        | none => rw [escS_hexa a b r ha]; simp
        | some x =>
          cases hb : hexS b with
          | none => rw [escS_hexb a b r x ha hb]; simp
          | some y => rw [escS_hex a b r x y ha hb]; simp
    · rw [escS_other c r h]; simp

theorem bytes_snoc (l : List UInt8) (c : UInt8) : Lib.byteCells (l ++ [c]) = Lib.byteCells l ++ [Value.int .u8 (c.toNat : Int)] := by simp [Lib.byteCells]

theorem quotS_fuel (q : UInt8) : ∀ (n : Nat) (l acc : List UInt8) (f f' : Nat), l.length ≤ n → l.length < f → l.length < f' → quotS q f l acc = quotS q f' l acc := by
  intro n
  induction n with
  | zero =>
    intro l acc f f' hn _ _
    obtain rfl := List.length_eq_zero_iff.1 (Nat.le_zero.1 hn)
    rw [quotS_nil, quotS_nil]
  | succ n ih =>
    intro l acc f f' hn h h'
    match l, f, f', h, h' with
    | [], f, f', _, _ => rw [quotS_nil, quotS_nil]
    | c :: r, f + 1, f' + 1, h, h' =>
      simp only [List.length_cons] at hn h h'
      simp only [quotS]
      split
      · rfl
      · split
        · have he := escS_le r
          refine ih _ _ _ _ ?_ ?_ ?_ <;> (rw [List.length_drop, List.length_cons]; omega)
        · split
          · refine ih _ _ _ _ ?_ ?_ ?_ <;> (rw [List.length_drop]; omega)
          · exact ih _ _ _ _ (by omega) (by omega) (by omega)

theorem quotS_suffix (q : UInt8) : ∀ (f : Nat) (l acc p r : List UInt8), quotS q f l acc = some (p, r) → ∃ j, 1 ≤ j ∧ j ≤ l.length ∧ r = l.drop j ∧ p.length ≤ acc.length + j := by
  intro f
  induction f with
  | zero => intro l acc p r h; cases h
  | succ f ih =>
    intro l acc p r h
    match l with
    | [] => cases h
    | c :: l' =>
      simp only [quotS] at h
      split at h
      · simp only [Option.some.injEq, Prod.mk.injEq] at h
        obtain ⟨rfl, rfl⟩ := h
        exact ⟨1, by omega, by simp, rfl, by omega⟩
      · split at h
        · have he := escS_le l'
          obtain ⟨j, a, b, e, g⟩ := ih _ _ _ _ h
          rw [List.length_drop, List.length_cons] at b
          rw [List.length_append, List.length_singleton] at g
          exact ⟨(escS l').2 + j, by omega, by simp only [List.length_cons]; omega, by rw [e, List.drop_drop], by omega⟩
        · split at h
          · rename_i hh
            obtain ⟨j, a, b, e, g⟩ := ih _ _ _ _ h
            rw [List.length_drop] at b
            rw [List.length_append, List.length_singleton] at g
            refine ⟨2 + j, by omega, by simp only [List.length_cons]; omega, ?_, by omega⟩
            rw [e, List.drop_drop, show 2 + j = (1 + j) + 1 from by omega]
            rfl
          · obtain ⟨j, a, b, e, g⟩ := ih _ _ _ _ h
            rw [List.length_append, List.length_singleton] at g
            exact ⟨1 + j, by omega, by simp only [List.length_cons]; omega, by rw [e, show 1 + j = j + 1 from by omega]; rfl, by omega⟩

theorem wordGo_nil (f : Nat) (acc : List UInt8) : wordGo (f + 1) [] acc = some (acc, []) := rfl

theorem wordGo_blank (f : Nat) (c : UInt8) (r acc : List UInt8) (h : blankS c = true) : wordGo (f + 1) (c :: r) acc = some (acc, c :: r) := by
  rw [wordGo, if_pos h]

theorem wordGo_plain (f : Nat) (c : UInt8) (r acc : List UInt8) (h : blankS c = false) (h1 : c ≠ 34) (h2 : c ≠ 39) : wordGo (f + 1) (c :: r) acc = wordGo f r (acc ++ [c]) := by
  rw [wordGo, if_neg (by rw [h]; decide), if_neg (fun e => e.elim h1 h2)]

theorem wordGo_bad (f : Nat) (c : UInt8) (r acc : List UInt8) (h : c = 34 ∨ c = 39) (hq : quotS c (r.length + 1) r [] = none) : wordGo (f + 1) (c :: r) acc = none := by
  rw [wordGo, if_neg (by rcases h with rfl | rfl <;> decide), if_pos h, hq]

theorem wordGo_behind (f : Nat) (c : UInt8) (r acc p r' : List UInt8) (h : c = 34 ∨ c = 39) (hq : quotS c (r.length + 1) r [] = some (p, r')) (hb : r'.head?.any (fun x => !blankS x) = true) : wordGo (f + 1) (c :: r) acc = none := by
  rw [wordGo, if_neg (by rcases h with rfl | rfl <;> decide), if_pos h, hq]
  simp only [hb, if_true]

theorem wordGo_on (f : Nat) (c : UInt8) (r acc p r' : List UInt8) (h : c = 34 ∨ c = 39) (hq : quotS c (r.length + 1) r [] = some (p, r')) (hb : r'.head?.any (fun x => !blankS x) = false) : wordGo (f + 1) (c :: r) acc = wordGo f r' (acc ++ p) := by
  rw [wordGo, if_neg (by rcases h with rfl | rfl <;> decide), if_pos h, hq]
  simp only [hb, Bool.false_eq_true, if_false]

/-- An owned row of bytes as a string. -/
theorem conv_own (w : World) (base : Nat) (v : Value) (l : List UInt8) (h : w.ownsRow base 5 1 v l.length (Lib.byteCells l)) : (convert 23 9 v).run Tryd.prog w = .ok (.string ⟨l.toArray⟩) w := by
  rcases h.2 with ⟨hv, hn⟩ | ⟨g, cap, cur, hv, hg, hh, hn, hcap, hsz, htk⟩
  · subst hv
    obtain rfl := List.length_eq_zero_iff.1 hn
    rw [run_convert_bytes_string _ _ _ 5 _ _ _ Tryd.underlying23 Tryd.underlying5 Tryd.underlying9]
    rfl
  · subst hv
    refine conv_bytes w g 0 cap l fun j hj => ?_
    have hc := h.cells (g := g) rfl j (.int .u8 ((l.getD j 0).toNat : Int)) (by
      rw [Lib.byteCells, List.getElem?_map, List.getElem?_eq_getElem hj, List.getD_eq_getElem?_getD, List.getElem?_eq_getElem hj]
      rfl)
    rw [Go.WideShapes.add_plain] at hc
    exact hc

/-- What a word tells. -/
def wordV (sz : Nat) : Option (List UInt8 × List UInt8) → Value
  | none => .tuple #[.string ⟨#[]⟩, .int .i64 0, .bool false]
  | some (t, r) => .tuple #[.string ⟨t.toArray⟩, .int .i64 ((sz - r.length : Nat) : Int), .bool true]

theorem one_bytes (p : List UInt8) : ∀ u ∈ Lib.byteCells p, u.oneCell' = true := by
  intro u hu
  obtain ⟨c, _, rfl⟩ := List.mem_map.1 hu
  rfl

theorem byteCells_two (a b : List UInt8) : Lib.byteCells (a ++ b) = Lib.byteCells a ++ Lib.byteCells b := Lib.byteCells_append a b

theorem wordGo_suffix : ∀ (f : Nat) (l acc t r : List UInt8), wordGo f l acc = some (t, r) → ∃ j, j ≤ l.length ∧ r = l.drop j ∧ (∀ c x, l = c :: x → blankS c = false → 1 ≤ j) ∧ t.length ≤ acc.length + j := by
  intro f
  induction f with
  | zero => intro l acc t r h; cases h
  | succ f ih =>
    intro l acc t r h
    match l with
    | [] =>
      simp only [wordGo, Option.some.injEq, Prod.mk.injEq] at h
      obtain ⟨rfl, rfl⟩ := h
      exact ⟨0, by simp, rfl, fun c x e => (by cases e), by omega⟩
    | c :: l' =>
      cases hb : blankS c with
      | true =>
        rw [wordGo_blank f c l' acc hb] at h
        simp only [Option.some.injEq, Prod.mk.injEq] at h
        obtain ⟨rfl, rfl⟩ := h
        exact ⟨0, by simp, rfl, fun d x e hd => (by cases e; rw [hb] at hd; cases hd), by omega⟩
      | false =>
        by_cases hq : c = 34 ∨ c = 39
        · cases hQ : quotS c (l'.length + 1) l' [] with
          | none => rw [wordGo_bad f c l' acc hq hQ] at h; cases h
          | some pr =>
            obtain ⟨p, r'⟩ := pr
            obtain ⟨j, j1, j2, hr, hp⟩ := quotS_suffix c _ _ _ _ _ hQ
            rw [List.length_nil, Nat.zero_add] at hp
            cases hx : r'.head?.any (fun x => !blankS x) with
            | true => rw [wordGo_behind f c l' acc p r' hq hQ hx] at h; cases h
            | false =>
              rw [wordGo_on f c l' acc p r' hq hQ hx] at h
              obtain ⟨k, a, e, _, g⟩ := ih _ _ _ _ h
              rw [hr, List.length_drop] at a
              rw [List.length_append] at g
              refine ⟨j + k + 1, by simp only [List.length_cons]; omega, ?_, fun _ _ _ _ => (by omega), by omega⟩
              rw [e, hr, List.drop_drop]
              rfl
        · rw [wordGo_plain f c l' acc hb (fun e => hq (Or.inl e)) (fun e => hq (Or.inr e))] at h
          obtain ⟨k, a, e, _, g⟩ := ih _ _ _ _ h
          rw [List.length_append, List.length_singleton] at g
          exact ⟨k + 1, by simp only [List.length_cons]; omega, e, fun _ _ _ _ => (by omega), by omega⟩

theorem wordGo_fuel : ∀ (n : Nat) (l acc : List UInt8) (f f' : Nat), l.length ≤ n → l.length < f → l.length < f' → wordGo f l acc = wordGo f' l acc := by
  intro n
  induction n with
  | zero =>
    intro l acc f f' hn h h'
    obtain rfl := List.length_eq_zero_iff.1 (Nat.le_zero.1 hn)
    obtain ⟨f, rfl⟩ : ∃ g, f = g + 1 := ⟨f - 1, by omega⟩
    obtain ⟨f', rfl⟩ : ∃ g, f' = g + 1 := ⟨f' - 1, by omega⟩
    rfl
  | succ n ih =>
    intro l acc f f' hn h h'
    obtain ⟨f, rfl⟩ : ∃ g, f = g + 1 := ⟨f - 1, by omega⟩
    obtain ⟨f', rfl⟩ : ∃ g, f' = g + 1 := ⟨f' - 1, by omega⟩
    match l with
    | [] => rfl
    | c :: l' =>
      simp only [List.length_cons] at hn h h'
      cases hb : blankS c with
      | true => rw [wordGo_blank f c l' acc hb, wordGo_blank f' c l' acc hb]
      | false =>
        by_cases hq : c = 34 ∨ c = 39
        · cases hQ : quotS c (l'.length + 1) l' [] with
          | none => rw [wordGo_bad f c l' acc hq hQ, wordGo_bad f' c l' acc hq hQ]
          | some pr =>
            obtain ⟨p, r'⟩ := pr
            obtain ⟨j, j1, j2, hr, hp⟩ := quotS_suffix c _ _ _ _ _ hQ
            cases hx : r'.head?.any (fun x => !blankS x) with
            | true => rw [wordGo_behind f c l' acc p r' hq hQ hx, wordGo_behind f' c l' acc p r' hq hQ hx]
            | false =>
              rw [wordGo_on f c l' acc p r' hq hQ hx, wordGo_on f' c l' acc p r' hq hQ hx]
              refine ih _ _ _ _ ?_ ?_ ?_ <;> (rw [hr, List.length_drop]; omega)
        · rw [wordGo_plain f c l' acc hb (fun e => hq (Or.inl e)) (fun e => hq (Or.inr e)), wordGo_plain f' c l' acc hb (fun e => hq (Or.inl e)) (fun e => hq (Or.inr e))]
          exact ih _ _ _ _ (by omega) (by omega) (by omega)

theorem wordsGo_blank (f : Nat) (c : UInt8) (r : List UInt8) (acc : List (List UInt8)) (h : blankS c = true) : wordsGo (f + 1) (c :: r) acc = wordsGo f r acc := by rw [wordsGo, if_pos h]

theorem wordsGo_bad (f : Nat) (c : UInt8) (r : List UInt8) (acc : List (List UInt8)) (h : blankS c = false) (hw : wordGo ((c :: r).length + 1) (c :: r) [] = none) : wordsGo (f + 1) (c :: r) acc = none := by
  rw [wordsGo, if_neg (by rw [h]; decide), hw]

theorem wordsGo_on (f : Nat) (c : UInt8) (r t r' : List UInt8) (acc : List (List UInt8)) (h : blankS c = false) (hw : wordGo ((c :: r).length + 1) (c :: r) [] = some (t, r')) : wordsGo (f + 1) (c :: r) acc = wordsGo f r' (acc ++ [t]) := by
  rw [wordsGo, if_neg (by rw [h]; decide), hw]

/-- The text of a line. -/
def lineT (l : List UInt8) (i : Nat) : List UInt8 := if 0 < i ∧ l.getD (i - 1) 0 = 13 then l.take (i - 1) else l.take i

theorem lineS_eq {l : List UInt8} {i : Nat} (h : findL 10 l = some i) : lineS l = (match wordsGo (i + 1) (lineT l i) [] with
    | none => some (.inl (perrB ++ unbL))
    | some ws => if 1024 < ws.length then some (.inl (perrB ++ badM)) else some (.inr (ws, i + 1))) := by
  unfold lineS lineT
  rw [h]
  rfl

theorem extract_take (l : List UInt8) (i j : Nat) (h : j ≤ i) : (ByteArray.mk (l.take i).toArray).extract 0 j = ⟨(l.take j).toArray⟩ := by
  apply ByteArray.ext
  rw [ByteArray.data_extract]
  simp [List.extract_eq_take_drop, List.take_take, Nat.min_eq_left h]

/-- A row of requests of the call's own, each a row of texts of the call's own. -/
def OwnsReqs (w : World) (base : Nat) (v : Value) (L : List (List (List UInt8))) : Prop :=
  ∃ vs : List Value, vs.length = L.length ∧ w.ownsRow base 22 1 v L.length vs ∧ ∀ (i : Nat) (u : Value) (r : List (List UInt8)), vs[i]? = some u → L[i]? = some r → w.ownsRow base 9 1 u r.length (r.map strV)

theorem OwnsReqs.below {w w' : World} {base : Nat} {v : Value} {L : List (List (List UInt8))} (h : OwnsReqs w base v L) (hb : Below w.heap.size w w') : OwnsReqs w' base v L := by
  obtain ⟨vs, h1, h2, h3⟩ := h
  exact ⟨vs, h1, ownsRow_below h2 hb, fun i u r hu hr => ownsRow_below (h3 i u r hu hr) hb⟩

theorem own_ne {w : World} {base base' : Nat} {e e' : TypeId} {v v' : Value} {n n' : Nat} {xs xs' : List Value} (h : w.ownsRow base e 1 v n xs) (h' : w.ownsRow base' e' 1 v' n' xs') (hne : e ≠ e') : v.ownBlock = none ∨ v.ownBlock ≠ v'.ownBlock := by
  rcases h.2 with ⟨rfl, _⟩ | ⟨g, cap, cur, rfl, _, hh, _⟩
  · exact Or.inl rfl
  · right
    rcases h'.2 with ⟨rfl, _⟩ | ⟨g', cap', cur', rfl, _, hh', _⟩
    · intro e; cases e
    · intro e
      have : g = g' := by simpa [Value.ownBlock] using e
      subst this
      rw [hh] at hh'
      injection hh' with hh'
      injection hh' with _ ht
      exact hne ht

/-- One request more. -/
theorem OwnsReqs.more {w w' : World} {base : Nat} {v v' u : Value} {L : List (List (List UInt8))} {vs : List Value} {r : List (List UInt8)} (h1 : vs.length = L.length) (h3 : ∀ (i : Nat) (u : Value) (r : List (List UInt8)), vs[i]? = some u → L[i]? = some r → w.ownsRow base 9 1 u r.length (r.map strV))
    (hv : w.ownsRow base 22 1 v L.length vs) (hu : w.ownsRow base 9 1 u r.length (r.map strV)) (hn : w'.ownsRow base 22 1 v' (L.length + 1) (vs ++ [u])) (hg : w.grownBy w' v.ownBlock) : OwnsReqs w' base v' (L ++ [r]) := by
  refine ⟨vs ++ [u], by simp [h1], by rw [List.length_append]; exact hn, fun i x y hx hy => ?_⟩
  by_cases hi : i < L.length
  · rw [List.getElem?_append_left (by omega)] at hx
    rw [List.getElem?_append_left hi] at hy
    have hk := h3 i x y hx hy
    exact hk.kept hg (own_ne hk hv (by decide))
  · rw [List.getElem?_append_right (by omega), h1] at hx
    rw [List.getElem?_append_right (by omega)] at hy
    rcases Nat.lt_or_ge (i - L.length) 1 with h0 | h0
    · have h0 : i - L.length = 0 := by omega
      rw [h0] at hx hy
      simp at hx hy
      subst hx; subst hy
      exact hu.kept hg (own_ne hu hv (by decide))
    · rw [List.getElem?_eq_none (by simpa using h0)] at hx; cases hx

theorem bulksGo_le (l : List UInt8) : ∀ (n at_ : Nat) (acc ws : List (List UInt8)) (k : Nat), at_ ≤ l.length → bulksGo l n at_ acc = some (.inr (ws, k)) → at_ ≤ k ∧ k ≤ l.length := by
  intro n
  induction n with
  | zero =>
    intro at_ acc ws k hat h
    simp only [bulksGo, Option.some.injEq, Sum.inr.injEq, Prod.mk.injEq] at h
    obtain ⟨_, rfl⟩ := h
    exact ⟨Nat.le_refl _, hat⟩
  | succ n ih =>
    intro at_ acc ws k hat h
    rw [bulksGo_step] at h
    split at h
    · cases h
    · cases h
    · rename_i t nx hq
      obtain ⟨a, b, _⟩ := bulkS_inr hq
      rw [List.length_drop] at b
      obtain ⟨c, d⟩ := ih _ _ _ _ (by omega) h
      exact ⟨by omega, d⟩

theorem firstS_inr {l : List UInt8} {ws : List (List UInt8)} {k : Nat} (h : firstS l = some (.inr (ws, k))) : 1 ≤ k ∧ k ≤ l.length := by
  match l with
  | [] => cases h
  | c :: r =>
    simp only [firstS] at h
    split at h
    · unfold bulksS at h
      split at h
      · cases h
      · cases h
      · rename_i t nx hh
        obtain ⟨a, b, _⟩ := headS_inr hh
        split at h
        · cases h
        · split at h
          · cases h
          · obtain ⟨e, f⟩ := bulksGo_le _ _ _ _ _ _ b h
            exact ⟨by omega, f⟩
    · cases hf : findL 10 (c :: r) with
      | none => unfold lineS at h; rw [hf] at h; simp only at h; split at h <;> cases h
      | some i =>
        obtain ⟨a, _, _⟩ := findL_le hf
        rw [lineS_eq hf] at h
        split at h
        · cases h
        · split at h
          · cases h
          · simp only [Option.some.injEq, Sum.inr.injEq, Prod.mk.injEq] at h
            obtain ⟨_, rfl⟩ := h
            exact ⟨by omega, by omega⟩

theorem info_sl : (Tryd.prog.info? 22).map (fun i => (i.zero, i.size, i.bytes)) = some (some (.slice none 0 0), 1, 24) := by kernel_rfl

/-- What Split tells, in memory. -/
def SplitPost (w : World) (R : List (List (List UInt8)) × Nat × List UInt8) (e : Ending) (w' : World) : Prop :=
  Below w.heap.size w w' ∧ ∃ v, e = .returned (.tuple #[v, .int .i64 (R.2.1 : Int), .string ⟨R.2.2.toArray⟩]) ∧ OwnsReqs w' w.heap.size v R.1

theorem splitGo_none (f : Nat) (l : List UInt8) (n : Nat) (acc : List (List (List UInt8))) (h : firstS (l.drop n) = none) : splitGo (f + 1) l n acc = (acc, n, []) := by rw [splitGo, h]

theorem splitGo_inl (f : Nat) (l : List UInt8) (n : Nat) (acc : List (List (List UInt8))) (e : List UInt8) (h : firstS (l.drop n) = some (.inl e)) : splitGo (f + 1) l n acc = (acc, n, e) := by rw [splitGo, h]

theorem splitGo_inr (f : Nat) (l : List UInt8) (n : Nat) (acc : List (List (List UInt8))) (ws : List (List UInt8)) (k : Nat) (h : firstS (l.drop n) = some (.inr (ws, k))) : splitGo (f + 1) l n acc = splitGo f l (n + k) (if ws = [] then acc else acc ++ [ws]) := by rw [splitGo, h]

/-- A slice whose cells, one for each element, are these. -/
def SliceAt (w : World) (v : Value) (xs : List Value) : Prop := ∃ A c, v = .slice A xs.length c ∧ (xs ≠ [] → ∃ b o, A = some ⟨b, o, none⟩ ∧ ∀ j u, xs[j]? = some u → w.cell? ⟨b, o + j, none⟩ = some u)

def StrsAt (w : World) (v : Value) (ss : List (List UInt8)) : Prop := SliceAt w v (ss.map strV)

def ReqsAt (w : World) (v : Value) (L : List (List (List UInt8))) : Prop := ∃ vs : List Value, vs.length = L.length ∧ SliceAt w v vs ∧ ∀ (i : Nat) (u : Value) (r : List (List UInt8)), vs[i]? = some u → L[i]? = some r → StrsAt w u r

theorem SliceAt.drewN {w : World} {v : Value} {xs : List Value} (h : SliceAt w v xs) (q : Nat) : SliceAt (w.drewN q) v xs := h

theorem SliceAt.of_own {w : World} {base : Nat} {e : TypeId} {v : Value} {xs : List Value} (h : w.ownsRow base e 1 v xs.length xs) : SliceAt w v xs := by
  rcases h.2 with ⟨h1, h2⟩ | ⟨g, cap, cur, hv, _⟩
  · refine ⟨none, 0, by rw [h1, h2], fun hne => absurd (List.length_eq_zero_iff.1 h2) hne⟩
  · subst hv
    refine ⟨_, _, rfl, fun _ => ⟨g, 0, rfl, fun j u hu => ?_⟩⟩
    have := h.cells (g := g) rfl j u hu
    rwa [Go.WideShapes.add_plain] at this

end Go.Proofs.YtkaododohnncnaaDoor
