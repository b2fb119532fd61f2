/-
  Replies as trees, and where they lie in memory; what the document's reader tells of bytes. No condition.
-/
import Derived.Test.YtppbcdollomebaaDoorRdE
namespace Go.Proofs.YtppbcdollomebaaDoor
open Go.RowKit

/-- A reply: its kind, text, number, list. -/
inductive RT where
  | node (k : Nat) (t : List UInt8) (n : Int) (l : List RT)

def rt0 : RT := .node 0 [] 0 []

/-- Four values read as a reply; the rows of its lists lie in blocks of P. -/
inductive RepAt (w : World) (P : Nat → Prop) : RT → List Value → Prop
  | leaf (k : Nat) (t : List UInt8) (n : Int) (T : ByteArray) (hT : T.data.toList = t) : RepAt w P (.node k t n []) [.int .i64 k, .string T, .int .i64 n, .slice none 0 0]
  | row (k : Nat) (t : List UInt8) (n : Int) (l : List RT) (T : ByteArray) (g o c : Nat) (css : Nat → List Value) (hT : T.data.toList = t) (hl : l.length ≤ c) (hm : c ≤ 9223372036854775807) (hP : P g) (hg : g < w.heap.size)
      (h4 : ∀ j, j < l.length → (css j).length = 4) (hcell : ∀ j f, j < l.length → f < 4 → w.cell? ⟨g, o + j * 4 + f, none⟩ = (css j)[f]?)
      (hc : ∀ j x, l[j]? = some x → RepAt w P x (css j)) : RepAt w P (.node k t n l) [.int .i64 k, .string T, .int .i64 n, .slice (some ⟨g, o, none⟩) l.length c]

theorem RepAt.keep {w w' : World} {P Q : Nat → Prop} {x : RT} {cs : List Value} (h : RepAt w P x cs) (hs : w.heap.size ≤ w'.heap.size) (hQ : ∀ g, P g → g < w.heap.size → Q g) (hk : ∀ g, P g → g < w.heap.size → w'.heap[g]? = w.heap[g]?) : RepAt w' Q x cs := by
  induction h with
  | leaf k t n T hT => exact .leaf k t n T hT
  | row k t n l T g o c css hT hl hm hP hg h4 hcell hc ih =>
    exact .row k t n l T g o c css hT hl hm (hQ g hP hg) (Nat.lt_of_lt_of_le hg hs) h4 (fun j f hj hf => (World.cell?_of_block (w := w) (a := ⟨g, o + j * 4 + f, none⟩) (hk g hP hg)).trans (hcell j f hj hf)) (fun j x hx => ih j x hx)

theorem RepAt.weak {w : World} {P Q : Nat → Prop} {x : RT} {cs : List Value} (h : RepAt w P x cs) (hQ : ∀ g, P g → g < w.heap.size → Q g) : RepAt w Q x cs := h.keep (Nat.le_refl _) hQ (fun _ _ _ => rfl)

/-- Such values, one by one. -/
theorem RepAt.form {w : World} {P : Nat → Prop} {k : Nat} {t : List UInt8} {n : Int} {l : List RT} {cs : List Value} (h : RepAt w P (.node k t n l) cs) :
    ∃ (T : ByteArray) (A : Option Addr) (c : Nat), cs = [.int .i64 k, .string T, .int .i64 n, .slice A l.length c] ∧ T.data.toList = t ∧ l.length ≤ 9223372036854775807 ∧ ∀ (j : Nat) (x : RT), l[j]? = some x → ∃ (g o : Nat) (v0 v1 v2 v3 : Value), A = some ⟨g, o, none⟩ ∧ g < w.heap.size ∧
      (w.cell? ⟨g, o + j * 4, none⟩ = some v0 ∧ w.cell? ⟨g, o + j * 4 + 1, none⟩ = some v1 ∧ w.cell? ⟨g, o + j * 4 + 2, none⟩ = some v2 ∧ w.cell? ⟨g, o + j * 4 + 3, none⟩ = some v3) ∧ RepAt w P x [v0, v1, v2, v3] := by
  cases h with
  | leaf _ _ _ T hT => exact ⟨T, none, 0, rfl, hT, by simp, fun j x hx => by simp at hx⟩
  | row _ _ _ _ T g o c css hT hl hm hP hg h4 hcell hc =>
    refine ⟨T, _, c, rfl, hT, by omega, fun j x hx => ?_⟩
    have hj : j < l.length := (List.getElem?_eq_some_iff.1 hx).1
    have h4j := h4 j hj
    have hcx := hc j x hx
    have hcj := fun f hf => hcell j f hj hf
    obtain ⟨v0, v1, v2, v3, hv⟩ : ∃ v0 v1 v2 v3, css j = [v0, v1, v2, v3] := by
      match css j, h4j with
      | [a, b, c, d], _ => exact ⟨a, b, c, d, rfl⟩
    rw [hv] at hcx hcj
    exact ⟨g, o, v0, v1, v2, v3, rfl, hg, ⟨hcj 0 (by decide), hcj 1 (by decide), hcj 2 (by decide), hcj 3 (by decide)⟩, hcx⟩

/-- The rows lie in blocks that there were. -/
theorem RepAt.old {w : World} {P : Nat → Prop} {x : RT} {cs : List Value} (h : RepAt w P x cs) : RepAt w (fun g => P g ∧ g < w.heap.size) x cs := h.weak fun _ h1 h2 => ⟨h1, h2⟩

/-- So many replies, one behind the other, as long as there is no fault. -/
def timesS (f : Nat → RT × (Nat × Nat)) : Nat → (Nat × Nat) → List RT × (Nat × Nat)
  | 0, s => ([], s)
  | n + 1, s => if s.2 = 0 then ((f s.1).1 :: (timesS f n (f s.1).2).1, (timesS f n (f s.1).2).2) else ([], s)

/-- The document's array behind its mark. -/
def arrayS (f : Nat → RT × (Nat × Nat)) (bs : List UInt8) (i : Nat) : RT × (Nat × Nat) :=
  if (endS bs (countS bs 131072 (i, 0)).2).2 ≠ 0 ∨ (countS bs 131072 (i, 0)).1 < 0 then (.node 7 [] 0 [], endS bs (countS bs 131072 (i, 0)).2)
  else (.node 6 [] 0 (timesS f (countS bs 131072 (i, 0)).1.toNat (endS bs (countS bs 131072 (i, 0)).2)).1, (timesS f (countS bs 131072 (i, 0)).1.toNat (endS bs (countS bs 131072 (i, 0)).2)).2)

/-- The document's reply, where so many arrays more may stand in one another. -/
def replyS (bs : List UInt8) : Nat → Nat → RT × (Nat × Nat)
  | left, i =>
    if bs.length ≤ i then (rt0, (i, 31))
    else if (bs.getD i 0).toNat = 43 then (.node 1 (textB bs (i + 1)) 0 [], textS bs (i + 1))
    else if (bs.getD i 0).toNat = 45 then (.node 2 (textB bs (i + 1)) 0 [], textS bs (i + 1))
    else if (bs.getD i 0).toNat = 58 then (.node 3 [] (integerS bs (i + 1, 0)).1 [], endS bs (integerS bs (i + 1, 0)).2)
    else if (bs.getD i 0).toNat = 36 then (.node (dblkS bs (i + 1)).1.1 (dblkS bs (i + 1)).1.2 0 [], (dblkS bs (i + 1)).2)
    else if (bs.getD i 0).toNat = 42 then
      match left with
      | 0 => (.node 7 [] 0 [], flatS bs i)
      | l + 1 => arrayS (replyS bs l) bs (i + 1)
    else (rt0, (i, 30))

theorem replyS_eq (bs : List UInt8) (left i c : Nat) (hl : ¬ bs.length ≤ i) (hc : (bs.getD i 0).toNat = c) : replyS bs left i =
    if c = 43 then (.node 1 (textB bs (i + 1)) 0 [], textS bs (i + 1))
    else if c = 45 then (.node 2 (textB bs (i + 1)) 0 [], textS bs (i + 1))
    else if c = 58 then (.node 3 [] (integerS bs (i + 1, 0)).1 [], endS bs (integerS bs (i + 1, 0)).2)
    else if c = 36 then (.node (dblkS bs (i + 1)).1.1 (dblkS bs (i + 1)).1.2 0 [], (dblkS bs (i + 1)).2)
    else if c = 42 then
      match left with
      | 0 => (.node 7 [] 0 [], flatS bs i)
      | l + 1 => arrayS (replyS bs l) bs (i + 1)
    else (rt0, (i, 30)) := by
  rw [replyS.eq_def]
  simp only []
  rw [if_neg hl, hc]
theorem replyS_short (bs : List UInt8) (left i : Nat) (hl : bs.length ≤ i) : replyS bs left i = (rt0, (i, 31)) := by
  rw [replyS.eq_def]
  simp only []
  rw [if_pos hl]

/-- What the document's reply or array has told. -/
def DPost (w : World) (R : Nat) (A : Option Addr) (b o cap : Nat) (bs : List UInt8) (x : RT × (Nat × Nat)) (en : Ending) (w' : World) : Prop :=
  ∃ (k : Nat) (T : ByteArray) (n : Int) (A' : Option Addr) (l c : Nat), en = .returned (.agg #[.int .i64 k, .string T, .int .i64 n, .slice A' l c]) ∧
    (x.2.2 = 0 → RepAt w' (fun g => w.heap.size ≤ g) x.1 [.int .i64 k, .string T, .int .i64 n, .slice A' l c]) ∧ Went w R A b o cap bs x.2 w'

theorem textS_ok {bs : List UInt8} {i : Nat} (h : (textS bs i).2 = 0) : (scanL 0 (bs.drop i)).2 = 0 := by
  unfold textS at h
  by_cases h0 : (scanL 0 (bs.drop i)).2 = 0
  · exact h0
  · rw [if_neg h0] at h; exact h

end Go.Proofs.YtppbcdollomebaaDoor
