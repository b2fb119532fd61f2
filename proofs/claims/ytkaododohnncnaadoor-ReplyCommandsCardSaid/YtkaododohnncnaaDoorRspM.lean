/-
  Plain words for the requests of layer 2: what stands at the beginning of some bytes (firstS), all of them (splitS). No program, no condition.
-/
import Derived.Test.YtkaododohnncnaaDoorNumM
namespace Go.Proofs.YtkaododohnncnaaDoor

/-- What stands at a place: none: more is waited for; inl: a fault; inr: it, and how many bytes it has. -/
abbrev Fnd (α : Type) := Option (List UInt8 ⊕ (α × Nat))

/-- "Protocol error: " -/
def perrB : List UInt8 := [80, 114, 111, 116, 111, 99, 111, 108, 32, 101, 114, 114, 111, 114, 58, 32]
def bigM : List UInt8 := [116, 111, 111, 32, 98, 105, 103, 32, 109, 98, 117, 108, 107, 32, 99, 111, 117, 110, 116, 32, 115, 116, 114, 105, 110, 103]
def bigB : List UInt8 := [116, 111, 111, 32, 98, 105, 103, 32, 98, 117, 108, 107, 32, 99, 111, 117, 110, 116, 32, 115, 116, 114, 105, 110, 103]
def badM : List UInt8 := [105, 110, 118, 97, 108, 105, 100, 32, 109, 117, 108, 116, 105, 98, 117, 108, 107, 32, 108, 101, 110, 103, 116, 104]
def badB : List UInt8 := [105, 110, 118, 97, 108, 105, 100, 32, 98, 117, 108, 107, 32, 108, 101, 110, 103, 116, 104]
def expB : List UInt8 := [101, 120, 112, 101, 99, 116, 101, 100, 32, 39, 36, 39, 44, 32, 103, 111, 116, 32, 39]
def bigL : List UInt8 := [116, 111, 111, 32, 98, 105, 103, 32, 105, 110, 108, 105, 110, 101, 32, 114, 101, 113, 117, 101, 115, 116]
def unbL : List UInt8 := [117, 110, 98, 97, 108, 97, 110, 99, 101, 100, 32, 113, 117, 111, 116, 101, 115, 32, 105, 110, 32, 114, 101, 113, 117, 101, 115, 116]

/-- The place of a byte, among so many, counted from k. -/
def findF (c : UInt8) : Nat → List UInt8 → Nat → Option Nat
  | 0, _, _ => none
  | _ + 1, [], _ => none
  | f + 1, x :: r, k => if x = c then some k else findF c f r (k + 1)
def findL (c : UInt8) (l : List UInt8) : Option Nat := findF c 65536 l 0

theorem findF_some : ∀ (c : UInt8) (f : Nat) (l : List UInt8) (k i : Nat), findF c f l k = some i → k ≤ i ∧ i < k + f ∧ i < k + l.length ∧ l.getD (i - k) 0 = c
  | c, 0, _, _, _, h => by simp [findF] at h
  | c, f + 1, [], _, _, h => by simp [findF] at h
  | c, f + 1, x :: r, k, i, h => by
    simp only [findF] at h
    split at h
    · rename_i hx
      simp only [Option.some.injEq] at h
      subst h
      refine ⟨by omega, by omega, by simp, ?_⟩
      rw [Nat.sub_self]
      exact hx
    · obtain ⟨h1, h2, h3, h4⟩ := findF_some c f r (k + 1) i h
      refine ⟨by omega, by omega, by simp only [List.length_cons]; omega, ?_⟩
      rw [show i - k = (i - (k + 1)) + 1 from by omega]
      exact h4
theorem findF_step (c : UInt8) (f k : Nat) (l : List UInt8) (j : Nat) (h : j < l.length) : findF c (f + 1) (l.drop j) k = if l.getD j 0 = c then some k else findF c f (l.drop (j + 1)) (k + 1) := by
  rw [List.drop_eq_getElem_cons h, findF]
  simp [List.getD, h]
theorem findF_end (c : UInt8) (f k : Nat) (l : List UInt8) : findF c f (l.drop l.length) k = none := by
  cases f <;> simp [findF]

/-- The text behind a byte, up to the next byte 13. -/
def headS (big l : List UInt8) : Fnd (List UInt8) :=
  match findL 13 l with
  | none => if 65536 < l.length then some (.inl (perrB ++ big)) else none
  | some k => if l.length ≤ k + 1 then none else some (.inr ((l.take k).drop 1, k + 2))

def shownS (c : UInt8) : List UInt8 := if c.toNat < 32 ∨ 126 < c.toNat then [46] else [c]

/-- One bulk. -/
def bulkS (l : List UInt8) : Fnd (List UInt8) :=
  match l with
  | [] => none
  | c :: r =>
    if c ≠ 36 then some (.inl (perrB ++ (expB ++ shownS c ++ [39])))
    else match headS bigB (c :: r) with
      | none => none
      | some (.inl f) => some (.inl f)
      | some (.inr (t, nx)) =>
        match parseV t with
        | none => some (.inl (perrB ++ badB))
        | some n => if n < 0 ∨ 65536 < n then some (.inl (perrB ++ badB))
          else if (c :: r).length - nx < n.toNat + 2 then none else some (.inr (((c :: r).drop nx).take n.toNat, nx + n.toNat + 2))

/-- So many of them, from a place on. -/
def bulksGo (l : List UInt8) : Nat → Nat → List (List UInt8) → Fnd (List (List UInt8))
  | 0, at_, acc => some (.inr (acc, at_))
  | n + 1, at_, acc =>
    match bulkS (l.drop at_) with
    | none => none
    | some (.inl f) => some (.inl f)
    | some (.inr (t, nx)) => bulksGo l n (at_ + nx) (acc ++ [t])

/-- A row of bulks. -/
def bulksS (l : List UInt8) : Fnd (List (List UInt8)) :=
  match headS bigM l with
  | none => none
  | some (.inl f) => some (.inl f)
  | some (.inr (t, nx)) =>
    match parseV t with
    | none => some (.inl (perrB ++ badM))
    | some n => if 1024 < n then some (.inl (perrB ++ badM)) else bulksGo l n.toNat nx []

def blankS (c : UInt8) : Bool := (9 ≤ c.toNat && c.toNat ≤ 13) || c.toNat == 32

/-- A digit of base 16. -/
def hexS (c : UInt8) : Option Nat :=
  if 48 ≤ c.toNat ∧ c.toNat ≤ 57 then some (c.toNat - 48) else if 97 ≤ c.toNat ∧ c.toNat ≤ 102 then some (c.toNat - 97 + 10) else if 65 ≤ c.toNat ∧ c.toNat ≤ 70 then some (c.toNat - 65 + 10) else none

/-- What stands behind a backslash: the byte, and how many bytes it has, the backslash among them. -/
def escS : List UInt8 → UInt8 × Nat
  | [] => (92, 1)
  | c :: r =>
    match (if c = 120 then (match r with
      | a :: b :: _ => (match hexS a, hexS b with | some x, some y => some (UInt8.ofNat (x * 16 + y)) | _, _ => none)
      | _ => none) else none) with
    | some v => (v, 4)
    | none => (if c = 110 then 10 else if c = 114 then 13 else if c = 116 then 9 else if c = 98 then 8 else if c = 97 then 7 else c, 2)

/-- A quoted part, behind its first quote: its bytes, and what stands behind its end. -/
def quotS (q : UInt8) : Nat → List UInt8 → List UInt8 → Option (List UInt8 × List UInt8)
  | 0, _, _ => none
  | _ + 1, [], _ => none
  | f + 1, c :: r, acc =>
    if c = q then some (acc, r)
    else if q = 34 ∧ c = 92 then quotS q f ((c :: r).drop (escS r).2) (acc ++ [(escS r).1])
    else if q = 39 ∧ c = 92 ∧ r.head? = some 39 then quotS q f (r.drop 1) (acc ++ [39])
    else quotS q f r (acc ++ [c])

/-- A word: its bytes, and what stands behind it. -/
def wordGo : Nat → List UInt8 → List UInt8 → Option (List UInt8 × List UInt8)
  | 0, _, _ => none
  | _ + 1, [], acc => some (acc, [])
  | f + 1, c :: r, acc =>
    if blankS c then some (acc, c :: r)
    else if c = 34 ∨ c = 39 then
      (match quotS c (r.length + 1) r [] with
      | none => none
      | some (p, r') => if r'.head?.any (fun x => !blankS x) then none else wordGo f r' (acc ++ p))
    else wordGo f r (acc ++ [c])

/-- The words of a line. -/
def wordsGo : Nat → List UInt8 → List (List UInt8) → Option (List (List UInt8))
  | 0, _, _ => none
  | _ + 1, [], acc => some acc
  | f + 1, c :: r, acc =>
    if blankS c then wordsGo f r acc
    else match wordGo ((c :: r).length + 1) (c :: r) [] with
      | none => none
      | some (w, r') => wordsGo f r' (acc ++ [w])

def lineS (l : List UInt8) : Fnd (List (List UInt8)) :=
  match findL 10 l with
  | none => if 65536 < l.length then some (.inl (perrB ++ bigL)) else none
  | some i =>
    match wordsGo (i + 1) (if 0 < i ∧ l.getD (i - 1) 0 = 13 then l.take (i - 1) else l.take i) [] with
    | none => some (.inl (perrB ++ unbL))
    | some ws => if 1024 < ws.length then some (.inl (perrB ++ badM)) else some (.inr (ws, i + 1))

def firstS (l : List UInt8) : Fnd (List (List UInt8)) :=
  match l with
  | [] => none
  | c :: r => if c = 42 then bulksS (c :: r) else lineS (c :: r)

/-- All requests: them, how many bytes, the fault. -/
def splitGo : Nat → List UInt8 → Nat → List (List (List UInt8)) → List (List (List UInt8)) × Nat × List UInt8
  | 0, _, n, acc => (acc, n, [])
  | f + 1, l, n, acc =>
    match firstS (l.drop n) with
    | none => (acc, n, [])
    | some (.inl e) => (acc, n, e)
    | some (.inr (ws, k)) => splitGo f l (n + k) (if ws = [] then acc else acc ++ [ws])
def splitS (l : List UInt8) : List (List (List UInt8)) × Nat × List UInt8 := splitGo (l.length + 1) l 0 []

end Go.Proofs.YtkaododohnncnaaDoor
