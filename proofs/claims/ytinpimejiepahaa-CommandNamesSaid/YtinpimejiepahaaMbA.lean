/-
  Plain theory of sets of texts as rising rows: what putting one in makes, that the members tell the row. No program's code.
-/
import Derived.Test.YtinpimejiepahaaRows
import Derived.Sort.Walk0
import Derived.Lib.Bytealg
import Derived.Lib.SlicesCompact
namespace Go.Proofs.Ytinpimejiepahaa

abbrev Tx := List UInt8

theorem u8lex_trans {x y z : List UInt8} (h : x < y) (k : y < z) : x < z := List.lt_trans h k

theorem u8lex_or : ∀ {x y : List UInt8}, x < y ∨ x = y ∨ y < x
  | [], [] => Or.inr (Or.inl rfl)
  | [], b :: y => Or.inl (List.nil_lt_cons b y)
  | a :: x, [] => Or.inr (Or.inr (List.nil_lt_cons a x))
  | a :: x, b :: y => by
    rcases UInt8.lt_or_lt_of_ne (a := a) (b := b) |> fun h => (Classical.em (a = b)) with h | h
    · subst h
      rcases u8lex_or (x := x) (y := y) with h1 | h1 | h1
      · exact Or.inl (List.cons_lt_cons_iff.2 (Or.inr ⟨rfl, h1⟩))
      · exact Or.inr (Or.inl (by rw [h1]))
      · exact Or.inr (Or.inr (List.cons_lt_cons_iff.2 (Or.inr ⟨rfl, h1⟩)))
    · rcases UInt8.lt_or_lt_of_ne h with h1 | h1
      · exact Or.inl (List.cons_lt_cons_iff.2 (Or.inl h1))
      · exact Or.inr (Or.inr (List.cons_lt_cons_iff.2 (Or.inl h1)))
/-- Rising, each once. -/
abbrev Ris (l : List Tx) : Prop := l.Pairwise fun a b => a < b

theorem tx_irrefl (a : Tx) : ¬ a < a := List.lt_irrefl a
theorem tx_asymm {a b : Tx} (h : a < b) : ¬ b < a := fun k => tx_irrefl a (u8lex_trans h k)
theorem tx_ge {a b : Tx} (h : ¬ a < b) : a = b ∨ b < a := by
  rcases u8lex_or (x := a) (y := b) with q | q | q
  · exact absurd q h
  · exact Or.inl q
  · exact Or.inr q

/-- How many stand below a text. -/
def belowN (s : List Tx) (x : Tx) : Nat := (s.takeWhile fun y => decide (y < x)).length
/-- The document's put. -/
def putX (s : List Tx) (x : Tx) : List Tx := if s[belowN s x]? = some x then s else s.take (belowN s x) ++ x :: s.drop (belowN s x)

theorem belowN_le (s : List Tx) (x : Tx) : belowN s x ≤ s.length := (List.takeWhile_prefix _).length_le

theorem belowN_iff {s : List Tx} (h : Ris s) (x : Tx) {j : Nat} {y : Tx} (hy : s[j]? = some y) : y < x ↔ j < belowN s x := by
  induction s generalizing j with
  | nil => simp at hy
  | cons a s ih =>
    obtain ⟨h1, h2⟩ := List.pairwise_cons.1 h
    unfold belowN
    rw [List.takeWhile_cons]
    by_cases ha : a < x
    · rw [if_pos (by simpa using ha)]
      rcases j with _ | j
      · simp at hy
        subst hy
        simp [ha]
      · rw [List.getElem?_cons_succ] at hy
        rw [ih h2 hy]
        simp [belowN]
    · rw [if_neg (by simpa using ha)]
      simp only [List.length_nil, Nat.not_lt_zero, iff_false]
      intro hlt
      rcases j with _ | j
      · simp at hy
        subst hy
        exact ha hlt
      · rw [List.getElem?_cons_succ] at hy
        exact ha (u8lex_trans (h1 y (List.mem_of_getElem? hy)) hlt)

theorem putX_mem {s : List Tx} {x y : Tx} : y ∈ putX s x ↔ y = x ∨ y ∈ s := by
  unfold putX
  split
  · rename_i h
    constructor
    · exact Or.inr
    · rintro (e | e)
      · rw [e]; exact List.mem_of_getElem? h
      · exact e
  · rw [List.mem_append, List.mem_cons]
    have q : y ∈ s ↔ y ∈ s.take (belowN s x) ∨ y ∈ s.drop (belowN s x) := by
      conv => lhs; rw [← List.take_append_drop (belowN s x) s]
      exact List.mem_append
    rw [q]
    constructor
    · rintro (e | e | e)
      · exact Or.inr (Or.inl e)
      · exact Or.inl e
      · exact Or.inr (Or.inr e)
    · rintro (e | e | e)
      · exact Or.inr (Or.inl e)
      · exact Or.inl e
      · exact Or.inr (Or.inr e)

theorem putX_ris {s : List Tx} (h : Ris s) (x : Tx) : Ris (putX s x) := by
  unfold putX
  split
  · exact h
  · rename_i hne
    refine List.pairwise_append.2 ⟨h.sublist (List.take_sublist _ _), List.pairwise_cons.2 ⟨fun y hy => ?_, h.sublist (List.drop_sublist _ _)⟩, fun a ha b hb => ?_⟩
    · obtain ⟨j, hj⟩ := List.mem_iff_getElem?.1 hy
      rw [List.getElem?_drop] at hj
      have h1 : ¬ y < x := fun e => by
        have := (belowN_iff h x hj).1 e
        omega
      rcases tx_ge h1 with e | e
      · subst e
        rcases j with _ | j
        · rw [Nat.add_zero] at hj
          exact absurd hj hne
        · have hk : belowN s y < s.length := by
            have := (List.getElem?_eq_some_iff.1 hj).1
            omega
          have hz : s[belowN s y]? = some s[belowN s y] := List.getElem?_eq_getElem hk
          have h2 : ¬ s[belowN s y] < y := fun e => by
            have := (belowN_iff h y hz).1 e
            omega
          obtain ⟨l2, e2⟩ := List.getElem?_eq_some_iff.1 hj
          have h3 := List.pairwise_iff_getElem.1 h (belowN s y) (belowN s y + (j + 1)) hk l2 (by omega)
          rw [e2] at h3
          exact absurd h3 h2
      · exact e
    · obtain ⟨i, hi⟩ := List.mem_iff_getElem?.1 ha
      rw [List.getElem?_take] at hi
      split at hi
      · rename_i hlt
        have h1 := (belowN_iff h x hi).2 hlt
        rcases List.mem_cons.1 hb with rfl | hb
        · exact h1
        · obtain ⟨j, hj⟩ := List.mem_iff_getElem?.1 hb
          rw [List.getElem?_drop] at hj
          have h2 : ¬ b < x := fun e => by
            have := (belowN_iff h x hj).1 e
            omega
          rcases tx_ge h2 with e | e
          · rw [e]; exact h1
          · exact u8lex_trans h1 e
      · cases hi

/-- Two rising rows of the same members are one. -/
theorem Ris.unique {s t : List Tx} (hs : Ris s) (ht : Ris t) (h : ∀ x, x ∈ s ↔ x ∈ t) : s = t := by
  refine List.Perm.eq_of_pairwise (fun a b _ _ h1 h2 => absurd h2 (tx_asymm h1)) hs ht ?_
  have nd : ∀ {l : List Tx}, Ris l → l.Nodup := fun {l} hl => by
    refine List.Pairwise.imp ?_ hl
    intro a b hab e
    subst e
    exact tx_irrefl a hab
  have n1 := nd hs
  have n2 := nd ht
  exact (List.perm_ext_iff_of_nodup n1 n2).2 h

/-- The set of some texts, put in one by one. -/
def ofX (s l : List Tx) : List Tx := l.foldl putX s
theorem ofX_cons (s : List Tx) (x : Tx) (l : List Tx) : ofX s (x :: l) = ofX (putX s x) l := rfl
theorem ofX_snoc (s l : List Tx) (x : Tx) : ofX s (l ++ [x]) = putX (ofX s l) x := by unfold ofX; rw [List.foldl_append]; rfl
theorem ofX_ris {s : List Tx} (h : Ris s) (l : List Tx) : Ris (ofX s l) := by
  induction l generalizing s with
  | nil => exact h
  | cons x l ih => exact ih (putX_ris h x)
theorem ofX_mem {s l : List Tx} {y : Tx} : y ∈ ofX s l ↔ y ∈ s ∨ y ∈ l := by
  induction l generalizing s with
  | nil => simp [ofX]
  | cons x l ih =>
    rw [ofX_cons, ih, putX_mem, List.mem_cons]
    constructor
    · rintro ((e | e) | e)
      · exact Or.inr (Or.inl e)
      · exact Or.inl e
      · exact Or.inr (Or.inr e)
    · rintro (e | e | e)
      · exact Or.inl (Or.inr e)
      · exact Or.inl (Or.inl e)
      · exact Or.inr e

theorem Ris.filter {s : List Tx} (h : Ris s) (p : Tx → Bool) : Ris (s.filter p) := h.sublist List.filter_sublist
/-- Union of rising rows hangs on their members alone. -/
theorem ofX_perm {l m : List Tx} (h : ∀ x, x ∈ l ↔ x ∈ m) : ofX [] l = ofX [] m :=
  Ris.unique (ofX_ris List.Pairwise.nil l) (ofX_ris List.Pairwise.nil m) (fun x => by rw [ofX_mem, ofX_mem, h])
/-- A rising row is the set of its own members. -/
theorem ofX_self {s : List Tx} (h : Ris s) : ofX [] s = s := Ris.unique (ofX_ris List.Pairwise.nil s) h (fun x => by rw [ofX_mem]; simp)

/-! ### a row in order, of which alike neighbours are taken out -/

theorem le_of_not_lt {a b : Tx} (h : ¬ b < a) : a = b ∨ a < b := by
  rcases u8lex_or (x := a) (y := b) with q | q | q
  · exact Or.inr q
  · exact Or.inl q
  · exact absurd q h

theorem u8_le_iff {a b : Tx} : a ≤ b ↔ ¬ b < a := Iff.rfl

theorem sort_le (l : List Tx) : (l.mergeSort fun x y => decide (x ≤ y)).Pairwise fun a b => ¬ b < a := by
  have h := List.pairwise_mergeSort (le := fun (x y : Tx) => decide (x ≤ y)) (fun a b c h1 h2 => by
    simp only [decide_eq_true_eq, u8_le_iff] at *
    intro h3
    rcases le_of_not_lt h1 with rfl | q
    · exact h2 h3
    · exact h2 (u8lex_trans h3 q)) (fun a b => by
    simp only [Bool.or_eq_true, decide_eq_true_eq, u8_le_iff]
    by_cases q : b < a
    · exact Or.inr (tx_asymm q)
    · exact Or.inl q) l
  exact h.imp fun {a b} h => u8_le_iff.1 (of_decide_eq_true h)

theorem compactUpTo_inv {d : Array Tx} (hd : ∀ i j, i < j → j < d.size → ¬ d[j]! < d[i]!) : ∀ m, m ≤ d.size → Ris (Lib.compactUpTo d m) ∧ ∀ x, x ∈ Lib.compactUpTo d m ↔ ∃ j, j < m ∧ d[j]! = x
  | 0, _ => ⟨List.Pairwise.nil, fun x => ⟨fun h => absurd h (List.not_mem_nil (a := x)), fun ⟨j, hj, _⟩ => absurd hj (Nat.not_lt_zero j)⟩⟩
  | m + 1, hm => by
    obtain ⟨h1, h2⟩ := compactUpTo_inv hd m (by omega)
    rw [Lib.compactUpTo_succ]
    by_cases hk : Lib.keeps d m = true
    · rw [if_pos hk]
      refine ⟨List.pairwise_append.2 ⟨h1, List.pairwise_singleton _ _, fun a ha b hb => ?_⟩, fun x => ?_⟩
      · rw [List.mem_singleton] at hb
        subst hb
        obtain ⟨j, hj, rfl⟩ := (h2 a).1 ha
        have hm0 : m ≠ 0 := by omega
        have hne : d[m]! ≠ d[m - 1]! := by
          simp only [Lib.keeps, decide_eq_true_eq] at hk
          rcases hk with q | q
          · exact absurd q hm0
          · exact q
        have hlt : d[m - 1]! < d[m]! := by
          rcases le_of_not_lt (hd (m - 1) m (by omega) (by omega)) with q | q
          · exact absurd q.symm hne
          · exact q
        rcases (by omega : j = m - 1 ∨ j < m - 1) with rfl | q
        · exact hlt
        · rcases le_of_not_lt (hd j (m - 1) q (by omega)) with e | e
          · rw [e]; exact hlt
          · exact u8lex_trans e hlt
      · rw [List.mem_append, h2, List.mem_singleton]
        constructor
        · rintro (⟨j, hj, e⟩ | e)
          · exact ⟨j, by omega, e⟩
          · exact ⟨m, by omega, e.symm⟩
        · rintro ⟨j, hj, e⟩
          rcases (by omega : j < m ∨ j = m) with q | rfl
          · exact Or.inl ⟨j, q, e⟩
          · exact Or.inr e.symm
    · rw [if_neg hk, List.append_nil]
      refine ⟨h1, fun x => ?_⟩
      rw [h2]
      have hm0 : m ≠ 0 ∧ d[m]! = d[m - 1]! := by
        simp only [Lib.keeps, decide_eq_true_eq] at hk
        constructor
        · exact fun e => hk (Or.inl e)
        · by_cases e : d[m]! = d[m - 1]!
          · exact e
          · exact absurd (Or.inr e) hk
      constructor
      · rintro ⟨j, hj, e⟩
        exact ⟨j, by omega, e⟩
      · rintro ⟨j, hj, e⟩
        rcases (by omega : j < m ∨ j = m) with q | rfl
        · exact ⟨j, q, e⟩
        · exact ⟨j - 1, by omega, by rw [← hm0.2]; exact e⟩

/-- What putting in order and taking alike neighbours out makes is the set. -/
theorem compact_sort (l : List Tx) : Lib.compact (l.mergeSort fun x y => decide (x ≤ y)) = ofX [] l := by
  have hp := List.mergeSort_perm l fun x y => decide (x ≤ y)
  have hs := sort_le l
  obtain ⟨L, hL⟩ : ∃ L, (l.mergeSort fun x y => decide (x ≤ y)) = L := ⟨_, rfl⟩
  rw [hL] at hp hs ⊢
  have hg : ∀ j, j < L.length → L.toArray[j]! = L[j]! := fun j hj => by simp
  have hd : ∀ i j, i < j → j < L.toArray.size → ¬ L.toArray[j]! < L.toArray[i]! := fun i j hij hj => by
    have hj' : j < L.length := by simpa using hj
    have q := List.pairwise_iff_getElem.1 hs i j (by omega) hj' hij
    rw [hg i (by omega), hg j hj', getElem!_pos L i (by omega), getElem!_pos L j hj']
    exact q
  obtain ⟨h1, h2⟩ := compactUpTo_inv hd L.length (by simp)
  refine Ris.unique h1 (ofX_ris List.Pairwise.nil l) fun x => ?_
  rw [ofX_mem]
  refine (h2 x).trans ⟨?_, ?_⟩
  · rintro ⟨j, hj, e⟩
    rw [hg j hj, getElem!_pos L j hj] at e
    exact Or.inr (hp.mem_iff.1 (e ▸ List.getElem_mem hj))
  · rintro (e | e)
    · cases e
    · obtain ⟨j, hj, q⟩ := List.mem_iff_getElem.1 (hp.mem_iff.2 e)
      exact ⟨j, hj, by rw [hg j hj, getElem!_pos L j hj]; exact q⟩

/-! ### two rows merged -/

def mgX : List Tx → List Tx → List Tx
  | [], b => b
  | x :: a, [] => x :: a
  | x :: a, y :: b => if x < y then x :: mgX a (y :: b) else if y < x then y :: mgX (x :: a) b else x :: mgX a b
termination_by a b => a.length + b.length

theorem mgX_nil_left (b : List Tx) : mgX [] b = b := by rw [mgX]
theorem mgX_nil_right (a : List Tx) : mgX a [] = a := by cases a <;> rw [mgX]
theorem mgX_lt {x y : Tx} {a b : List Tx} (h : x < y) : mgX (x :: a) (y :: b) = x :: mgX a (y :: b) := by rw [mgX, if_pos h]
theorem mgX_gt {x y : Tx} {a b : List Tx} (h : y < x) : mgX (x :: a) (y :: b) = y :: mgX (x :: a) b := by rw [mgX, if_neg (tx_asymm h), if_pos h]
theorem mgX_eq {x : Tx} {a b : List Tx} : mgX (x :: a) (x :: b) = x :: mgX a b := by rw [mgX, if_neg (tx_irrefl x), if_neg (tx_irrefl x)]

theorem mgX_mem : ∀ (n : Nat) (a b : List Tx) (x : Tx), a.length + b.length ≤ n → (x ∈ mgX a b ↔ x ∈ a ∨ x ∈ b)
  | n, [], b, x, _ => by rw [mgX_nil_left]; simp
  | n, u :: a, [], x, _ => by rw [mgX_nil_right]; simp
  | 0, u :: a, v :: b, x, h => by simp at h
  | n + 1, u :: a, v :: b, x, h => by
    simp only [List.length_cons] at h
    rcases u8lex_or (x := u) (y := v) with q | q | q
    · rw [mgX_lt q, List.mem_cons, mgX_mem n a (v :: b) x (by simp; omega), List.mem_cons (l := a)]
      exact ⟨fun e => by rcases e with e | e | e <;> simp [e], fun e => by rcases e with (e | e) | e <;> simp [e]⟩
    · subst q
      rw [mgX_eq, List.mem_cons, mgX_mem n a b x (by omega), List.mem_cons, List.mem_cons]
      exact ⟨fun e => by rcases e with e | e | e <;> simp [e], fun e => by rcases e with (e | e) | (e | e) <;> simp [e]⟩
    · rw [mgX_gt q, List.mem_cons, mgX_mem n (u :: a) b x (by simp; omega), List.mem_cons (l := b)]
      exact ⟨fun e => by rcases e with e | e | e <;> simp [e], fun e => by rcases e with e | e | e <;> simp [e]⟩

theorem mgX_ris : ∀ (n : Nat) (a b : List Tx), a.length + b.length ≤ n → Ris a → Ris b → Ris (mgX a b)
  | n, [], b, _, _, hb => by rw [mgX_nil_left]; exact hb
  | n, u :: a, [], _, ha, _ => by rw [mgX_nil_right]; exact ha
  | 0, u :: a, v :: b, h, _, _ => by simp at h
  | n + 1, u :: a, v :: b, h, ha, hb => by
    simp only [List.length_cons] at h
    obtain ⟨a1, a2⟩ := List.pairwise_cons.1 ha
    obtain ⟨b1, b2⟩ := List.pairwise_cons.1 hb
    rcases u8lex_or (x := u) (y := v) with q | q | q
    · rw [mgX_lt q]
      refine List.pairwise_cons.2 ⟨fun z hz => ?_, mgX_ris n a (v :: b) (by simp; omega) a2 hb⟩
      rcases (mgX_mem n a (v :: b) z (by simp; omega)).1 hz with e | e
      · exact a1 z e
      · rcases List.mem_cons.1 e with rfl | e
        · exact q
        · exact u8lex_trans q (b1 z e)
    · subst q
      rw [mgX_eq]
      refine List.pairwise_cons.2 ⟨fun z hz => ?_, mgX_ris n a b (by omega) a2 b2⟩
      rcases (mgX_mem n a b z (by omega)).1 hz with e | e
      · exact a1 z e
      · exact b1 z e
    · rw [mgX_gt q]
      refine List.pairwise_cons.2 ⟨fun z hz => ?_, mgX_ris n (u :: a) b (by simp; omega) ha b2⟩
      rcases (mgX_mem n (u :: a) b z (by simp; omega)).1 hz with e | e
      · rcases List.mem_cons.1 e with rfl | e
        · exact q
        · exact u8lex_trans q (a1 z e)
      · exact b1 z e

theorem mgX_of {a b : List Tx} (ha : Ris a) (hb : Ris b) : mgX a b = ofX a b :=
  Ris.unique (mgX_ris _ a b (Nat.le_refl _) ha hb) (ofX_ris ha b) fun x => by rw [mgX_mem _ a b x (Nat.le_refl _), ofX_mem]

theorem mgX_length (n : Nat) : ∀ (a b : List Tx), a.length + b.length ≤ n → (mgX a b).length ≤ a.length + b.length := by
  induction n with
  | zero => intro a b h; cases a <;> cases b <;> simp_all [mgX_nil_left]
  | succ n ih =>
    intro a b h
    cases a with
    | nil => rw [mgX_nil_left]; simp
    | cons u a =>
      cases b with
      | nil => rw [mgX_nil_right]; simp
      | cons v b =>
        simp only [List.length_cons] at h
        rcases u8lex_or (x := u) (y := v) with q | q | q
        · rw [mgX_lt q]
          have := ih a (v :: b) (by simp; omega)
          simp only [List.length_cons] at *
          omega
        · subst q
          rw [mgX_eq]
          have := ih a b (by omega)
          simp only [List.length_cons] at *
          omega
        · rw [mgX_gt q]
          have := ih (u :: a) b (by simp; omega)
          simp only [List.length_cons] at *
          omega

theorem putX_length (s : List Tx) (x : Tx) : (putX s x).length ≤ s.length + 1 := by
  unfold putX
  split
  · omega
  · have := belowN_le s x
    rw [List.length_append, List.length_cons, List.length_take, List.length_drop]
    omega
theorem ofX_length (s l : List Tx) : (ofX s l).length ≤ s.length + l.length := by
  induction l generalizing s with
  | nil => simp [ofX]
  | cons x l ih =>
    rw [ofX_cons]
    have h1 := ih (putX s x)
    have h2 := putX_length s x
    simp only [List.length_cons]
    omega

/-- Is a row a set? -/
def ckX (s : List Tx) : Int := if Ris s then 0 else 80
theorem ckX_nil : ckX [] = 0 := if_pos List.Pairwise.nil
theorem ckX_ok {s : List Tx} (h : Ris s) : ckX s = 0 := if_pos h
theorem ckX_no {s : List Tx} (h : ¬ Ris s) : ckX s = 80 := if_neg h

/-- Rising: from one to the next. -/
theorem ris_of_next {s : List Tx} (h : ∀ i, i + 1 < s.length → ∀ x y, s[i]? = some x → s[i + 1]? = some y → x < y) : Ris s := by
  induction s with
  | nil => exact List.Pairwise.nil
  | cons a s ih =>
    have h2 : Ris s := ih fun i hi x y hx hy => h (i + 1) (by simp only [List.length_cons]; omega) x y (by simpa using hx) (by simpa using hy)
    refine List.pairwise_cons.2 ⟨fun z hz => ?_, h2⟩
    cases s with
    | nil => cases hz
    | cons b s =>
      have hab : a < b := h 0 (by simp) a b rfl rfl
      rcases List.mem_cons.1 hz with rfl | hz
      · exact hab
      · exact u8lex_trans hab ((List.pairwise_cons.1 h2).1 z hz)
theorem ris_next {s : List Tx} (h : Ris s) {i : Nat} {x y : Tx} (hx : s[i]? = some x) (hy : s[i + 1]? = some y) : x < y := by
  obtain ⟨h1, rfl⟩ := List.getElem?_eq_some_iff.1 hx
  obtain ⟨h2, rfl⟩ := List.getElem?_eq_some_iff.1 hy
  exact List.pairwise_iff_getElem.1 h i (i + 1) h1 h2 (by omega)

/-! ### places that halving finds -/

theorem ris_less {s : List Tx} (h : Ris s) (x : Tx) {t : Nat} (ht : t < s.length) : Op.bytesLess s[t] x = decide (t < belowN s x) := by
  rw [bytesLess_eq]
  have := belowN_iff h x (j := t) (List.getElem?_eq_getElem ht)
  by_cases q : s[t] < x
  · rw [decide_eq_true q, decide_eq_true (this.1 q)]
  · rw [decide_eq_false q, decide_eq_false (fun e => q (this.2 e))]
theorem ris_in {s : List Tx} (h : Ris s) (x : Tx) : x ∈ s ↔ s[belowN s x]? = some x := by
  constructor
  · intro hm
    obtain ⟨i, hi⟩ := List.mem_iff_getElem?.1 hm
    have h1 : ¬ i < belowN s x := fun e => tx_irrefl x ((belowN_iff h x hi).2 e)
    rcases (by omega : i = belowN s x ∨ belowN s x < i) with e | e
    · rw [← e]; exact hi
    · obtain ⟨li, ei⟩ := List.getElem?_eq_some_iff.1 hi
      have hlb : belowN s x < s.length := by omega
      have h2 := List.pairwise_iff_getElem.1 h (belowN s x) i hlb li e
      rw [ei] at h2
      have := (belowN_iff h x (List.getElem?_eq_getElem hlb)).1 h2
      omega
  · exact fun e => List.mem_of_getElem? e

end Go.Proofs.Ytinpimejiepahaa
