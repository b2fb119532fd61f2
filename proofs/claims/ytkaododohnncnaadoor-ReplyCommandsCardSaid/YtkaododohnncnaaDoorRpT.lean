/-
  Plain theory of a line's words: blanks ahead of a word, and a byte 13 at the end, turn nothing. No program, no condition.
-/
import Derived.Test.YtkaododohnncnaaDoorRspK
namespace Go.Proofs.YtkaododohnncnaaDoor

theorem words_drop : ∀ (l : List UInt8) (F : Nat) (acc : List (List UInt8)), l.length < F → ∃ F', (l.dropWhile blankS).length < F' ∧ wordsGo F l acc = wordsGo F' (l.dropWhile blankS) acc
  | [], F, acc, h => ⟨F, h, rfl⟩
  | c :: r, F, acc, h => by
    cases hb : blankS c with
    | false => exact ⟨F, by rw [List.dropWhile_cons, hb]; exact h, by rw [List.dropWhile_cons, hb]; rfl⟩
    | true =>
      rw [List.length_cons] at h
      obtain ⟨f, rfl⟩ : ∃ f, F = f + 1 := ⟨F - 1, by omega⟩
      obtain ⟨F', h1, h2⟩ := words_drop r f acc (by omega)
      refine ⟨F', by rw [List.dropWhile_cons, hb]; exact h1, ?_⟩
      rw [wordsGo_blank f c r acc hb, List.dropWhile_cons, hb]
      exact h2

theorem esc_cr (r : List UInt8) (h : r ≠ []) : escS (r ++ [13]) = escS r := by
  match r with
  | [] => exact absurd rfl h
  | d :: r =>
    by_cases h120 : d = 120
    · subst h120
      match r with
      | [] => rfl
      | [a] =>
        show escS (120 :: a :: 13 :: []) = _
        rw [escS_short [a] (by simp)]
        cases ha : hexS a with
        | none => exact escS_hexa a 13 [] ha
        | some x => exact escS_hexb a 13 [] x ha (by decide)
      | a :: b :: r =>
        show escS (120 :: a :: b :: (r ++ [13])) = _
        cases ha : hexS a with
        | none => rw [escS_hexa a b _ ha, escS_hexa a b _ ha]
        | some x =>
          cases hb : hexS b with
          | none => rw [escS_hexb a b _ x ha hb, escS_hexb a b _ x ha hb]
          | some y => rw [escS_hex a b _ x y ha hb, escS_hex a b _ x y ha hb]
    · rw [List.cons_append, escS_other d _ h120, escS_other d _ h120]

/-- A byte 13 behind. -/
def crO (o : Option (List UInt8 × List UInt8)) : Option (List UInt8 × List UInt8) := o.map fun x => (x.1, x.2 ++ [13])

theorem quot_cr (q : UInt8) (hq : q = 34 ∨ q = 39) : ∀ (n : Nat) (z acc : List UInt8) (G G' : Nat), z.length ≤ n → z.length + 1 < G → z.length < G' → quotS q G (z ++ [13]) acc = crO (quotS q G' z acc) := by
  have hq13 : (13 : UInt8) ≠ q := by rcases hq with rfl | rfl <;> decide
  intro n
  induction n with
  | zero =>
    intro z acc G G' hn hG hG'
    obtain rfl : z = [] := List.length_eq_zero_iff.1 (by omega)
    obtain ⟨g, rfl⟩ : ∃ g, G = g + 1 := ⟨G - 1, by omega⟩
    rw [List.nil_append, quotS_plain q g 13 [] acc hq13 (by decide), quotS_nil, quotS_nil]
    rfl
  | succ n ih =>
    intro z acc G G' hn hG hG'
    match z with
    | [] =>
      obtain ⟨g, rfl⟩ : ∃ g, G = g + 1 := ⟨G - 1, by omega⟩
      rw [List.nil_append, quotS_plain q g 13 [] acc hq13 (by decide), quotS_nil, quotS_nil]
      rfl
    | c :: r =>
      rw [List.length_cons] at hn hG hG'
      obtain ⟨g, rfl⟩ : ∃ g, G = g + 1 := ⟨G - 1, by omega⟩
      obtain ⟨g', rfl⟩ : ∃ g, G' = g + 1 := ⟨G' - 1, by omega⟩
      rw [List.cons_append]
      by_cases h1 : c = q
      · subst h1
        rw [quotS_end, quotS_end]
        rfl
      · by_cases h92 : c = 92
        · subst h92
          rcases hq with rfl | rfl
          · rw [quotS_esc, quotS_esc]
            by_cases hr : r = []
            · subst hr
              have e1 : List.drop (escS (([] : List UInt8) ++ [13])).2 ((92 : UInt8) :: ([] ++ [13])) = [] := rfl
              have e2 : List.drop (escS ([] : List UInt8)).2 [(92 : UInt8)] = [] := rfl
              rw [e1, e2, quotS_nil, quotS_nil]
              rfl
            · have hel := escS_le r
              have hd : List.drop (escS (r ++ [13])).2 (92 :: (r ++ [13])) = List.drop (escS r).2 (92 :: r) ++ [13] := by
                rw [esc_cr r hr, show (92 : UInt8) :: (r ++ [13]) = (92 :: r) ++ [13] from rfl, List.drop_append_of_le_length (by rw [List.length_cons]; exact hel.2)]
              rw [hd, esc_cr r hr]
              have hlen : (List.drop (escS r).2 (92 :: r)).length = r.length + 1 - (escS r).2 := by rw [List.length_drop, List.length_cons]
              exact ih _ _ _ _ (by omega) (by omega) (by omega)
          · by_cases ht : r.head? = some 39
            · match r, ht with
              | d :: r, ht =>
                simp only [List.head?_cons, Option.some.injEq] at ht
                subst ht
                rw [List.length_cons] at hn hG hG'
                rw [List.cons_append, quotS_tick, quotS_tick]
                exact ih _ _ _ _ (by omega) (by omega) (by omega)
            · rw [quotS_back _ _ _ ht, quotS_back _ _ _ (by
                match r, ht with
                | [], _ => decide
                | d :: r, ht => exact ht)]
              exact ih _ _ _ _ (by omega) (by omega) (by omega)
        · rw [quotS_plain _ _ _ _ _ h1 h92, quotS_plain _ _ _ _ _ h1 h92]
          exact ih _ _ _ _ (by omega) (by omega) (by omega)

theorem any_cr (r : List UInt8) : (r ++ [13]).head?.any (fun x => !blankS x) = r.head?.any (fun x => !blankS x) := by
  cases r with
  | nil => rfl
  | cons c r => rfl

theorem word_cr : ∀ (n : Nat) (z acc : List UInt8) (G G' : Nat), z.length ≤ n → z.length + 1 < G → z.length < G' → wordGo G (z ++ [13]) acc = crO (wordGo G' z acc) := by
  intro n
  induction n with
  | zero =>
    intro z acc G G' hn hG hG'
    obtain rfl : z = [] := List.length_eq_zero_iff.1 (by omega)
    obtain ⟨g, rfl⟩ : ∃ g, G = g + 1 := ⟨G - 1, by omega⟩
    obtain ⟨g', rfl⟩ : ∃ g, G' = g + 1 := ⟨G' - 1, by omega⟩
    rw [List.nil_append, wordGo_blank g 13 [] acc (by decide), wordGo_nil]
    rfl
  | succ n ih =>
    intro z acc G G' hn hG hG'
    obtain ⟨g, rfl⟩ : ∃ g, G = g + 1 := ⟨G - 1, by omega⟩
    obtain ⟨g', rfl⟩ : ∃ g, G' = g + 1 := ⟨G' - 1, by omega⟩
    match z with
    | [] =>
      rw [List.nil_append, wordGo_blank g 13 [] acc (by decide), wordGo_nil]
      rfl
    | c :: r =>
      rw [List.length_cons] at hn hG hG'
      rw [List.cons_append]
      cases hb : blankS c with
      | true => rw [wordGo_blank _ _ _ _ hb, wordGo_blank _ _ _ _ hb]; rfl
      | false =>
        by_cases hq : c = 34 ∨ c = 39
        · have hqc := quot_cr c hq r.length r [] ((r ++ [13]).length + 1) (r.length + 1) (Nat.le_refl _) (by rw [List.length_append]; simp) (by omega)
          cases h1 : quotS c (r.length + 1) r [] with
          | none =>
            rw [h1] at hqc
            rw [wordGo_bad _ _ _ _ hq h1, wordGo_bad _ _ _ _ hq hqc]
            rfl
          | some x =>
            obtain ⟨p, r'⟩ := x
            rw [h1] at hqc
            change _ = some (p, r' ++ [13]) at hqc
            obtain ⟨j, j1, j2, rfl, _⟩ := quotS_suffix c _ _ _ _ _ h1
            have hj : (r.drop j).length = r.length - j := List.length_drop
            cases ha : (r.drop j).head?.any (fun x => !blankS x) with
            | true => rw [wordGo_behind _ _ _ _ _ _ hq h1 ha, wordGo_behind _ _ _ _ _ _ hq hqc (by rw [any_cr]; exact ha)]; rfl
            | false =>
              rw [wordGo_on _ _ _ _ _ _ hq h1 ha, wordGo_on _ _ _ _ _ _ hq hqc (by rw [any_cr]; exact ha)]
              exact ih _ _ _ _ (by omega) (by omega) (by omega)
        · have h34 : c ≠ 34 := fun e => hq (Or.inl e)
          have h39 : c ≠ 39 := fun e => hq (Or.inr e)
          rw [wordGo_plain _ _ _ _ hb h34 h39, wordGo_plain _ _ _ _ hb h34 h39]
          exact ih _ _ _ _ (by omega) (by omega) (by omega)

theorem words_cr : ∀ (n : Nat) (z : List UInt8) (acc : List (List UInt8)) (G G' : Nat), z.length ≤ n → z.length + 1 < G → z.length < G' → wordsGo G (z ++ [13]) acc = wordsGo G' z acc := by
  intro n
  induction n with
  | zero =>
    intro z acc G G' hn hG hG'
    obtain rfl : z = [] := List.length_eq_zero_iff.1 (by omega)
    obtain ⟨g, rfl⟩ : ∃ g, G = g + 2 := ⟨G - 2, by simp at hG; omega⟩
    obtain ⟨g', rfl⟩ : ∃ g, G' = g + 1 := ⟨G' - 1, by omega⟩
    rw [List.nil_append, wordsGo_blank (g + 1) 13 [] acc (by decide)]
    rfl
  | succ n ih =>
    intro z acc G G' hn hG hG'
    match z with
    | [] =>
      obtain ⟨g, rfl⟩ : ∃ g, G = g + 2 := ⟨G - 2, by simp at hG; omega⟩
      obtain ⟨g', rfl⟩ : ∃ g, G' = g + 1 := ⟨G' - 1, by omega⟩
      rw [List.nil_append, wordsGo_blank (g + 1) 13 [] acc (by decide)]
      rfl
    | c :: r =>
      rw [List.length_cons] at hn hG hG'
      obtain ⟨g, rfl⟩ : ∃ g, G = g + 1 := ⟨G - 1, by omega⟩
      obtain ⟨g', rfl⟩ : ∃ g, G' = g + 1 := ⟨G' - 1, by omega⟩
      rw [List.cons_append]
      cases hb : blankS c with
      | true =>
        rw [wordsGo_blank _ _ _ _ hb, wordsGo_blank _ _ _ _ hb]
        exact ih _ _ _ _ (by omega) (by omega) (by omega)
      | false =>
        have hw := word_cr (c :: r).length (c :: r) [] ((c :: (r ++ [13])).length + 1) ((c :: r).length + 1) (Nat.le_refl _) (by simp) (by omega)
        rw [List.cons_append] at hw
        cases h1 : wordGo ((c :: r).length + 1) (c :: r) [] with
        | none =>
          rw [h1] at hw
          rw [wordsGo_bad _ _ _ _ hb h1, wordsGo_bad _ _ _ _ hb hw]
        | some x =>
          obtain ⟨t, r'⟩ := x
          rw [h1] at hw
          change _ = some (t, r' ++ [13]) at hw
          obtain ⟨j, j1, rfl, j3, _⟩ := wordGo_suffix _ _ _ _ _ h1
          have hj := j3 c r rfl hb
          have hd : ((c :: r).drop j).length = r.length + 1 - j := by rw [List.length_drop, List.length_cons]
          rw [wordsGo_on _ _ _ _ _ _ hb h1, wordsGo_on _ _ _ _ _ _ hb hw]
          exact ih _ _ _ _ (by omega) (by omega) (by omega)

/-- The words of a line are those of its bytes up to the 10. -/
theorem lineT_words (l : List UInt8) (i : Nat) (hi : i < l.length) : wordsGo (i + 1) (lineT l i) [] = wordsGo (i + 1) (l.take i) [] := by
  unfold lineT
  split
  · rename_i h
    obtain ⟨h0, h13⟩ := h
    obtain ⟨k, rfl⟩ : ∃ k, i = k + 1 := ⟨i - 1, by omega⟩
    rw [Nat.add_sub_cancel] at h13 ⊢
    have e : l.take (k + 1) = l.take k ++ [13] := by
      rw [List.take_add_one, List.getElem?_eq_getElem (by omega)]
      congr 1
      simp only [Option.toList_some, List.cons.injEq, and_true]
      rw [List.getD_eq_getElem?_getD, List.getElem?_eq_getElem (by omega)] at h13
      exact h13
    rw [e]
    have hk : (l.take k).length = k := by rw [List.length_take]; omega
    exact (words_cr k _ _ _ _ (by omega) (by omega) (by omega)).symm
  · rfl

theorem bulksGo_len (l : List UInt8) : ∀ (n at_ : Nat) (acc ws : List (List UInt8)) (k : Nat), bulksGo l n at_ acc = some (.inr (ws, k)) → ws.length = acc.length + n := by
  intro n
  induction n with
  | zero =>
    intro at_ acc ws k h
    simp only [bulksGo, Option.some.injEq, Sum.inr.injEq, Prod.mk.injEq] at h
    rw [← h.1]; rfl
  | succ n ih =>
    intro at_ acc ws k h
    rw [bulksGo_step] at h
    split at h
    · cases h
    · cases h
    · have := ih _ _ _ _ h
      rw [List.length_append, List.length_singleton] at this
      omega

/-- No request has more than 1024 texts. -/
theorem firstS_len {l : List UInt8} {ws : List (List UInt8)} {k : Nat} (h : firstS l = some (.inr (ws, k))) : ws.length ≤ 1024 := by
  match l with
  | [] => cases h
  | c :: r =>
    simp only [firstS] at h
    split at h
    · unfold bulksS at h
      split at h
      · cases h
      · cases h
      · split at h
        · cases h
        · split at h
          · cases h
          · have := bulksGo_len _ _ _ _ _ _ h
            simp only [List.length_nil] at this
            omega
    · cases hf : findL 10 (c :: r) with
      | none => unfold lineS at h; rw [hf] at h; simp only at h; split at h <;> cases h
      | some i =>
        rw [lineS_eq hf] at h
        split at h
        · cases h
        · split at h
          · cases h
          · simp only [Option.some.injEq, Sum.inr.injEq, Prod.mk.injEq] at h
            rw [← h.1]; omega

end Go.Proofs.YtkaododohnncnaaDoor
