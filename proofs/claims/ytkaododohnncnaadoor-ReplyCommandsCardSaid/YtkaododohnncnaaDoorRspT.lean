/-
  Plain facts about requests: what stands whole, or is a fault, at the beginning of some bytes stays so whatever comes behind; all requests of some bytes are those of a beginning and those of the rest. No program, no condition.
-/
import Derived.Test.YtkaododohnncnaaDoorRspM
namespace Go.Proofs.YtkaododohnncnaaDoor

theorem findF_append (c : UInt8) : ∀ (f : Nat) (l m : List UInt8) (k i : Nat), findF c f l k = some i → findF c f (l ++ m) k = some i
  | 0, _, _, _, _, h => by cases h
  | f + 1, [], _, _, _, h => by cases h
  | f + 1, x :: r, m, k, i, h => by
    simp only [findF, List.cons_append] at h ⊢
    split at h
    · rename_i hx; rw [if_pos hx]; exact h
    · rename_i hx; rw [if_neg hx]; exact findF_append c f r m (k + 1) i h
theorem findF_long (c : UInt8) : ∀ (f : Nat) (l m : List UInt8) (k : Nat), findF c f l k = none → f ≤ l.length → findF c f (l ++ m) k = none
  | 0, _, _, _, _, _ => rfl
  | f + 1, [], _, _, _, h => by simp at h
  | f + 1, x :: r, m, k, h, hl => by
    simp only [findF, List.cons_append] at h ⊢
    split at h
    · cases h
    · rename_i hx; rw [if_neg hx]; exact findF_long c f r m (k + 1) h (by simp at hl; omega)

theorem find_at {c : UInt8} {l : List UInt8} {k : Nat} (h : findL c l = some k) : k < l.length ∧ k < 65536 := by
  obtain ⟨_, h2, h3, _⟩ := findF_some c 65536 l 0 k h
  omega

theorem headS_mono (big l m : List UInt8) (x : List UInt8 ⊕ (List UInt8 × Nat)) (h : headS big l = some x) : headS big (l ++ m) = some x := by
  unfold headS at h ⊢
  cases hf : findL 13 l with
  | none =>
    rw [hf] at h
    simp only at h
    split at h
    · rename_i hl
      have := findF_long 13 65536 l m 0 hf (by omega)
      rw [show findL 13 (l ++ m) = none from this]
      simp only
      rw [if_pos (by rw [List.length_append]; omega)]
      exact h
    · cases h
  | some k =>
    rw [hf] at h
    simp only at h
    obtain ⟨k1, _⟩ := find_at hf
    rw [show findL 13 (l ++ m) = some k from findF_append 13 65536 l m 0 k hf]
    simp only
    split at h
    · cases h
    · rw [if_neg (by rw [List.length_append]; omega), List.take_append_of_le_length (by omega)]
      exact h

theorem headS_fits {big l t : List UInt8} {nx : Nat} (h : headS big l = some (.inr (t, nx))) : 2 ≤ nx ∧ nx ≤ l.length := by
  unfold headS at h
  cases hf : findL 13 l with
  | none => rw [hf] at h; simp only at h; split at h <;> cases h
  | some k =>
    rw [hf] at h
    simp only at h
    obtain ⟨k1, k2⟩ := find_at hf
    split at h
    · cases h
    · simp only [Option.some.injEq, Sum.inr.injEq, Prod.mk.injEq] at h
      obtain ⟨_, rfl⟩ := h
      omega

theorem bulkS_mono (l m : List UInt8) (x : List UInt8 ⊕ (List UInt8 × Nat)) (h : bulkS l = some x) : bulkS (l ++ m) = some x := by
  match l with
  | [] => cases h
  | c :: r =>
    simp only [List.cons_append, bulkS] at h ⊢
    split at h
    · rename_i hc; rw [if_pos hc]; exact h
    · rename_i hc
      rw [if_neg hc]
      cases hh : headS bigB (c :: r) with
      | none => rw [hh] at h; cases h
      | some y =>
        have hm := headS_mono bigB (c :: r) m y hh
        rw [List.cons_append] at hm
        rw [hm]
        rw [hh] at h
        rcases y with e | ⟨t, nx⟩
        · exact h
        · obtain ⟨_, n2⟩ := headS_fits hh
          simp only at h ⊢
          cases hp : parseV t with
          | none => rw [hp] at h; exact h
          | some n =>
            rw [hp] at h
            simp only at h ⊢
            split at h
            · rename_i hn; rw [if_pos hn]; exact h
            · rename_i hn
              rw [if_neg hn]
              split at h
              · cases h
              · rename_i hs
                have hl : (c :: (r ++ m)).length = (c :: r).length + m.length := by simp only [List.length_cons, List.length_append]; omega
                rw [if_neg (by rw [hl]; omega)]
                rw [show c :: (r ++ m) = (c :: r) ++ m from rfl, List.drop_append_of_le_length n2, List.take_append_of_le_length (by rw [List.length_drop]; omega)]
                exact h

theorem bulkS_fits {l t : List UInt8} {nx : Nat} (h : bulkS l = some (.inr (t, nx))) : 1 ≤ nx ∧ nx ≤ l.length := by
  match l with
  | [] => cases h
  | c :: r =>
    simp only [bulkS] at h
    split at h
    · cases h
    · split at h
      · cases h
      · cases h
      · rename_i hh
        obtain ⟨a1, a2⟩ := headS_fits hh
        split at h
        · cases h
        · split at h
          · cases h
          · split at h
            · cases h
            · simp only [Option.some.injEq, Sum.inr.injEq, Prod.mk.injEq] at h
              obtain ⟨_, rfl⟩ := h
              omega

theorem bulksGo_mono (l m : List UInt8) : ∀ (n at_ : Nat) (acc : List (List UInt8)) (x : List UInt8 ⊕ (List (List UInt8) × Nat)), at_ ≤ l.length → bulksGo l n at_ acc = some x → bulksGo (l ++ m) n at_ acc = some x := by
  intro n
  induction n with
  | zero => intro at_ acc x _ h; exact h
  | succ n ih =>
    intro at_ acc x hat h
    simp only [bulksGo] at h ⊢
    cases hq : bulkS (l.drop at_) with
    | none => rw [hq] at h; cases h
    | some y =>
      have hm := bulkS_mono (l.drop at_) m y hq
      rw [← List.drop_append_of_le_length hat] at hm
      rw [hm]
      rw [hq] at h
      rcases y with e | ⟨t, nx⟩
      · exact h
      · obtain ⟨_, b⟩ := bulkS_fits hq
        rw [List.length_drop] at b
        exact ih _ _ _ (by omega) h

theorem bulksS_mono (l m : List UInt8) (x : List UInt8 ⊕ (List (List UInt8) × Nat)) (h : bulksS l = some x) : bulksS (l ++ m) = some x := by
  unfold bulksS at h ⊢
  cases hh : headS bigM l with
  | none => rw [hh] at h; cases h
  | some y =>
    rw [headS_mono bigM l m y hh]
    rw [hh] at h
    rcases y with e | ⟨t, nx⟩
    · exact h
    · obtain ⟨_, n2⟩ := headS_fits hh
      simp only at h ⊢
      cases hp : parseV t with
      | none => rw [hp] at h; exact h
      | some n =>
        rw [hp] at h
        simp only at h ⊢
        split at h
        · rename_i hn; rw [if_pos hn]; exact h
        · rename_i hn; rw [if_neg hn]; exact bulksGo_mono l m _ _ _ _ n2 h

theorem lineS_mono (l m : List UInt8) (x : List UInt8 ⊕ (List (List UInt8) × Nat)) (h : lineS l = some x) : lineS (l ++ m) = some x := by
  unfold lineS at h ⊢
  cases hf : findL 10 l with
  | none =>
    rw [hf] at h
    simp only at h
    split at h
    · rename_i hl
      rw [show findL 10 (l ++ m) = none from findF_long 10 65536 l m 0 hf (by omega)]
      simp only
      rw [if_pos (by rw [List.length_append]; omega)]
      exact h
    · cases h
  | some i =>
    rw [hf] at h
    obtain ⟨k1, _⟩ := find_at hf
    rw [show findL 10 (l ++ m) = some i from findF_append 10 65536 l m 0 i hf]
    have e1 : (l ++ m).getD (i - 1) 0 = l.getD (i - 1) 0 := by
      rw [List.getD_eq_getElem?_getD, List.getD_eq_getElem?_getD, List.getElem?_append_left (by omega)]
    simp only at h ⊢
    rw [e1, List.take_append_of_le_length (by omega), List.take_append_of_le_length (by omega)]
    exact h

/-- What stands whole at the beginning, or is a fault, stays so. -/
theorem firstS_mono (l m : List UInt8) (x : List UInt8 ⊕ (List (List UInt8) × Nat)) (h : firstS l = some x) : firstS (l ++ m) = some x := by
  match l with
  | [] => cases h
  | c :: r =>
    simp only [List.cons_append, firstS] at h ⊢
    split at h
    · rename_i hc; rw [if_pos hc]; exact bulksS_mono (c :: r) m x h
    · rename_i hc; rw [if_neg hc]; exact lineS_mono (c :: r) m x h

theorem bulksGo_fits (l : List UInt8) : ∀ (n at_ : Nat) (acc ws : List (List UInt8)) (k : Nat), at_ ≤ l.length → bulksGo l n at_ acc = some (.inr (ws, k)) → at_ ≤ k ∧ k ≤ l.length := by
  intro n
  induction n with
  | zero =>
    intro at_ acc ws k hat h
    simp only [bulksGo, Option.some.injEq, Sum.inr.injEq, Prod.mk.injEq] at h
    obtain ⟨_, rfl⟩ := h
    exact ⟨Nat.le_refl _, hat⟩
  | succ n ih =>
    intro at_ acc ws k hat h
    simp only [bulksGo] at h
    split at h
    · cases h
    · cases h
    · rename_i t nx hq
      obtain ⟨a, b⟩ := bulkS_fits hq
      rw [List.length_drop] at b
      obtain ⟨c, d⟩ := ih _ _ _ _ (by omega) h
      exact ⟨by omega, d⟩

theorem firstS_fits {l : List UInt8} {ws : List (List UInt8)} {k : Nat} (h : firstS l = some (.inr (ws, k))) : 1 ≤ k ∧ k ≤ l.length := by
  match l with
  | [] => cases h
  | c :: r =>
    simp only [firstS] at h
    split at h
    · unfold bulksS at h
      split at h
      · cases h
      · cases h
      · rename_i t nx hh
        obtain ⟨a, b⟩ := headS_fits hh
        split at h
        · cases h
        · split at h
          · cases h
          · obtain ⟨e, f⟩ := bulksGo_fits _ _ _ _ _ _ b h
            exact ⟨by omega, f⟩
    · unfold lineS at h
      cases hf : findL 10 (c :: r) with
      | none => rw [hf] at h; simp only at h; split at h <;> cases h
      | some i =>
        obtain ⟨a, _⟩ := find_at hf
        rw [hf] at h
        simp only at h
        split at h
        · cases h
        · split at h
          · cases h
          · simp only [Option.some.injEq, Sum.inr.injEq, Prod.mk.injEq] at h
            obtain ⟨_, rfl⟩ := h
            exact ⟨by omega, by omega⟩

/-- A fault has a text. -/
theorem fault_ne {l e : List UInt8} (h : firstS l = some (.inl e)) : e ≠ [] := by
  have hh : ∀ (big l e : List UInt8), headS big l = some (.inl e) → e ≠ [] := by
    intro big l e h
    unfold headS at h
    split at h
    · split at h
      · simp only [Option.some.injEq, Sum.inl.injEq] at h
        rw [← h]; simp [perrB]
      · cases h
    · split at h <;> cases h
  have hb : ∀ (l e : List UInt8), bulkS l = some (.inl e) → e ≠ [] := by
    intro l e h
    match l with
    | [] => cases h
    | c :: r =>
      simp only [bulkS] at h
      split at h
      · simp only [Option.some.injEq, Sum.inl.injEq] at h
        rw [← h]; simp [perrB]
      · split at h
        · cases h
        · rename_i f hf
          simp only [Option.some.injEq, Sum.inl.injEq] at h
          rw [← h]; exact hh _ _ _ hf
        · split at h
          · simp only [Option.some.injEq, Sum.inl.injEq] at h
            rw [← h]; simp [perrB]
          · split at h
            · simp only [Option.some.injEq, Sum.inl.injEq] at h
              rw [← h]; simp [perrB]
            · split at h <;> cases h
  have hg : ∀ (l : List UInt8) (n at_ : Nat) (acc : List (List UInt8)) (e : List UInt8), bulksGo l n at_ acc = some (.inl e) → e ≠ [] := by
    intro l n
    induction n with
    | zero => intro at_ acc e h; cases h
    | succ n ih =>
      intro at_ acc e h
      simp only [bulksGo] at h
      split at h
      · cases h
      · rename_i f hf
        simp only [Option.some.injEq, Sum.inl.injEq] at h
        rw [← h]; exact hb _ _ hf
      · exact ih _ _ _ h
  match l with
  | [] => cases h
  | c :: r =>
    simp only [firstS] at h
    split at h
    · unfold bulksS at h
      split at h
      · cases h
      · rename_i f hf
        simp only [Option.some.injEq, Sum.inl.injEq] at h
        rw [← h]; exact hh _ _ _ hf
      · split at h
        · simp only [Option.some.injEq, Sum.inl.injEq] at h
          rw [← h]; simp [perrB]
        · split at h
          · simp only [Option.some.injEq, Sum.inl.injEq] at h
            rw [← h]; simp [perrB]
          · exact hg _ _ _ _ _ h
    · unfold lineS at h
      split at h
      · split at h
        · simp only [Option.some.injEq, Sum.inl.injEq] at h
          rw [← h]; simp [perrB]
        · cases h
      · split at h
        · simp only [Option.some.injEq, Sum.inl.injEq] at h
          rw [← h]; simp [perrB]
        · split at h
          · simp only [Option.some.injEq, Sum.inl.injEq] at h
            rw [← h]; simp [perrB]
          · cases h

/-- Requests behind one another, counted on from n. -/
theorem splitGo_shift (l : List UInt8) : ∀ (d n : Nat) (acc : List (List (List UInt8))) (f : Nat), n ≤ l.length → l.length - n ≤ d → l.length < f + n →
    splitGo f l n acc = (acc ++ (splitS (l.drop n)).1, n + (splitS (l.drop n)).2.1, (splitS (l.drop n)).2.2) := by
  -- by how many bytes are left
  have key : ∀ (d : Nat) (l : List UInt8) (n : Nat) (acc acc' : List (List (List UInt8))) (f f' : Nat) (l' : List UInt8) (n' : Nat), l.drop n = l'.drop n' → n ≤ l.length → n' ≤ l'.length → l.length - n ≤ d → l.length < f + n → l'.length < f' + n' →
      ∃ (A : List (List (List UInt8))) (N : Nat) (E : List UInt8), splitGo f l n acc = (acc ++ A, n + N, E) ∧ splitGo f' l' n' acc' = (acc' ++ A, n' + N, E) := by
    intro d
    induction d with
    | zero =>
      intro l n acc acc' f f' l' n' hd hn hn' hdl hf hf'
      obtain ⟨f, rfl⟩ : ∃ g, f = g + 1 := ⟨f - 1, by omega⟩
      obtain ⟨f', rfl⟩ : ∃ g, f' = g + 1 := ⟨f' - 1, by omega⟩
      have h0 : l.drop n = [] := List.drop_eq_nil_of_le (by omega)
      refine ⟨[], 0, [], ?_, ?_⟩
      · rw [splitGo, h0]; simp [firstS]
      · rw [splitGo, ← hd, h0]; simp [firstS]
    | succ d ih =>
      intro l n acc acc' f f' l' n' hd hn hn' hdl hf hf'
      obtain ⟨f, rfl⟩ : ∃ g, f = g + 1 := ⟨f - 1, by omega⟩
      obtain ⟨f', rfl⟩ : ∃ g, f' = g + 1 := ⟨f' - 1, by omega⟩
      rw [splitGo, splitGo, ← hd]
      cases hF : firstS (l.drop n) with
      | none => exact ⟨[], 0, [], by simp, by simp⟩
      | some x =>
        rcases x with e | ⟨ws, k⟩
        · exact ⟨[], 0, e, by simp, by simp⟩
        · obtain ⟨k1, k2⟩ := firstS_fits hF
          have hlen : (l.drop n).length = (l'.drop n').length := by rw [hd]
          rw [List.length_drop, List.length_drop] at hlen
          rw [List.length_drop] at k2
          have hd' : l.drop (n + k) = l'.drop (n' + k) := by rw [← List.drop_drop, hd, List.drop_drop]
          obtain ⟨A, N, E, e1, e2⟩ := ih l (n + k) (if ws = [] then acc else acc ++ [ws]) (if ws = [] then acc' else acc' ++ [ws]) f f' l' (n' + k) hd' (by omega) (by omega) (by omega) (by omega) (by omega)
          refine ⟨(if ws = [] then [] else [ws]) ++ A, k + N, E, ?_, ?_⟩
          · show splitGo f l (n + k) _ = _
            rw [e1]
            by_cases hw : ws = []
            · simp [hw, Nat.add_assoc]
            · simp [hw, Nat.add_assoc]
          · show splitGo f' l' (n' + k) _ = _
            rw [e2]
            by_cases hw : ws = []
            · simp [hw, Nat.add_assoc]
            · simp [hw, Nat.add_assoc]
  intro d n acc f hn hd hf
  obtain ⟨A, N, E, e1, e2⟩ := key d l n acc [] f ((l.drop n).length + 1) (l.drop n) 0 (by simp) hn (Nat.zero_le _) hd hf (by omega)
  unfold splitS
  rw [e1, e2]
  simp

/-- All requests of a beginning and of what comes behind it. -/
theorem splitS_append (l m : List UInt8) : (splitS l).2.1 ≤ l.length ∧
    splitS (l ++ m) = if (splitS l).2.2 = [] then ((splitS l).1 ++ (splitS (l.drop (splitS l).2.1 ++ m)).1, (splitS l).2.1 + (splitS (l.drop (splitS l).2.1 ++ m)).2.1, (splitS (l.drop (splitS l).2.1 ++ m)).2.2) else splitS l := by
  have key : ∀ (f : Nat) (n : Nat) (acc : List (List (List UInt8))) (f' : Nat), n ≤ l.length → l.length < f + n → (l ++ m).length < f' + n →
      (splitGo f l n acc).2.1 ≤ l.length ∧ splitGo f' (l ++ m) n acc = if (splitGo f l n acc).2.2 = [] then
        ((splitGo f l n acc).1 ++ (splitS (l.drop (splitGo f l n acc).2.1 ++ m)).1, (splitGo f l n acc).2.1 + (splitS (l.drop (splitGo f l n acc).2.1 ++ m)).2.1, (splitS (l.drop (splitGo f l n acc).2.1 ++ m)).2.2) else splitGo f l n acc := by
    intro f
    induction f with
    | zero => intro n acc f' hn hf; omega
    | succ f ih =>
      intro n acc f' hn hf hf'
      have hla : (l ++ m).length = l.length + m.length := List.length_append
      cases hF : firstS (l.drop n) with
      | none =>
        have e : splitGo (f + 1) l n acc = (acc, n, []) := by rw [splitGo, hF]
        rw [e]
        refine ⟨hn, ?_⟩
        rw [if_pos rfl]
        have hs := splitGo_shift (l ++ m) (l ++ m).length n acc f' (by omega) (by omega) (by omega)
        rw [List.drop_append_of_le_length hn] at hs
        exact hs
      | some x =>
        have hm := firstS_mono (l.drop n) m x hF
        rw [← List.drop_append_of_le_length hn] at hm
        obtain ⟨f', rfl⟩ : ∃ g, f' = g + 1 := ⟨f' - 1, by omega⟩
        rcases x with e | ⟨ws, k⟩
        · have e1 : splitGo (f + 1) l n acc = (acc, n, e) := by rw [splitGo, hF]
          have e2 : splitGo (f' + 1) (l ++ m) n acc = (acc, n, e) := by rw [splitGo, hm]
          rw [e1, e2]
          refine ⟨hn, ?_⟩
          by_cases he : e = []
          · subst he
            exact absurd hF (by
              intro hF
              exact fault_ne hF rfl)
          · rw [if_neg he]
        · obtain ⟨k1, k2⟩ := firstS_fits hF
          rw [List.length_drop] at k2
          have e1 : splitGo (f + 1) l n acc = splitGo f l (n + k) (if ws = [] then acc else acc ++ [ws]) := by rw [splitGo, hF]
          have e2 : splitGo (f' + 1) (l ++ m) n acc = splitGo f' (l ++ m) (n + k) (if ws = [] then acc else acc ++ [ws]) := by rw [splitGo, hm]
          rw [e1, e2]
          exact ih (n + k) _ f' (by omega) (by omega) (by omega)
  exact key (l.length + 1) 0 [] ((l ++ m).length + 1) (Nat.zero_le _) (by omega) (by omega)

end Go.Proofs.YtkaododohnncnaaDoor
