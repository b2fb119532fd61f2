/-
  Plain facts: a beginning of what is written of a reply is short, at its end; all replies of two, one behind the other, are these. No program.
-/
import Derived.Test.YtbldahkgilkclaaDoorRzX
namespace Go.Proofs.YtbldahkgilkclaaDoor
open Go.RowKit

/-- From a place on there stands a beginning of a text, and not all of it. -/
def Cut (bs : List UInt8) (i : Nat) (t : List UInt8) : Prop := i ≤ bs.length ∧ ∃ r, r ≠ [] ∧ bs.drop i ++ r = t

theorem Cut.split {bs : List UInt8} {i : Nat} {a b : List UInt8} (h : Cut bs i (a ++ b)) : Cut bs i a ∨ (Cut bs (i + a.length) b ∧ bs.drop i = a ++ bs.drop (i + a.length)) := by
  obtain ⟨hi, r, hr, he⟩ := h
  rcases List.append_eq_append_iff.1 he with ⟨c, hc, hc'⟩ | ⟨c, hc, hc'⟩
  · cases c with
    | nil =>
      rw [List.append_nil] at hc
      right
      have hl : bs.length ≤ i + a.length := by rw [hc, List.length_drop]; omega
      have hl' : i + a.length ≤ bs.length := by rw [hc, List.length_drop]; omega
      refine ⟨⟨hl', r, hr, ?_⟩, ?_⟩
      · rw [List.drop_eq_nil_of_le hl, hc', List.nil_append, List.nil_append]
      · rw [List.drop_eq_nil_of_le hl, hc, List.append_nil]
    | cons x c => exact Or.inl ⟨hi, x :: c, by simp, hc.symm⟩
  · right
    have hl' : i + a.length ≤ bs.length := by
      have := congrArg List.length hc
      rw [List.length_drop, List.length_append] at this
      omega
    have hd : bs.drop (i + a.length) = c := drop_app hc
    exact ⟨⟨hl', r, hr, by rw [hd]; exact hc'.symm⟩, by rw [hd]; exact hc⟩

theorem Cut.one {bs : List UInt8} {i : Nat} {c : UInt8} {t : List UInt8} (h : Cut bs i (c :: t)) : i = bs.length ∨ (¬ bs.length ≤ i ∧ bs.getD i 0 = c ∧ Cut bs (i + 1) t) := by
  obtain ⟨hi, r, hr, he⟩ := h
  by_cases hl : bs.length ≤ i
  · exact Or.inl (by omega)
  · right
    rw [drop_more bs i hl, List.cons_append] at he
    injection he with h1 h2
    exact ⟨hl, h1, by omega, r, hr, h2⟩

theorem Cut.nil {bs : List UInt8} {i : Nat} (h : Cut bs i []) : False := by
  obtain ⟨_, r, hr, he⟩ := h
  exact hr (List.append_eq_nil_iff.1 he).2

/-- From a place on there stands a beginning of a text, and nothing else. -/
def Part (bs : List UInt8) (i : Nat) (t : List UInt8) : Prop := i ≤ bs.length ∧ ∃ r, bs.drop i ++ r = t

theorem Cut.part {bs : List UInt8} {i : Nat} {t : List UInt8} (h : Cut bs i t) : Part bs i t := ⟨h.1, h.2.choose, h.2.choose_spec.2⟩

theorem Part.one {bs : List UInt8} {i : Nat} {c : UInt8} {t : List UInt8} (h : Part bs i (c :: t)) : i = bs.length ∨ (¬ bs.length ≤ i ∧ bs.getD i 0 = c ∧ Part bs (i + 1) t) := by
  obtain ⟨hi, r, he⟩ := h
  by_cases hl : bs.length ≤ i
  · exact Or.inl (by omega)
  · right
    rw [drop_more bs i hl, List.cons_append] at he
    injection he with h1 h2
    exact ⟨hl, h1, by omega, r, h2⟩

/-- A text, and an end of a line behind it: not all of the text is there, or nothing behind it; or the end's first byte is. -/
theorem Cut.line {bs : List UInt8} {i : Nat} {a b : List UInt8} (h : Cut bs i (a ++ 13 :: b)) : Part bs i a ∨ (Cut bs (i + a.length) (13 :: b) ∧ ∃ r, bs.drop i = a ++ 13 :: r) := by
  rcases h.split with k | ⟨k1, k2⟩
  · exact Or.inl k.part
  · rcases k1.one with e | ⟨j1, j2, _⟩
    · rw [List.drop_eq_nil_of_le (show bs.length ≤ i + a.length by omega), List.append_nil] at k2
      exact Or.inl ⟨h.1, [], by rw [k2, List.append_nil]⟩
    · rw [drop_more bs _ j1, j2] at k2
      exact Or.inr ⟨k1, _, k2⟩

theorem mustS_past (bs : List UInt8) (c j : Nat) : mustS bs c (j, 31) = (j, 31) := by unfold mustS; rw [if_neg (show ¬ ((31 : Nat) = 0) from by decide)]
theorem endS_past (bs : List UInt8) (j : Nat) : endS bs (j, 31) = (j, 31) := by unfold endS; rw [mustS_past, mustS_past]
theorem digS_past (bs : List UInt8) (m j : Nat) : digS bs m (j, 31) = (0, (j, 31)) := by unfold digS; rw [if_neg (show ¬ ((31 : Nat) = 0) from by decide)]

theorem mustS_end (bs : List UInt8) (c : Nat) : mustS bs c (bs.length, 0) = (bs.length, 31) := by rw [mustS_at, if_pos (Nat.le_refl _)]
theorem byteS_end (bs : List UInt8) : byteS bs (bs.length, 0) = (0, (bs.length, 31)) := by unfold byteS; simp
theorem byteS_in {bs : List UInt8} {i : Nat} (h : ¬ bs.length ≤ i) : byteS bs (i, 0) = ((bs.getD i 0).toNat, (i, 0)) := by unfold byteS; simp [h]

theorem endS_cut {bs : List UInt8} {i : Nat} (h : Cut bs i [13, 10]) : endS bs (i, 0) = (bs.length, 31) := by
  unfold endS
  rcases h.one with rfl | ⟨h1, h2, h3⟩
  · rw [mustS_end, mustS_past]
  · rw [mustS_at, if_neg h1, if_pos (by rw [h2]; rfl)]
    rcases h3.one with e | ⟨_, _, h4⟩
    · rw [e, mustS_end]
    · exact h4.nil.elim

theorem digL_some (most : Nat) : ∀ (l m : List UInt8) (n v : Nat) (f : Bool), digL most n f (l ++ m) = (v, (l ++ m).length, true) → ∃ v', digL most n f l = (v', l.length, true)
  | [], m, n, v, f, _ => ⟨n, rfl⟩
  | c :: l, m, n, v, f, h => by
    rw [List.cons_append, digL] at h
    by_cases hc : 48 ≤ c.toNat ∧ c.toNat ≤ 57 ∧ (f = true ∨ n ≠ 0) ∧ n * 10 + (c.toNat - 48) ≤ most
    · rw [if_pos hc] at h
      simp only [Prod.mk.injEq, List.length_cons, Nat.add_right_cancel_iff] at h
      obtain ⟨v', e⟩ := digL_some most l m (n * 10 + (c.toNat - 48)) v false (by rw [← h.1, ← h.2.1, ← h.2.2])
      exact ⟨v', by rw [digL, if_pos hc, e, List.length_cons]⟩
    · rw [if_neg hc] at h
      simp at h

theorem digS_cut {bs : List UInt8} {i u most : Nat} (h : Part bs i (Lib.decDigits u)) (hu : u ≤ most) : (digS bs most (i, 0)).2 = (bs.length, 31) := by
  obtain ⟨hi, r, he⟩ := h
  have h1 := digL_dec most u hu
  rw [← he] at h1
  obtain ⟨v, h2⟩ := digL_some most _ _ _ _ _ h1
  unfold digS
  rw [if_pos rfl, h2, List.length_drop, if_pos rfl]
  show (i + (bs.length - i), 31) = _
  rw [show i + (bs.length - i) = bs.length from by omega]

theorem dec_cut_first {bs : List UInt8} {i u : Nat} (h : Part bs i (Lib.decDigits u)) : i = bs.length ∨ (¬ bs.length ≤ i ∧ 48 ≤ (bs.getD i 0).toNat ∧ ((bs.getD i 0).toNat = 48 → u = 0)) := by
  obtain ⟨x, l, hcl, h1, _, h3⟩ := decDigits_head u
  rw [hcl] at h
  rcases h.one with e | ⟨g1, g2, _⟩
  · exact Or.inl e
  · rw [g2]
    exact Or.inr ⟨g1, h1, fun q => h3 (u8_eq (k := 48) (by decide) q)⟩

theorem countS_end (bs : List UInt8) (most : Nat) : (countS bs most (bs.length, 0)).2 = (bs.length, 31) := by
  unfold countS
  rw [byteS_end, if_neg (show ¬ ((0 : Nat) = 45) from by decide), digS_past]

theorem countS_cut {bs : List UInt8} {i u most : Nat} (h : Part bs i (Lib.decDigits u)) (hu : u ≤ most) : (countS bs most (i, 0)).2 = (bs.length, 31) := by
  rcases dec_cut_first h with rfl | ⟨h1, h2, _⟩
  · exact countS_end bs most
  · unfold countS
    rw [byteS_in h1, if_neg (by show ¬ (bs.getD i 0).toNat = 45; omega)]
    exact digS_cut h hu

theorem countS_nil_cut {bs : List UInt8} {i most : Nat} (h : Cut bs i [45, 49]) : (countS bs most (i, 0)).2 = (bs.length, 31) := by
  rcases h.one with rfl | ⟨h1, h2, h3⟩
  · exact countS_end bs most
  · unfold countS
    rw [byteS_in h1, if_pos (by show (bs.getD i 0).toNat = 45; rw [h2]; rfl)]
    rcases h3.one with e | ⟨_, _, h4⟩
    · show mustS bs 49 (i + 1, 0) = _
      rw [e, mustS_end]
    · exact h4.nil.elim

theorem integerS_cut {bs : List UInt8} {i : Nat} {n : Int} (h : Part bs i (Lib.itoa n)) (h0 : -9223372036854775808 ≤ n) (h1 : n ≤ 9223372036854775807) : (integerS bs (i, 0)).2 = (bs.length, 31) := by
  have hend : (integerS bs (bs.length, 0)).2 = (bs.length, 31) := by
    unfold integerS
    rw [byteS_end, if_neg (show ¬ ((0 : Nat) = 45) from by decide), digS_past]
  unfold Lib.itoa at h
  by_cases hn : n < 0
  · rw [if_pos hn] at h
    rcases h.one with rfl | ⟨g1, g2, g3⟩
    · exact hend
    · unfold integerS
      rw [byteS_in g1, if_pos (by show (bs.getD i 0).toNat = 45; rw [g2]; rfl)]
      rcases dec_cut_first g3 with e | ⟨k1, _, k3⟩
      · show (if (byteS bs (i + 1, 0)).1 = 48 then _ else _ : Int × (Nat × Nat)).2 = _
        rw [e, byteS_end, if_neg (show ¬ ((0 : Nat) = 48) from by decide), digS_past]
      · show (if (byteS bs (i + 1, 0)).1 = 48 then _ else _ : Int × (Nat × Nat)).2 = _
        rw [byteS_in k1, if_neg (by show ¬ (bs.getD (i + 1) 0).toNat = 48; intro q; have := k3 q; omega)]
        exact digS_cut g3 (by omega)
  · rw [if_neg hn] at h
    rcases dec_cut_first h with rfl | ⟨k1, k2, _⟩
    · exact hend
    · unfold integerS
      rw [byteS_in k1, if_neg (by show ¬ (bs.getD i 0).toNat = 45; omega)]
      exact digS_cut h (by omega)

theorem scan_cut : ∀ (t : List UInt8) (k : Nat), (∀ c ∈ t, c.toNat ≠ 13 ∧ c.toNat ≠ 10) → k + t.length ≤ 65536 → scanL k t = (k + t.length, 31)
  | [], k, _, _ => by simp [scanL]
  | c :: t, k, h, hk => by
    have hc := h c (by simp)
    rw [List.length_cons] at hk ⊢
    rw [scanL, if_neg hc.1, if_neg (by omega), scan_cut t (k + 1) (fun x hx => h x (by simp [hx])) (by omega)]
    congr 1
    omega

theorem textS_cut {bs : List UInt8} {i : Nat} {t : List UInt8} (h : Cut bs i (t ++ [13, 10])) (ht : ∀ c ∈ t, c.toNat ≠ 13 ∧ c.toNat ≠ 10) (hl : t.length ≤ 65536) : textS bs i = (bs.length, 31) := by
  have part : ∀ s : List UInt8, bs.drop i = s → i ≤ bs.length → (∀ c ∈ s, c.toNat ≠ 13 ∧ c.toNat ≠ 10) → s.length ≤ 65536 → textS bs i = (bs.length, 31) := by
    intro s hs hi h1 h2
    have hlen := congrArg List.length hs
    rw [List.length_drop] at hlen
    have := scan_cut s 0 h1 (by omega)
    unfold textS
    rw [hs, this, if_neg (show ¬ ((31 : Nat) = 0) from by decide)]
    show (i + (0 + s.length), 31) = _
    rw [show i + (0 + s.length) = bs.length from by omega]
  rcases h.split with ⟨hi, r, hr, he⟩ | ⟨h1, h2⟩
  · exact part (bs.drop i) rfl hi (fun c hc => ht c (by rw [← he]; simp [hc])) (by have := congrArg List.length he; rw [List.length_append] at this; omega)
  · rcases h1.one with e | ⟨k1, k2, k3⟩
    · rw [List.drop_eq_nil_of_le (show bs.length ≤ i + t.length by omega), List.append_nil] at h2
      exact part t h2 (by omega) ht hl
    · have hs := scan_read t 0 (bs.drop (i + t.length + 1)) ht (by omega)
      rw [Nat.zero_add] at hs
      have h3 := h2
      rw [drop_more bs _ k1, k2] at h3
      unfold textS
      rw [h3, hs, if_pos rfl]
      exact endS_cut h1

theorem flatS_cut {bs : List UInt8} {i : Nat} (h : Cut bs (i + 1) ([45, 49] ++ [13, 10])) : flatS bs i = (bs.length, 31) := by
  unfold flatS
  rcases h.one with e | ⟨h1, h2, h3⟩
  · rw [e, mustS_end, mustS_past, endS_past]
  · rw [mustS_at, if_neg h1, if_pos (by rw [h2]; rfl)]
    rcases h3.one with e | ⟨h4, h5, h6⟩
    · rw [e, mustS_end, endS_past]
    · rw [mustS_at, if_neg h4, if_pos (by rw [h5]; rfl)]
      exact endS_cut h6

theorem times_cut {bs : List UInt8} {f : Nat → RT × (Nat × Nat)} : ∀ (l : List RT) (i : Nat), Cut bs i (writeR.writeRs l) →
    (∀ x ∈ l, ∀ j r, bs.drop j = writeR x ++ r → f j = (x, (j + (writeR x).length, 0))) → (∀ x ∈ l, ∀ j, Cut bs j (writeR x) → (f j).2 = (bs.length, 31)) → (timesS f l.length (i, 0)).2 = (bs.length, 31)
  | [], i, h, _, _ => h.nil.elim
  | x :: l, i, h, hf, hg => by
    rw [writeR.writeRs] at h
    rw [List.length_cons, timesS_more]
    show (timesS f l.length (f i).2).2 = _
    rcases h.split with h1 | ⟨h1, h2⟩
    · rw [hg x (by simp) i h1]
      cases l with
      | nil => rfl
      | cons y l => rw [List.length_cons, timesS, if_neg (show ¬ ((31 : Nat) = 0) from by decide)]
    · rw [hf x (by simp) i _ h2]
      exact times_cut l _ h1 (fun y hy => hf y (by simp [hy])) (fun y hy => hg y (by simp [hy]))

/-- A beginning of what is written of a reply is short, at its end. -/
theorem reply_cut (bs : List UInt8) {d : Nat} {x : RT} (hm : MayR d x) : ∀ (i : Nat), Cut bs i (writeR x) → (replyS bs d i).2 = (bs.length, 31) := by
  induction hm with
  | line d k t hk ht hl =>
    intro i h
    rcases hk with rfl | rfl
    · have e : writeR (.node 1 t 0 []) = 43 :: (t ++ [13, 10]) := by rw [writeR, if_pos rfl]
      rw [e] at h
      rcases h.one with rfl | ⟨g1, g2, g3⟩
      · rw [replyS_short bs d _ (Nat.le_refl _)]
      · rw [replyS_eq bs d i 43 g1 (by rw [g2]; rfl), if_pos rfl]
        exact textS_cut g3 ht hl
    · have e : writeR (.node 2 t 0 []) = 45 :: (t ++ [13, 10]) := by rw [writeR, if_neg (by decide), if_pos rfl]
      rw [e] at h
      rcases h.one with rfl | ⟨g1, g2, g3⟩
      · rw [replyS_short bs d _ (Nat.le_refl _)]
      · rw [replyS_eq bs d i 45 g1 (by rw [g2]; rfl), if_neg (by decide), if_pos rfl]
        exact textS_cut g3 ht hl
  | int d n h0 h1 =>
    intro i h
    have e : writeR (.node 3 [] n []) = 58 :: (Lib.itoa n ++ [13, 10]) := by rw [writeR, if_neg (by decide), if_neg (by decide), if_pos rfl]
    rw [e] at h
    rcases h.one with rfl | ⟨g1, g2, g3⟩
    · rw [replyS_short bs d _ (Nat.le_refl _)]
    · rw [replyS_eq bs d i 58 g1 (by rw [g2]; rfl), if_neg (by decide), if_neg (by decide), if_pos rfl]
      show endS bs (integerS bs (i + 1, 0)).2 = _
      rcases g3.line with k | ⟨k1, r, k2⟩
      · rw [integerS_cut k h0 h1, endS_past]
      · rw [integerS_read k2 c13 h0 h1]
        exact endS_cut k1
  | bulk d t hl =>
    intro i h
    have e : writeR (.node 4 t 0 []) = 36 :: (Lib.itoa t.length ++ 13 :: 10 :: (t ++ [13, 10])) := by rw [writeR, if_neg (by decide), if_neg (by decide), if_neg (by decide), if_pos rfl]
    rw [e, itoa_nat] at h
    rcases h.one with rfl | ⟨g1, g2, g3⟩
    · rw [replyS_short bs d _ (Nat.le_refl _)]
    · rw [replyS_eq bs d i 36 g1 (by rw [g2]; rfl), if_neg (by decide), if_neg (by decide), if_neg (by decide), if_pos rfl]
      show (dblkS bs (i + 1)).2 = _
      unfold dblkS
      rcases g3.line with k | ⟨k1, r, k2⟩
      · rw [countS_cut k hl, endS_past, if_pos (Or.inl (show ((31 : Nat) ≠ 0) from by decide))]
      · rw [countS_read (most := 65536) k2 c13 hl]
        have k3 : Cut bs (i + 1 + (Lib.decDigits t.length).length) ([13, 10] ++ (t ++ [13, 10])) := k1
        rcases k3.split with j | ⟨j1, j2⟩
        · simp only [endS_cut j]
          rw [if_pos (Or.inl (show ((31 : Nat) ≠ 0) from by decide))]
        · have s2 := endS_read (r := bs.drop (i + 1 + (Lib.decDigits t.length).length + 2)) j2
          simp only [s2]
          rw [if_neg (by rintro (q | q); exact q rfl; omega)]
          have j3 : Cut bs (i + 1 + (Lib.decDigits t.length).length + 2) (t ++ [13, 10]) := j1
          rcases j3.split with m | ⟨m1, m2⟩
          · obtain ⟨m1, r', m2, m3⟩ := m
            have hlen := congrArg List.length m3
            rw [List.length_append, List.length_drop] at hlen
            have hr : 0 < r'.length := List.length_pos_iff.2 m2
            rw [if_pos (by omega)]
          · have hle := m1.1
            rw [if_neg (by omega), Int.toNat_natCast]
            exact endS_cut m1
  | nils d k hk =>
    intro i h
    rcases hk with rfl | rfl
    · have e : writeR (.node 5 [] 0 []) = 36 :: ([45, 49] ++ [13, 10]) := by rw [writeR, if_neg (by decide), if_neg (by decide), if_neg (by decide), if_neg (by decide), if_pos rfl]; rfl
      rw [e] at h
      rcases h.one with rfl | ⟨g1, g2, g3⟩
      · rw [replyS_short bs d _ (Nat.le_refl _)]
      · rw [replyS_eq bs d i 36 g1 (by rw [g2]; rfl), if_neg (by decide), if_neg (by decide), if_neg (by decide), if_pos rfl]
        show (dblkS bs (i + 1)).2 = _
        unfold dblkS
        rcases g3.split with k | ⟨k1, k2⟩
        · rw [countS_nil_cut k, endS_past, if_pos (Or.inl (show ((31 : Nat) ≠ 0) from by decide))]
        · rw [countS_nil (most := 65536) k2]
          rw [if_pos (Or.inr (show (-1 : Int) < 0 from by decide))]
          exact endS_cut k1
    · have e : writeR (.node 7 [] 0 []) = 42 :: ([45, 49] ++ [13, 10]) := by rw [writeR, if_neg (by decide), if_neg (by decide), if_neg (by decide), if_neg (by decide), if_neg (by decide), if_pos rfl]; rfl
      rw [e] at h
      rcases h.one with rfl | ⟨g1, g2, g3⟩
      · rw [replyS_short bs d _ (Nat.le_refl _)]
      · rw [replyS_eq bs d i 42 g1 (by rw [g2]; rfl), if_neg (by decide), if_neg (by decide), if_neg (by decide), if_neg (by decide), if_pos rfl]
        cases d with
        | zero => exact flatS_cut g3
        | succ d =>
          show (arrayS (replyS bs d) bs (i + 1)).2 = _
          unfold arrayS
          rcases g3.split with k | ⟨k1, k2⟩
          · rw [countS_nil_cut k, endS_past, if_pos (Or.inl (show ((31 : Nat) ≠ 0) from by decide))]
          · rw [countS_nil (most := 131072) k2]
            rw [if_pos (Or.inr (show (-1 : Int) < 0 from by decide))]
            exact endS_cut k1
  | arr d l hl h ih =>
    intro i hc
    have e : writeR (.node 6 [] 0 l) = 42 :: (Lib.itoa l.length ++ 13 :: 10 :: writeR.writeRs l) := by rw [writeR, if_neg (by decide), if_neg (by decide), if_neg (by decide), if_neg (by decide), if_neg (by decide), if_neg (by decide)]
    rw [e, itoa_nat] at hc
    rcases hc.one with rfl | ⟨g1, g2, g3⟩
    · rw [replyS_short bs _ _ (Nat.le_refl _)]
    · rw [replyS_eq bs (d + 1) i 42 g1 (by rw [g2]; rfl), if_neg (by decide), if_neg (by decide), if_neg (by decide), if_neg (by decide), if_pos rfl]
      show (arrayS (replyS bs d) bs (i + 1)).2 = _
      unfold arrayS
      rcases g3.line with k | ⟨k1, r, k2⟩
      · rw [countS_cut k hl, endS_past, if_pos (Or.inl (show ((31 : Nat) ≠ 0) from by decide))]
      · rw [countS_read (most := 131072) k2 c13 hl]
        have k3 : Cut bs (i + 1 + (Lib.decDigits l.length).length) ([13, 10] ++ writeR.writeRs l) := k1
        rcases k3.split with j | ⟨j1, j2⟩
        · simp only [endS_cut j]
          rw [if_pos (Or.inl (show ((31 : Nat) ≠ 0) from by decide))]
        · have s2 := endS_read (r := bs.drop (i + 1 + (Lib.decDigits l.length).length + 2)) j2
          simp only [s2]
          rw [if_neg (by rintro (q | q); exact q rfl; omega), Int.toNat_natCast]
          exact times_cut (f := replyS bs d) l _ j1 (fun x hx j r hj => reply_read bs (h x hx) j r hj) (fun x hx j hj => ih x hx j hj)

theorem decode_cut {x : RT} (hm : MayR 8 x) {c : Nat} (hc : c < (writeR x).length) : decS ((writeR x).take c) = (rt0, (c, 31)) := by
  have hl : ((writeR x).take c).length = c := by rw [List.length_take]; omega
  have h : Cut ((writeR x).take c) 0 (writeR x) := ⟨Nat.zero_le _, (writeR x).drop c, by rw [Ne, List.drop_eq_nil_iff]; omega, by rw [List.drop_zero, List.take_append_drop]⟩
  have h1 := reply_cut _ hm 0 h
  unfold decS
  rw [h1, if_neg (show ¬ ((31 : Nat) = 0) from by decide), hl]

theorem decode_nil : decS [] = (rt0, (0, 31)) := by
  unfold decS
  rw [replyS_short [] 8 0 (Nat.le_refl _), if_neg (show ¬ ((31 : Nat) = 0) from by decide)]

/-- All replies of two, one behind the other, are these. -/
theorem all_two {x y : RT} (hx : MayR 8 x) (hy : MayR 8 y) : allS (writeR x ++ writeR y) ((writeR x ++ writeR y).length + 1) 0 = ([x, y], ((writeR x).length + (writeR y).length, 0)) := by
  have hl : (writeR x ++ writeR y).length = (writeR x).length + (writeR y).length := List.length_append
  have h1 := decode_read hx (writeR y)
  have h2 : decS ((writeR x ++ writeR y).drop (0 + (writeR x).length)) = (y, ((writeR y).length, 0)) := by
    rw [Nat.zero_add, List.drop_left]
    have := decode_read hy []
    rwa [List.append_nil] at this
  have h3 : decS ((writeR x ++ writeR y).drop (0 + (writeR x).length + (writeR y).length)) = (rt0, (0, 31)) := by
    rw [List.drop_eq_nil_of_le (by omega)]
    exact decode_nil
  have p1 : 1 ≤ (writeR x).length := by have := decS_pos (writeR x ++ writeR y) (by rw [h1]); rwa [h1] at this
  have p2 : 1 ≤ (writeR y).length := by have := decS_pos _ (show (decS ((writeR x ++ writeR y).drop (0 + (writeR x).length))).2.2 = 0 by rw [h2]); rwa [h2] at this
  obtain ⟨F, hF⟩ : ∃ F, (writeR x ++ writeR y).length + 1 = F + 1 + 1 + 1 := ⟨(writeR x).length + (writeR y).length - 2, by omega⟩
  rw [hF, allS, List.drop_zero, h1]
  simp only [if_true]
  rw [if_neg (by decide), allS, h2]
  simp only [if_true]
  rw [if_neg (by decide), allS, h3, if_pos rfl, Nat.zero_add]

end Go.Proofs.YtbldahkgilkclaaDoor
