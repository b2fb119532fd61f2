/-
  Plain facts: what is written of a reply that may be is read as it, whatever stands behind it. No program.
-/
import Derived.Test.YtbldahkgilkclaaDoorRzT
namespace Go.Proofs.YtbldahkgilkclaaDoor
open Go.RowKit

theorem drop_cons {bs : List UInt8} {i : Nat} {c : UInt8} {r : List UInt8} (h : bs.drop i = c :: r) : ¬ bs.length ≤ i ∧ bs.getD i 0 = c ∧ bs.drop (i + 1) = r := by
  have hl : ¬ bs.length ≤ i := fun q => by rw [List.drop_eq_nil_of_le q] at h; cases h
  have := drop_more bs i hl
  rw [h] at this
  injection this with h1 h2
  exact ⟨hl, h1.symm, h2.symm⟩

theorem drop_app {bs : List UInt8} {i : Nat} {x y : List UInt8} (h : bs.drop i = x ++ y) : bs.drop (i + x.length) = y := by
  rw [← List.drop_drop, h, List.drop_left]

theorem endS_read {bs : List UInt8} {i : Nat} {r : List UInt8} (h : bs.drop i = 13 :: 10 :: r) : endS bs (i, 0) = (i + 2, 0) := by
  obtain ⟨h1, h2, h3⟩ := drop_cons h
  obtain ⟨h4, h5, _⟩ := drop_cons h3
  rw [endS_at, if_neg h1, if_pos (by rw [h2]; rfl), if_neg h4, if_pos (by rw [h5]; rfl)]

/-- A text without an end of a line is passed over. -/
theorem scan_read : ∀ (t : List UInt8) (k : Nat) (r : List UInt8), (∀ c ∈ t, c.toNat ≠ 13 ∧ c.toNat ≠ 10) → k + t.length ≤ 65536 → scanL k (t ++ 13 :: r) = (k + t.length, 0)
  | [], k, r, _, _ => by simp [scanL]
  | c :: t, k, r, h, hk => by
    have hc := h c (by simp)
    rw [List.length_cons] at hk ⊢
    rw [List.cons_append, scanL, if_neg hc.1, if_neg (by omega), scan_read t (k + 1) r (fun x hx => h x (by simp [hx])) (by omega)]
    congr 1
    omega

theorem textS_read {bs : List UInt8} {i : Nat} {t r : List UInt8} (h : bs.drop i = t ++ 13 :: 10 :: r) (ht : ∀ c ∈ t, c.toNat ≠ 13 ∧ c.toNat ≠ 10) (hl : t.length ≤ 65536) : textS bs i = (i + t.length + 2, 0) ∧ textB bs i = t := by
  have hs := scan_read t 0 (10 :: r) ht (by omega)
  rw [Nat.zero_add] at hs
  unfold textS textB
  rw [h, hs, if_pos rfl]
  exact ⟨endS_read (drop_app h), List.take_left⟩

/-- All of a number's digits. -/
theorem digL_app (most : Nat) : ∀ (l m : List UInt8) (n v : Nat) (f : Bool), digL most n f l = (v, l.length, true) → digL most n f (l ++ m) = ((digL most v (f && l.isEmpty) m).1, (digL most v (f && l.isEmpty) m).2.1 + l.length, (digL most v (f && l.isEmpty) m).2.2)
  | [], m, n, v, f, h => by
    simp only [digL, Prod.mk.injEq] at h
    obtain ⟨rfl, _, _⟩ := h
    simp
  | c :: l, m, n, v, f, h => by
    rw [digL] at h
    by_cases hc : 48 ≤ c.toNat ∧ c.toNat ≤ 57 ∧ (f = true ∨ n ≠ 0) ∧ n * 10 + (c.toNat - 48) ≤ most
    · rw [if_pos hc] at h
      simp only [Prod.mk.injEq, List.length_cons, Nat.add_right_cancel_iff] at h
      have ih := digL_app most l m (n * 10 + (c.toNat - 48)) v false (by rw [← h.1, ← h.2.1, ← h.2.2])
      rw [List.cons_append, digL, if_pos hc, ih]
      simp only [Bool.false_and, List.isEmpty_cons, Bool.and_false, List.length_cons, Prod.mk.injEq, true_and, and_true]
      omega
    · rw [if_neg hc] at h
      simp at h

theorem digL_dec (most : Nat) (u : Nat) : u ≤ most → digL most 0 true (Lib.decDigits u) = (u, (Lib.decDigits u).length, true) := by
  induction u using Nat.strongRecOn with
  | ind u ih =>
    intro hu
    rw [Lib.decDigits]
    split
    · rename_i h
      have e : (UInt8.ofNat (48 + u)).toNat = 48 + u := by rw [UInt8.toNat_ofNat']; omega
      simp only [digL, e]
      rw [if_pos ⟨by omega, by omega, Or.inl trivial, by omega⟩]
      simp
    · rename_i h
      have e : (UInt8.ofNat (48 + u % 10)).toNat = 48 + u % 10 := by rw [UInt8.toNat_ofNat']; omega
      have h1 := ih (u / 10) (by omega) (by omega)
      obtain ⟨c, l, hcl, _⟩ := decDigits_head (u / 10)
      rw [digL_app most _ _ _ _ _ h1]
      have hne : (Lib.decDigits (u / 10)).isEmpty = false := by rw [hcl]; rfl
      simp only [hne, Bool.and_false, digL, e]
      rw [if_pos ⟨by omega, by omega, Or.inr (by omega), by omega⟩]
      simp
      omega

theorem digS_read {bs : List UInt8} {i u most : Nat} {c : UInt8} {r : List UInt8} (h : bs.drop i = Lib.decDigits u ++ c :: r) (hc : ¬ (48 ≤ c.toNat ∧ c.toNat ≤ 57)) (hu : u ≤ most) : digS bs most (i, 0) = (u, (i + (Lib.decDigits u).length, 0)) := by
  obtain ⟨x, l, hcl, _⟩ := decDigits_head u
  have h1 := digL_app most _ (c :: r) _ _ _ (digL_dec most u hu)
  have hne : (Lib.decDigits u).isEmpty = false := by rw [hcl]; rfl
  have hz : digL most u (true && (Lib.decDigits u).isEmpty) (c :: r) = (u, 0, false) := by rw [digL, if_neg (fun q => hc ⟨q.1, q.2.1⟩)]
  rw [hz] at h1
  unfold digS
  rw [if_pos rfl, h, h1]
  simp only [Nat.zero_add, Bool.false_eq_true, if_false, Prod.mk.injEq, true_and]
  rw [if_neg (by rw [hcl]; simp)]

theorem dec_first {bs : List UInt8} {i u : Nat} {r : List UInt8} (h : bs.drop i = Lib.decDigits u ++ r) : ¬ bs.length ≤ i ∧ 48 ≤ (bs.getD i 0).toNat ∧ (bs.getD i 0).toNat ≤ 57 ∧ ((bs.getD i 0).toNat = 48 → u = 0) := by
  obtain ⟨x, l, hcl, h1, h2, h3⟩ := decDigits_head u
  rw [hcl, List.cons_append] at h
  obtain ⟨g1, g2, _⟩ := drop_cons h
  rw [g2]
  exact ⟨g1, h1, h2, fun q => h3 (u8_eq (k := 48) (by decide) q)⟩

theorem countS_read {bs : List UInt8} {i u most : Nat} {c : UInt8} {r : List UInt8} (h : bs.drop i = Lib.decDigits u ++ c :: r) (hc : ¬ (48 ≤ c.toNat ∧ c.toNat ≤ 57)) (hu : u ≤ most) : countS bs most (i, 0) = ((u : Int), (i + (Lib.decDigits u).length, 0)) := by
  obtain ⟨h1, h2, h3, _⟩ := dec_first h
  have hb : byteS bs (i, 0) = ((bs.getD i 0).toNat, (i, 0)) := by unfold byteS; simp [h1]
  unfold countS
  rw [hb, if_neg (by show ¬ (bs.getD i 0).toNat = 45; omega), digS_read h hc hu]

theorem countS_nil {bs : List UInt8} {i most : Nat} {r : List UInt8} (h : bs.drop i = 45 :: 49 :: r) : countS bs most (i, 0) = (-1, (i + 2, 0)) := by
  obtain ⟨h1, h2, h3⟩ := drop_cons h
  obtain ⟨h4, h5, _⟩ := drop_cons h3
  have hb : byteS bs (i, 0) = (45, (i, 0)) := by unfold byteS; simp only [if_true]; rw [if_neg h1, h2]; rfl
  unfold countS
  rw [hb, if_pos rfl, mustS_at, if_neg h4, if_pos (by rw [h5]; rfl)]

theorem integerS_read {bs : List UInt8} {i : Nat} {n : Int} {c : UInt8} {r : List UInt8} (h : bs.drop i = Lib.itoa n ++ c :: r) (hc : ¬ (48 ≤ c.toNat ∧ c.toNat ≤ 57)) (h0 : -9223372036854775808 ≤ n) (h1 : n ≤ 9223372036854775807) : integerS bs (i, 0) = (n, (i + (Lib.itoa n).length, 0)) := by
  unfold Lib.itoa at h ⊢
  by_cases hn : n < 0
  · rw [if_pos hn] at h ⊢
    rw [List.cons_append] at h
    obtain ⟨g1, g2, g3⟩ := drop_cons h
    obtain ⟨k1, k2, k3, k4⟩ := dec_first g3
    have hb : byteS bs (i, 0) = (45, (i, 0)) := by unfold byteS; simp only [if_true]; rw [if_neg g1, g2]; rfl
    have hb1 : byteS bs (i + 1, 0) = ((bs.getD (i + 1) 0).toNat, (i + 1, 0)) := by unfold byteS; simp [k1]
    unfold integerS
    rw [hb, if_pos rfl, hb1, if_neg (by show ¬ (bs.getD (i + 1) 0).toNat = 48; intro q; have := k4 q; omega), digS_read g3 hc (by omega), List.length_cons]
    simp only [Prod.mk.injEq]
    exact ⟨by omega, by omega, trivial⟩
  · rw [if_neg hn] at h ⊢
    obtain ⟨k1, k2, k3, k4⟩ := dec_first h
    have hb : byteS bs (i, 0) = ((bs.getD i 0).toNat, (i, 0)) := by unfold byteS; simp [k1]
    unfold integerS
    rw [hb, if_neg (by show ¬ (bs.getD i 0).toNat = 45; omega), digS_read h hc (by omega)]
    rw [show ((n.toNat : Nat) : Int) = n from by omega]

/-- A reply's bytes. -/
def writeR : RT → List UInt8
  | .node k t n l =>
    if k = 1 then 43 :: (t ++ [13, 10])
    else if k = 2 then 45 :: (t ++ [13, 10])
    else if k = 3 then 58 :: (Lib.itoa n ++ [13, 10])
    else if k = 4 then 36 :: (Lib.itoa t.length ++ 13 :: 10 :: (t ++ [13, 10]))
    else if k = 5 then [36, 45, 49, 13, 10]
    else if k = 7 then [42, 45, 49, 13, 10]
    else 42 :: (Lib.itoa l.length ++ 13 :: 10 :: writeRs l)
where
  writeRs : List RT → List UInt8
  | [] => []
  | x :: l => writeR x ++ writeRs l

/-- A reply may be, where so many arrays more may stand in one another. -/
inductive MayR : Nat → RT → Prop
  | line (d k : Nat) (t : List UInt8) (hk : k = 1 ∨ k = 2) (ht : ∀ c ∈ t, c.toNat ≠ 13 ∧ c.toNat ≠ 10) (hl : t.length ≤ 65536) : MayR d (.node k t 0 [])
  | int (d : Nat) (n : Int) (h0 : -9223372036854775808 ≤ n) (h1 : n ≤ 9223372036854775807) : MayR d (.node 3 [] n [])
  | bulk (d : Nat) (t : List UInt8) (hl : t.length ≤ 65536) : MayR d (.node 4 t 0 [])
  | nils (d k : Nat) (hk : k = 5 ∨ k = 7) : MayR d (.node k [] 0 [])
  | arr (d : Nat) (l : List RT) (hl : l.length ≤ 131072) (h : ∀ x ∈ l, MayR d x) : MayR (d + 1) (.node 6 [] 0 l)

theorem times_read {bs : List UInt8} {f : Nat → RT × (Nat × Nat)} : ∀ (l : List RT) (i : Nat) (r : List UInt8), bs.drop i = writeR.writeRs l ++ r →
    (∀ x ∈ l, ∀ j r, bs.drop j = writeR x ++ r → f j = (x, (j + (writeR x).length, 0))) → timesS f l.length (i, 0) = (l, (i + (writeR.writeRs l).length, 0))
  | [], i, r, _, _ => by simp [timesS, writeR.writeRs]
  | x :: l, i, r, h, hf => by
    rw [writeR.writeRs, List.append_assoc] at h
    have h1 := hf x (by simp) i _ h
    have h2 := times_read l (i + (writeR x).length) r (drop_app h) (fun y hy => hf y (by simp [hy]))
    rw [List.length_cons, timesS_more, h1]
    show (x :: (timesS f l.length (i + (writeR x).length, 0)).1, (timesS f l.length (i + (writeR x).length, 0)).2) = _
    rw [h2, writeR.writeRs, List.length_append, Nat.add_assoc]

theorem c13 : ¬ (48 ≤ (13 : UInt8).toNat ∧ (13 : UInt8).toNat ≤ 57) := by decide

/-- THERE AND BACK: what is written of a reply that may be is read as it. -/
theorem reply_read (bs : List UInt8) {d : Nat} {x : RT} (hm : MayR d x) : ∀ (i : Nat) (r : List UInt8), bs.drop i = writeR x ++ r → replyS bs d i = (x, (i + (writeR x).length, 0)) := by
  induction hm with
  | line d k t hk ht hl =>
    intro i r h
    rcases hk with rfl | rfl
    · have e : writeR (.node 1 t 0 []) = 43 :: (t ++ [13, 10]) := by rw [writeR, if_pos rfl]
      rw [e] at h ⊢
      obtain ⟨g1, g2, g3⟩ := drop_cons h
      obtain ⟨s1, s2⟩ := textS_read (i := i + 1) (t := t) (r := r) (by rw [g3]; simp) ht hl
      rw [replyS_eq bs d i 43 g1 (by rw [g2]; rfl), if_pos rfl, s1, s2]
      simp only [List.length_cons, List.length_append, List.length_nil, Prod.mk.injEq, true_and, and_true]
      omega
    · have e : writeR (.node 2 t 0 []) = 45 :: (t ++ [13, 10]) := by rw [writeR, if_neg (by decide), if_pos rfl]
      rw [e] at h ⊢
      obtain ⟨g1, g2, g3⟩ := drop_cons h
      obtain ⟨s1, s2⟩ := textS_read (i := i + 1) (t := t) (r := r) (by rw [g3]; simp) ht hl
      rw [replyS_eq bs d i 45 g1 (by rw [g2]; rfl), if_neg (by decide), if_pos rfl, s1, s2]
      simp only [List.length_cons, List.length_append, List.length_nil, Prod.mk.injEq, true_and, and_true]
      omega
  | int d n h0 h1 =>
    intro i r h
    have e : writeR (.node 3 [] n []) = 58 :: (Lib.itoa n ++ [13, 10]) := by rw [writeR, if_neg (by decide), if_neg (by decide), if_pos rfl]
    rw [e] at h ⊢
    obtain ⟨g1, g2, g3⟩ := drop_cons h
    have g4 : bs.drop (i + 1) = Lib.itoa n ++ 13 :: 10 :: r := by rw [g3]; simp
    have s1 := integerS_read g4 c13 h0 h1
    rw [replyS_eq bs d i 58 g1 (by rw [g2]; rfl), if_neg (by decide), if_neg (by decide), if_pos rfl, s1, endS_read (drop_app g4)]
    simp only [List.length_cons, List.length_append, List.length_nil, Prod.mk.injEq, true_and, and_true]
    omega
  | bulk d t hl =>
    intro i r h
    have e : writeR (.node 4 t 0 []) = 36 :: (Lib.itoa t.length ++ 13 :: 10 :: (t ++ [13, 10])) := by rw [writeR, if_neg (by decide), if_neg (by decide), if_neg (by decide), if_pos rfl]
    rw [e, itoa_nat] at h ⊢
    obtain ⟨g1, g2, g3⟩ := drop_cons h
    have g4 : bs.drop (i + 1) = Lib.decDigits t.length ++ 13 :: 10 :: (t ++ 13 :: 10 :: r) := by rw [g3]; simp
    have s1 := countS_read (most := 65536) g4 c13 hl
    have g5 := drop_app g4
    have s2 := endS_read g5
    have g6 : bs.drop (i + 1 + (Lib.decDigits t.length).length + 2) = t ++ 13 :: 10 :: r := by
      rw [← List.drop_drop, g5]; rfl
    have s3 := endS_read (drop_app g6)
    have hlen : (bs.drop (i + 1 + (Lib.decDigits t.length).length + 2)).length = t.length + 2 + r.length := by rw [g6]; simp; omega
    rw [List.length_drop] at hlen
    have hdb : dblkS bs (i + 1) = ((4, t), (i + 1 + (Lib.decDigits t.length).length + 2 + t.length + 2, 0)) := by
      unfold dblkS
      rw [s1]
      simp only [s2]
      rw [if_neg (by rintro (q | q); exact q rfl; omega), if_neg (by omega), Int.toNat_natCast, g6, List.take_left, s3]
    rw [replyS_eq bs d i 36 g1 (by rw [g2]; rfl), if_neg (by decide), if_neg (by decide), if_neg (by decide), if_pos rfl, hdb]
    simp only [List.length_cons, List.length_append, List.length_nil, Prod.mk.injEq, true_and, and_true]
    omega
  | nils d k hk =>
    intro i r h
    rcases hk with rfl | rfl
    · have e : writeR (.node 5 [] 0 []) = [36, 45, 49, 13, 10] := by rw [writeR, if_neg (by decide), if_neg (by decide), if_neg (by decide), if_neg (by decide), if_pos rfl]
      rw [e] at h ⊢
      obtain ⟨g1, g2, g3⟩ := drop_cons h
      have s1 := countS_nil (most := 65536) g3
      have g5 : bs.drop (i + 1 + 2) = 13 :: 10 :: r := by rw [← List.drop_drop, g3]; rfl
      have s2 := endS_read g5
      have hdb : dblkS bs (i + 1) = ((5, []), (i + 1 + 2 + 2, 0)) := by
        unfold dblkS
        rw [s1]
        simp only [s2]
        rw [if_pos (Or.inr (by decide))]
      rw [replyS_eq bs d i 36 g1 (by rw [g2]; rfl), if_neg (by decide), if_neg (by decide), if_neg (by decide), if_pos rfl, hdb]
      rfl
    · have e : writeR (.node 7 [] 0 []) = [42, 45, 49, 13, 10] := by rw [writeR, if_neg (by decide), if_neg (by decide), if_neg (by decide), if_neg (by decide), if_neg (by decide), if_pos rfl]
      rw [e] at h ⊢
      obtain ⟨g1, g2, g3⟩ := drop_cons h
      have g5 : bs.drop (i + 1 + 2) = 13 :: 10 :: r := by rw [← List.drop_drop, g3]; rfl
      have s2 := endS_read g5
      rw [replyS_eq bs d i 42 g1 (by rw [g2]; rfl), if_neg (by decide), if_neg (by decide), if_neg (by decide), if_neg (by decide), if_pos rfl]
      cases d with
      | zero =>
        obtain ⟨k1, k2, k3⟩ := drop_cons g3
        obtain ⟨k4, k5, _⟩ := drop_cons k3
        show (RT.node 7 [] 0 [], flatS bs i) = _
        unfold flatS
        rw [mustS_at, if_neg k1, if_pos (by rw [k2]; rfl), mustS_at, if_neg k4, if_pos (by rw [k5]; rfl), s2]
        rfl
      | succ d =>
        have s1 := countS_nil (most := 131072) g3
        show arrayS (replyS bs d) bs (i + 1) = _
        unfold arrayS
        rw [s1]
        simp only [s2]
        rw [if_pos (Or.inr (by decide))]
        rfl
  | arr d l hl h ih =>
    intro i r h
    have e : writeR (.node 6 [] 0 l) = 42 :: (Lib.itoa l.length ++ 13 :: 10 :: writeR.writeRs l) := by rw [writeR, if_neg (by decide), if_neg (by decide), if_neg (by decide), if_neg (by decide), if_neg (by decide), if_neg (by decide)]
    rw [e, itoa_nat] at h ⊢
    obtain ⟨g1, g2, g3⟩ := drop_cons h
    have g4 : bs.drop (i + 1) = Lib.decDigits l.length ++ 13 :: 10 :: (writeR.writeRs l ++ r) := by rw [g3]; simp
    have s1 := countS_read (most := 131072) g4 c13 hl
    have g5 := drop_app g4
    have s2 := endS_read g5
    have g6 : bs.drop (i + 1 + (Lib.decDigits l.length).length + 2) = writeR.writeRs l ++ r := by rw [← List.drop_drop, g5]; rfl
    have s3 := times_read (f := replyS bs d) l _ r g6 (fun x hx j r hj => ih x hx j r hj)
    rw [replyS_eq bs (d + 1) i 42 g1 (by rw [g2]; rfl), if_neg (by decide), if_neg (by decide), if_neg (by decide), if_neg (by decide), if_pos rfl]
    show arrayS (replyS bs d) bs (i + 1) = _
    unfold arrayS
    rw [s1]
    simp only [s2]
    rw [if_neg (by rintro (q | q); exact q rfl; omega), Int.toNat_natCast, s3]
    simp only [List.length_cons, List.length_append, Prod.mk.injEq, true_and, and_true]
    omega

theorem decode_read {x : RT} (hm : MayR 8 x) (r : List UInt8) : decS (writeR x ++ r) = (x, ((writeR x).length, 0)) := by
  have h := reply_read (writeR x ++ r) hm 0 r (by rw [List.drop_zero])
  rw [Nat.zero_add] at h
  unfold decS
  rw [h, if_pos rfl]

end Go.Proofs.YtbldahkgilkclaaDoor
