/-
  Plain facts about a number that is read digit by digit: what each beginning of its text is, and where it stops, against the document's digits. No program. Plain facts: package reply's numbers against the document's count, integer and flat; no place lies beyond the bytes. No program.
-/
import Derived.Test.YtbldahkgilkclaaDoorRzA
namespace Go.Proofs.YtbldahkgilkclaaDoor
open Go.RowKit

/-- What package reply's number tells, of texts from -lo to most. -/
def numS (bs : List UInt8) (lo : Nat) (most : Int) (i : Nat) : Int × (Nat × Nat) :=
  if bs.length ≤ i then (0, (i, 31))
  else if (bs.getD i 0).toNat = 45 then
    if bs.length ≤ i + 1 then (0, (i + 1, 31)) else if (bs.getD (i + 1) 0).toNat = 48 then (0, (i + 1, 30))
    else (-((digS bs lo (i + 1, 0)).1 : Int), endS bs (digS bs lo (i + 1, 0)).2)
  else if most < 0 then (0, (i, 30))
  else (((digS bs most.toNat (i, 0)).1 : Int), endS bs (digS bs most.toNat (i, 0)).2)

/-- A further byte makes a further digit. -/
def Acc (o : Nat) (M : Int) (k n c : Nat) : Prop := 48 ≤ c ∧ c ≤ 57 ∧ ((k = 0 ∧ (o = 0 ∨ c ≠ 48)) ∨ n ≠ 0) ∧ ((n * 10 + (c - 48) : Nat) : Int) ≤ M

/-- So far k digits of value n, behind o signs. -/
structure NumK (bs : List UInt8) (M : Int) (i o k n : Nat) : Prop where
  dig : DigK bs M.toNat (i + o) k n
  val : digs ((bs.drop (i + o)).take k) 0 = some (-(n : Int))
  zero : k = 0 → n = 0
  head : 0 < k → ((bs.getD (i + o) 0).toNat = 48 ↔ n = 0) ∧ 48 ≤ (bs.getD (i + o) 0).toNat ∧ 0 ≤ M
  neg : 0 < k → o = 0 ∨ n ≠ 0
  fit : 0 < k → i + o + k ≤ bs.length

theorem NumK.start (bs : List UInt8) (M : Int) (i o : Nat) : NumK bs M i o 0 0 :=
  ⟨DigK.start _ _ _, rfl, fun _ => rfl, fun h => absurd h (by decide), fun h => absurd h (by decide), fun h => absurd h (by decide)⟩

theorem take_more (bs : List UInt8) (i k : Nat) (h : ¬ bs.length ≤ i + k) : (bs.drop i).take (k + 1) = (bs.drop i).take k ++ [bs.getD (i + k) 0] := by
  rw [List.take_add_one, List.getElem?_drop, List.getElem?_eq_getElem (by omega), List.getD_eq_getElem?_getD, List.getElem?_eq_getElem (by omega)]
  rfl

theorem NumK.more {bs : List UInt8} {M : Int} {i o k n c : Nat} (h : NumK bs M i o k n) (hl : ¬ bs.length ≤ i + o + k) (hc : (bs.getD (i + o + k) 0).toNat = c) (ha : Acc o M k n c) (hM : M ≤ 9223372036854775808) : NumK bs M i o (k + 1) (n * 10 + (c - 48)) := by
  obtain ⟨h1, h2, h3, h4⟩ := ha
  have hMN : ((M.toNat : Nat) : Int) = M := by omega
  refine ⟨h.dig.more hl c hc ⟨h1, h2, h3.imp And.left id, by omega⟩, ?_, fun q => by omega, fun _ => ?_, fun _ => ?_, fun _ => by omega⟩
  · rw [take_more bs (i + o) k hl, digs_append, h.val]
    simp only [Option.bind_some, digs, hc]
    rw [if_pos ⟨h1, h2, by omega⟩]
    congr 1
    omega
  · rcases Nat.eq_zero_or_pos k with hk | hk
    · subst hk
      have hn := h.zero rfl
      rw [Nat.add_zero] at hc
      rw [hc]
      subst hn
      exact ⟨by omega, h1, by omega⟩
    · obtain ⟨g1, g2, g3⟩ := h.head hk
      refine ⟨?_, g2, g3⟩
      have hn : n ≠ 0 := by rcases h3 with ⟨h3, _⟩ | h3 <;> omega
      constructor
      · intro q; exact absurd (g1.1 q) hn
      · intro q; omega
  · rcases Nat.eq_zero_or_pos k with hk | hk
    · rcases h3 with ⟨_, h3⟩ | h3
      · rcases h3 with h3 | h3
        · exact Or.inl h3
        · right; omega
      · right; omega
    · rcases h.neg hk with g | g
      · exact Or.inl g
      · right; omega

theorem head_take (bs : List UInt8) (i k : Nat) (h : ¬ bs.length ≤ i) : ((bs.drop i).take (k + 1)).head? = some (bs.getD i 0) := by
  rw [drop_more bs i h, List.take_succ_cons, List.head?_cons]

theorem u8_ne45 {x : UInt8} (h : x.toNat ≠ 45) : some x ≠ some 45 := by
  intro e
  injection e with e
  apply h
  rw [e]
  rfl

theorem u8_eq {x : UInt8} {k : Nat} (hk : k < 256) (h : x.toNat = k) : x = UInt8.ofNat k := by
  apply UInt8.toNat_inj.1
  rw [h, UInt8.toNat_ofNat']
  omega

/-- A beginning without a sign. -/
theorem parse_pos {bs : List UInt8} {M : Int} {i k n c : Nat} (h : NumK bs M i 0 k n) (hl : ¬ bs.length ≤ i + k) (hc : (bs.getD (i + k) 0).toNat = c) (h45 : (bs.getD i 0).toNat ≠ 45) (hM : M ≤ 9223372036854775807) :
    (Acc 0 M k n c → parseV ((bs.drop i).take (k + 1)) = some ((n * 10 + (c - 48) : Nat) : Int)) ∧ (¬ Acc 0 M k n c → parseV ((bs.drop i).take (k + 1)) = none ∨ ∃ v, parseV ((bs.drop i).take (k + 1)) = some v ∧ M < v) := by
  have hv := h.val
  rw [Nat.add_zero] at hv
  have hhd := head_take bs i k (by omega)
  have hlen : ((bs.drop i).take (k + 1)).length = k + 1 := by rw [List.length_take, List.length_drop]; omega
  have hdg : digs ((bs.drop i).take (k + 1)) 0 = if 48 ≤ c ∧ c ≤ 57 ∧ -9223372036854775808 ≤ -(n : Int) * 10 - ((c : Int) - 48) then some (-(n : Int) * 10 - ((c : Int) - 48)) else none := by
    rw [take_more bs i k hl, digs_append, hv]
    simp only [Option.bind_some, digs, hc]
  unfold parseV
  rw [hhd, if_neg (u8_ne45 h45), hdg, hlen]
  have hne : ¬ ((bs.drop i).take (k + 1) = []) := by intro e; rw [e] at hlen; simp at hlen
  constructor
  · rintro ⟨h1, h2, h3, h4⟩
    rw [if_neg, if_pos ⟨h1, h2, by omega⟩]
    · simp only [endV]
      rw [if_neg (by decide), if_neg (by omega)]
      congr 1; omega
    · rintro (q | ⟨q1, q2⟩)
      · exact hne q
      · have hk : 0 < k := by omega
        have := (h.head hk).1
        rw [Nat.add_zero] at this
        have q3 : (bs.getD i 0).toNat = 48 := by injection q1 with q1; rw [q1]; rfl
        have := this.1 q3
        rcases h3 with ⟨h3, _⟩ | h3 <;> omega
  · intro ha
    by_cases hz : (bs.drop i).take (k + 1) = [] ∨ (some (bs.getD i 0) = some 48 ∧ 1 < k + 1)
    · exact Or.inl (if_pos hz)
    · rw [if_neg hz]
      by_cases hd : 48 ≤ c ∧ c ≤ 57 ∧ -9223372036854775808 ≤ -(n : Int) * 10 - ((c : Int) - 48)
      · rw [if_pos hd]
        simp only [endV]
        rw [if_neg (by decide)]
        split
        · exact Or.inl rfl
        · refine Or.inr ⟨_, rfl, ?_⟩
          have hk : (k = 0 ∧ (0 = 0 ∨ c ≠ 48)) ∨ n ≠ 0 := by
            rcases Nat.eq_zero_or_pos k with hk | hk
            · exact Or.inl ⟨hk, Or.inl rfl⟩
            · right
              intro hn
              apply hz
              right
              have := (h.head hk).1.2 hn
              rw [Nat.add_zero] at this
              exact ⟨congrArg some (u8_eq (k := 48) (by decide) this), by omega⟩
          have : ¬ ((n * 10 + (c - 48) : Nat) : Int) ≤ M := fun q => ha ⟨hd.1, hd.2.1, hk, q⟩
          omega
      · rw [if_neg hd]
        exact Or.inl rfl

/-- A beginning with a sign. -/
theorem parse_neg {bs : List UInt8} {M : Int} {i k n c : Nat} (h : NumK bs M i 1 k n) (hl : ¬ bs.length ≤ i + 1 + k) (hc : (bs.getD (i + 1 + k) 0).toNat = c) (h45 : (bs.getD i 0).toNat = 45) (hM : M ≤ 9223372036854775808) :
    (Acc 1 M k n c → parseV ((bs.drop i).take (k + 2)) = some (-((n * 10 + (c - 48) : Nat) : Int))) ∧ (¬ Acc 1 M k n c → parseV ((bs.drop i).take (k + 2)) = none ∨ ∃ v, parseV ((bs.drop i).take (k + 2)) = some v ∧ v < -M) := by
  have hv := h.val
  have hhd := head_take bs (i + 1) k (by omega)
  have hlen : ((bs.drop (i + 1)).take (k + 1)).length = k + 1 := by rw [List.length_take, List.length_drop]; omega
  have hdg : digs ((bs.drop (i + 1)).take (k + 1)) 0 = if 48 ≤ c ∧ c ≤ 57 ∧ -9223372036854775808 ≤ -(n : Int) * 10 - ((c : Int) - 48) then some (-(n : Int) * 10 - ((c : Int) - 48)) else none := by
    rw [take_more bs (i + 1) k hl, digs_append, hv]
    simp only [Option.bind_some, digs, hc]
  have hcons : (bs.drop i).take (k + 2) = 45 :: (bs.drop (i + 1)).take (k + 1) := by
    rw [drop_more bs i (by omega), List.take_succ_cons, u8_eq (k := 45) (by decide) h45]
    rfl
  rw [hcons]
  unfold parseV
  rw [List.head?_cons, if_pos rfl, List.tail_cons, hhd, hdg]
  have hne : ¬ ((bs.drop (i + 1)).take (k + 1) = []) := by intro e; rw [e] at hlen; simp at hlen
  constructor
  · rintro ⟨h1, h2, h3, h4⟩
    rw [if_neg, if_pos ⟨h1, h2, by omega⟩]
    · simp only [endV]
      rw [if_pos trivial]
      congr 1; omega
    · rintro (q | q1)
      · exact hne q
      · have q3 : (bs.getD (i + 1) 0).toNat = 48 := by injection q1 with q1; rw [q1]; rfl
        rcases Nat.eq_zero_or_pos k with hk | hk
        · subst hk
          rw [Nat.add_zero] at hc
          have := h.zero rfl
          rcases h3 with ⟨_, h3⟩ | h3 <;> omega
        · have := (h.head hk).1.1 q3
          rcases h.neg hk with g | g <;> omega
  · intro ha
    by_cases hz : (bs.drop (i + 1)).take (k + 1) = [] ∨ some (bs.getD (i + 1) 0) = some 48
    · exact Or.inl (if_pos hz)
    · rw [if_neg hz]
      by_cases hd : 48 ≤ c ∧ c ≤ 57 ∧ -9223372036854775808 ≤ -(n : Int) * 10 - ((c : Int) - 48)
      · rw [if_pos hd]
        simp only [endV]
        rw [if_pos trivial]
        refine Or.inr ⟨_, rfl, ?_⟩
        have hk : (k = 0 ∧ (1 = 0 ∨ c ≠ 48)) ∨ n ≠ 0 := by
          rcases Nat.eq_zero_or_pos k with hk | hk
          · refine Or.inl ⟨hk, Or.inr fun q => hz (Or.inr ?_)⟩
            subst hk
            rw [Nat.add_zero, q] at hc
            exact congrArg some (u8_eq (k := 48) (by decide) hc)
          · rcases h.neg hk with g | g
            · omega
            · exact Or.inr g
        have : ¬ ((n * 10 + (c - 48) : Nat) : Int) ≤ M := fun q => ha ⟨hd.1, hd.2.1, hk, q⟩
        omega
      · rw [if_neg hd]
        exact Or.inl rfl

/-- Which bytes have been looked at, and how: the sign o, the bound M. -/
def Begun (bs : List UInt8) (lo : Nat) (most : Int) (i o : Nat) (M : Int) : Prop :=
  ¬ bs.length ≤ i ∧ ((o = 0 ∧ (bs.getD i 0).toNat ≠ 45 ∧ M = most) ∨ (o = 1 ∧ (bs.getD i 0).toNat = 45 ∧ M = (lo : Int)))

theorem num_short {bs : List UInt8} {lo : Nat} {most M : Int} {i o k n : Nat} (hb : Begun bs lo most i o M) (h : NumK bs M i o k n) (hl : bs.length ≤ i + o + k) : (numS bs lo most i).2 = (i + o + k, 31) := by
  obtain ⟨h0, ⟨rfl, h45, rfl⟩ | ⟨rfl, h45, rfl⟩⟩ := hb
  · have hk : 0 < k := by omega
    have := (h.head hk).2.2
    unfold numS
    rw [if_neg h0, if_neg h45, if_neg (by omega)]
    have hd := h.dig.short hl
    rw [Nat.add_zero] at hd
    rw [hd, Nat.add_zero]
    rfl
  · unfold numS
    rw [if_neg h0, if_pos h45]
    rcases Nat.eq_zero_or_pos k with hk | hk
    · subst hk
      rw [if_pos hl]
    · have hd := h.dig.short hl
      have hf := h.fit hk
      rw [Int.toNat_natCast] at hd
      rw [if_neg (by omega), if_neg (fun q => by have := (h.head hk).1.1 q; rcases h.neg hk with g | g <;> omega), hd]
      rfl

theorem num_stop {bs : List UInt8} {lo : Nat} {most M : Int} {i o k n c : Nat} (hb : Begun bs lo most i o M) (h : NumK bs M i o k n) (hl : ¬ bs.length ≤ i + o + k) (hc : (bs.getD (i + o + k) 0).toNat = c) (ha : ¬ Acc o M k n c) (h13 : c ≠ 13 ∨ k = 0) : (numS bs lo most i).2 = (i + o + k, 30) := by
  have hend : ∀ {f : Nat}, (0 < k → f = 0) → (k = 0 → f = 30) → endS bs (i + o + k, f) = (i + o + k, 30) := by
    intro f hf hf0
    rcases Nat.eq_zero_or_pos k with hk | hk
    · rw [hf0 hk]; rfl
    · rw [hf hk, endS_at, if_neg hl, hc, if_neg (by omega)]
  obtain ⟨h0, ⟨rfl, h45, rfl⟩ | ⟨rfl, h45, rfl⟩⟩ := hb
  · unfold numS
    rw [if_neg h0, if_neg h45]
    by_cases hM : M < 0
    · rw [if_pos hM]
      have hk : k = 0 := by rcases Nat.eq_zero_or_pos k with hk | hk; exact hk; have := (h.head hk).2.2; omega
      subst hk
      rfl
    · rw [if_neg hM]
      have hd := h.dig.stop hl c hc (fun q => ha ⟨q.1, q.2.1, by rcases q.2.2.1 with g | g; exact Or.inl ⟨g, Or.inl rfl⟩; exact Or.inr g, by omega⟩)
      rw [Nat.add_zero] at hd hend ⊢
      rw [hd]
      exact hend (fun q => by rw [if_neg (by omega)]) (fun q => by rw [if_pos q])
  · unfold numS
    rw [if_neg h0, if_pos h45]
    by_cases h48 : (bs.getD (i + 1) 0).toNat = 48
    · have hk : k = 0 := by rcases Nat.eq_zero_or_pos k with hk | hk; exact hk; have := (h.head hk).1.1 h48; rcases h.neg hk with g | g <;> omega
      subst hk
      rw [if_neg (by omega), if_pos h48]
    · have hd := h.dig.stop hl c hc (fun q => ha ⟨q.1, q.2.1, by
        rcases q.2.2.1 with g | g
        · refine Or.inl ⟨g, Or.inr ?_⟩
          subst g
          rw [Nat.add_zero] at hc
          rw [← hc]; exact h48
        · exact Or.inr g, by have := q.2.2.2; rw [Int.toNat_natCast] at this; omega⟩)
      rw [Int.toNat_natCast] at hd
      rw [if_neg (by omega), if_neg h48, hd]
      exact hend (fun q => by rw [if_neg (by omega)]) (fun q => by rw [if_pos q])

theorem num_end {bs : List UInt8} {lo : Nat} {most M : Int} {i o k n : Nat} (hb : Begun bs lo most i o M) (h : NumK bs M i o k n) (hk : 0 < k) (hl : ¬ bs.length ≤ i + o + k) (hc : (bs.getD (i + o + k) 0).toNat = 13) : numS bs lo most i = ((if o = 0 then (n : Int) else -(n : Int)), endS bs (i + o + k, 0)) := by
  obtain ⟨h0, ⟨rfl, h45, rfl⟩ | ⟨rfl, h45, rfl⟩⟩ := hb
  · have := (h.head hk).2.2
    unfold numS
    rw [if_neg h0, if_neg h45, if_neg (by omega)]
    have hd := h.dig.stop hl 13 hc (fun q => by omega)
    rw [Nat.add_zero] at hd ⊢
    rw [hd, if_neg (by omega), if_pos rfl]
  · unfold numS
    rw [if_neg h0, if_pos h45]
    have hd := h.dig.stop hl 13 hc (fun q => by omega)
    rw [Int.toNat_natCast] at hd
    rw [if_neg (by omega), if_neg (fun q => by have := (h.head hk).1.1 q; rcases h.neg hk with g | g <;> omega), hd, if_neg (by omega), if_neg (by decide)]

theorem endS_bad (bs : List UInt8) (i f : Nat) (h : f ≠ 0) : endS bs (i, f) = (i, f) := by
  unfold endS mustS
  simp [h]

theorem endS_one (bs : List UInt8) (i : Nat) : endS bs (i, if bs.length ≤ i then 31 else 0) = endS bs (i, 0) := by
  by_cases h : bs.length ≤ i
  · rw [if_pos h, endS_bad _ _ _ (by decide), endS_at, if_pos h]
  · rw [if_neg h]

theorem mustS_at (bs : List UInt8) (c i : Nat) : mustS bs c (i, 0) = if bs.length ≤ i then (i, 31) else if (bs.getD i 0).toNat = c then (i + 1, 0) else (i, 30) := by
  unfold mustS; rw [if_pos rfl]

/-- A text with a sign that may be -1 alone. -/
theorem num_minus (bs : List UInt8) (most : Int) (i : Nat) (h0 : ¬ bs.length ≤ i) (h45 : (bs.getD i 0).toNat = 45) :
    (numS bs 1 most i).2 = endS bs (mustS bs 49 (i + 1, 0)) ∧ ((numS bs 1 most i).2.2 = 0 → (numS bs 1 most i).1 = -1) := by
  unfold numS
  rw [if_neg h0, if_pos h45, mustS_at]
  by_cases h1 : bs.length ≤ i + 1
  · rw [if_pos h1, if_pos h1, endS_bad _ _ _ (by decide)]
    exact ⟨rfl, fun q => by cases q⟩
  · rw [if_neg h1, if_neg h1]
    by_cases h48 : (bs.getD (i + 1) 0).toNat = 48
    · rw [if_pos h48, if_neg (by omega), endS_bad _ _ _ (by decide)]
      exact ⟨rfl, fun q => by cases q⟩
    · rw [if_neg h48]
      by_cases h49 : (bs.getD (i + 1) 0).toNat = 49
      · have hd : digS bs 1 (i + 1, 0) = (1, (i + 2, if bs.length ≤ i + 2 then 31 else 0)) := by
          unfold digS
          rw [if_pos rfl, drop_more bs (i + 1) h1]
          have e : digL 1 0 true (bs.getD (i + 1) 0 :: bs.drop (i + 2)) = ((digL 1 1 false (bs.drop (i + 2))).1, (digL 1 1 false (bs.drop (i + 2))).2.1 + 1, (digL 1 1 false (bs.drop (i + 2))).2.2) := by
            rw [digL, h49, if_pos (by decide)]
          by_cases h2 : bs.length ≤ i + 2
          · rw [e, List.drop_eq_nil_of_le h2, if_pos h2]
            simp [digL]
          · have e2 : digL 1 1 false (bs.drop (i + 2)) = (1, 0, false) := by
              rw [drop_more bs (i + 2) h2, digL, if_neg (by omega)]
            rw [e, e2, if_neg h2]
            simp
        rw [hd, if_pos h49]
        refine ⟨endS_one bs (i + 2), fun _ => rfl⟩
      · have hd : (digS bs 1 (i + 1, 0)).2 = (i + 1, 30) := by
          unfold digS
          rw [if_pos rfl, drop_more bs (i + 1) h1]
          have e : digL 1 0 true (bs.getD (i + 1) 0 :: bs.drop (i + 1 + 1)) = (0, 0, false) := by
            rw [digL, if_neg (by omega)]
          rw [e]
          rfl
        rw [hd, if_neg h49, endS_bad _ _ _ (by decide)]
        exact ⟨rfl, fun q => by cases q⟩

theorem count_num (bs : List UInt8) (M i : Nat) : (numS bs 1 (M : Int) i).2 = endS bs (countS bs M (i, 0)).2 ∧ ((numS bs 1 (M : Int) i).2.2 = 0 → (numS bs 1 (M : Int) i).1 = (countS bs M (i, 0)).1) := by
  by_cases h0 : bs.length ≤ i
  · have hb : byteS bs (i, 0) = (0, (i, 31)) := by unfold byteS; simp [h0]
    unfold countS numS
    rw [hb, if_pos h0, if_neg (by simp)]
    refine ⟨?_, fun q => by cases q⟩
    show (i, 31) = endS bs (digS bs M (i, 31)).2
    unfold digS
    rw [if_neg (by simp), endS_bad _ _ _ (by decide)]
  · have hb : byteS bs (i, 0) = ((bs.getD i 0).toNat, (i, 0)) := by unfold byteS; simp [h0]
    by_cases h45 : (bs.getD i 0).toNat = 45
    · have := num_minus bs M i h0 h45
      unfold countS
      rw [hb, if_pos h45]
      exact this
    · unfold countS numS
      rw [hb, if_neg h0, if_neg h45, if_neg h45, if_neg (by omega)]
      exact ⟨rfl, fun _ => rfl⟩

theorem flat_num (bs : List UInt8) (i : Nat) : (numS bs 1 (-1) (i + 1)).2 = flatS bs i ∧ ((numS bs 1 (-1) (i + 1)).2.2 = 0 → (numS bs 1 (-1) (i + 1)).1 = -1) := by
  unfold flatS
  rw [mustS_at]
  by_cases h0 : bs.length ≤ i + 1
  · have hn : numS bs 1 (-1) (i + 1) = (0, (i + 1, 31)) := by unfold numS; rw [if_pos h0]
    rw [hn, if_pos h0]
    refine ⟨?_, fun q => by cases q⟩
    rw [show mustS bs 49 (i + 1, 31) = (i + 1, 31) from by unfold mustS; rw [if_neg (by simp)], endS_bad _ _ _ (by decide)]
  · by_cases h45 : (bs.getD (i + 1) 0).toNat = 45
    · rw [if_neg h0, if_pos h45]
      exact num_minus bs (-1) (i + 1) h0 h45
    · have hn : numS bs 1 (-1) (i + 1) = (0, (i + 1, 30)) := by unfold numS; rw [if_neg h0, if_neg h45, if_pos (by decide)]
      rw [hn, if_neg h0, if_neg h45]
      refine ⟨?_, fun q => by cases q⟩
      rw [show mustS bs 49 (i + 1, 30) = (i + 1, 30) from by unfold mustS; rw [if_neg (by simp)], endS_bad _ _ _ (by decide)]

theorem integer_num (bs : List UInt8) (i : Nat) : (numS bs 9223372036854775808 9223372036854775807 i).2 = endS bs (integerS bs (i, 0)).2 ∧ ((numS bs 9223372036854775808 9223372036854775807 i).2.2 = 0 → (numS bs 9223372036854775808 9223372036854775807 i).1 = (integerS bs (i, 0)).1) := by
  have hbad : ∀ m j f, f ≠ 0 → digS bs m (j, f) = (0, (j, f)) := fun m j f hf => by unfold digS; rw [if_neg hf]
  by_cases h0 : bs.length ≤ i
  · have hb : byteS bs (i, 0) = (0, (i, 31)) := by unfold byteS; simp [h0]
    unfold integerS numS
    rw [hb, if_pos h0, if_neg (by simp), hbad _ _ _ (by decide), endS_bad _ _ _ (by decide)]
    exact ⟨rfl, fun q => by cases q⟩
  · have hb : byteS bs (i, 0) = ((bs.getD i 0).toNat, (i, 0)) := by unfold byteS; simp [h0]
    unfold integerS numS
    rw [hb, if_neg h0]
    by_cases h45 : (bs.getD i 0).toNat = 45
    · rw [if_pos h45, if_pos h45]
      by_cases h1 : bs.length ≤ i + 1
      · have hb1 : byteS bs (i + 1, 0) = (0, (i + 1, 31)) := by unfold byteS; simp [h1]
        rw [hb1, if_pos h1, if_neg (by simp), hbad _ _ _ (by decide), endS_bad _ _ _ (by decide)]
        exact ⟨rfl, fun q => by cases q⟩
      · have hb1 : byteS bs (i + 1, 0) = ((bs.getD (i + 1) 0).toNat, (i + 1, 0)) := by unfold byteS; simp [h1]
        rw [hb1, if_neg h1]
        by_cases h48 : (bs.getD (i + 1) 0).toNat = 48
        · rw [if_pos h48, if_pos h48, show failS bs (i + 1, 0) = (i + 1, 30) from by unfold failS; rw [if_pos rfl, if_neg h1], endS_bad _ _ _ (by decide)]
          exact ⟨rfl, fun q => by cases q⟩
        · rw [if_neg h48, if_neg h48]
          exact ⟨rfl, fun _ => rfl⟩
    · rw [if_neg h45, if_neg h45, if_neg (by decide)]
      exact ⟨rfl, fun _ => rfl⟩

end Go.Proofs.YtbldahkgilkclaaDoor
