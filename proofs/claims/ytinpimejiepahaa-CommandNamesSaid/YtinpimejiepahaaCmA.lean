/-
  Layer 11, plain: the table of all commands, by name; a name in small letters; what a name, arguments name. No program's code.
-/
import Derived.Test.YtinpimejiepahaaMbA
namespace Go.Proofs.Ytinpimejiepahaa

/-- A row of a group's table: name, arity, whether it writes, first, last, step. -/
abbrev Rw := Tx × Int × Bool × Int × Int × Int
/-- A command: name, group, arity, whether it writes, first, last, step. -/
abbrev Sp := Tx × Int × Int × Bool × Int × Int × Int
def toSp (g : Int) (r : Rw) : Sp := (r.1, g, r.2)

/-- The rows of group 1. -/
def rw1 : List Rw := [([103, 101, 116], 2, false, 1, 1, 1),
  ([115, 101, 116], (-3), true, 1, 1, 1),
  ([103, 101, 116, 115, 101, 116], 3, true, 1, 1, 1),
  ([103, 101, 116, 100, 101, 108], 2, true, 1, 1, 1),
  ([115, 101, 116, 110, 120], 3, true, 1, 1, 1),
  ([115, 101, 116, 101, 120], 4, true, 1, 1, 1),
  ([112, 115, 101, 116, 101, 120], 4, true, 1, 1, 1),
  ([109, 103, 101, 116], (-2), false, 1, (-1), 1),
  ([109, 115, 101, 116], (-3), true, 1, (-1), 2),
  ([109, 115, 101, 116, 110, 120], (-3), true, 1, (-1), 2),
  ([97, 112, 112, 101, 110, 100], 3, true, 1, 1, 1),
  ([115, 116, 114, 108, 101, 110], 2, false, 1, 1, 1),
  ([103, 101, 116, 114, 97, 110, 103, 101], 4, false, 1, 1, 1),
  ([115, 101, 116, 114, 97, 110, 103, 101], 4, true, 1, 1, 1),
  ([105, 110, 99, 114], 2, true, 1, 1, 1),
  ([100, 101, 99, 114], 2, true, 1, 1, 1),
  ([105, 110, 99, 114, 98, 121], 3, true, 1, 1, 1),
  ([100, 101, 99, 114, 98, 121], 3, true, 1, 1, 1)]

/-- The rows of group 2. -/
def rw2 : List Rw := [([108, 112, 117, 115, 104], (-3), true, 1, 1, 1),
  ([114, 112, 117, 115, 104], (-3), true, 1, 1, 1),
  ([108, 112, 117, 115, 104, 120], (-3), true, 1, 1, 1),
  ([114, 112, 117, 115, 104, 120], (-3), true, 1, 1, 1),
  ([108, 112, 111, 112], (-2), true, 1, 1, 1),
  ([114, 112, 111, 112], (-2), true, 1, 1, 1),
  ([108, 108, 101, 110], 2, false, 1, 1, 1),
  ([108, 114, 97, 110, 103, 101], 4, false, 1, 1, 1),
  ([108, 105, 110, 100, 101, 120], 3, false, 1, 1, 1),
  ([108, 115, 101, 116], 4, true, 1, 1, 1),
  ([108, 114, 101, 109], 4, true, 1, 1, 1),
  ([108, 116, 114, 105, 109], 4, true, 1, 1, 1),
  ([108, 105, 110, 115, 101, 114, 116], 5, true, 1, 1, 1),
  ([114, 112, 111, 112, 108, 112, 117, 115, 104], 3, true, 1, 2, 1),
  ([108, 109, 111, 118, 101], 5, true, 1, 2, 1)]

/-- The rows of group 3. -/
def rw3 : List Rw := [([115, 97, 100, 100], (-3), true, 1, 1, 1),
  ([115, 114, 101, 109], (-3), true, 1, 1, 1),
  ([115, 105, 115, 109, 101, 109, 98, 101, 114], 3, false, 1, 1, 1),
  ([115, 109, 105, 115, 109, 101, 109, 98, 101, 114], (-3), false, 1, 1, 1),
  ([115, 99, 97, 114, 100], 2, false, 1, 1, 1),
  ([115, 109, 101, 109, 98, 101, 114, 115], 2, false, 1, 1, 1),
  ([115, 112, 111, 112], (-2), true, 1, 1, 1),
  ([115, 114, 97, 110, 100, 109, 101, 109, 98, 101, 114], (-2), false, 1, 1, 1),
  ([115, 109, 111, 118, 101], 4, true, 1, 2, 1),
  ([115, 117, 110, 105, 111, 110], (-2), false, 1, (-1), 1),
  ([115, 105, 110, 116, 101, 114], (-2), false, 1, (-1), 1),
  ([115, 100, 105, 102, 102], (-2), false, 1, (-1), 1),
  ([115, 117, 110, 105, 111, 110, 115, 116, 111, 114, 101], (-3), true, 1, (-1), 1),
  ([115, 105, 110, 116, 101, 114, 115, 116, 111, 114, 101], (-3), true, 1, (-1), 1),
  ([115, 100, 105, 102, 102, 115, 116, 111, 114, 101], (-3), true, 1, (-1), 1)]

/-- The rows of group 4. -/
def rw4 : List Rw := [([122, 97, 100, 100], (-4), true, 1, 1, 1),
  ([122, 114, 101, 109], (-3), true, 1, 1, 1),
  ([122, 115, 99, 111, 114, 101], 3, false, 1, 1, 1),
  ([122, 99, 97, 114, 100], 2, false, 1, 1, 1),
  ([122, 99, 111, 117, 110, 116], 4, false, 1, 1, 1),
  ([122, 114, 97, 110, 103, 101], (-4), false, 1, 1, 1),
  ([122, 114, 101, 118, 114, 97, 110, 103, 101], (-4), false, 1, 1, 1),
  ([122, 114, 97, 110, 103, 101, 98, 121, 115, 99, 111, 114, 101], (-4), false, 1, 1, 1),
  ([122, 114, 97, 110, 107], 3, false, 1, 1, 1),
  ([122, 114, 101, 118, 114, 97, 110, 107], 3, false, 1, 1, 1),
  ([122, 105, 110, 99, 114, 98, 121], 4, true, 1, 1, 1),
  ([122, 112, 111, 112, 109, 105, 110], (-2), true, 1, 1, 1),
  ([122, 112, 111, 112, 109, 97, 120], (-2), true, 1, 1, 1),
  ([122, 114, 101, 109, 114, 97, 110, 103, 101, 98, 121, 114, 97, 110, 107], 4, true, 1, 1, 1),
  ([122, 114, 101, 109, 114, 97, 110, 103, 101, 98, 121, 115, 99, 111, 114, 101], 4, true, 1, 1, 1)]

/-- The rows of group 5. -/
def rw5 : List Rw := [([104, 115, 101, 116], (-4), true, 1, 1, 1),
  ([104, 115, 101, 116, 110, 120], 4, true, 1, 1, 1),
  ([104, 103, 101, 116], 3, false, 1, 1, 1),
  ([104, 109, 103, 101, 116], (-3), false, 1, 1, 1),
  ([104, 100, 101, 108], (-3), true, 1, 1, 1),
  ([104, 101, 120, 105, 115, 116, 115], 3, false, 1, 1, 1),
  ([104, 108, 101, 110], 2, false, 1, 1, 1),
  ([104, 107, 101, 121, 115], 2, false, 1, 1, 1),
  ([104, 118, 97, 108, 115], 2, false, 1, 1, 1),
  ([104, 103, 101, 116, 97, 108, 108], 2, false, 1, 1, 1),
  ([104, 105, 110, 99, 114, 98, 121], 4, true, 1, 1, 1),
  ([104, 115, 116, 114, 108, 101, 110], 3, false, 1, 1, 1)]

/-- The rows of group 6. -/
def rw6 : List Rw := [([100, 101, 108], (-2), true, 1, (-1), 1),
  ([101, 120, 105, 115, 116, 115], (-2), false, 1, (-1), 1),
  ([116, 121, 112, 101], 2, false, 1, 1, 1),
  ([101, 120, 112, 105, 114, 101], 3, true, 1, 1, 1),
  ([112, 101, 120, 112, 105, 114, 101], 3, true, 1, 1, 1),
  ([101, 120, 112, 105, 114, 101, 97, 116], 3, true, 1, 1, 1),
  ([112, 101, 120, 112, 105, 114, 101, 97, 116], 3, true, 1, 1, 1),
  ([116, 116, 108], 2, false, 1, 1, 1),
  ([112, 116, 116, 108], 2, false, 1, 1, 1),
  ([112, 101, 114, 115, 105, 115, 116], 2, true, 1, 1, 1),
  ([114, 101, 110, 97, 109, 101], 3, true, 1, 2, 1),
  ([114, 101, 110, 97, 109, 101, 110, 120], 3, true, 1, 2, 1),
  ([107, 101, 121, 115], 2, false, 0, 0, 0),
  ([114, 97, 110, 100, 111, 109, 107, 101, 121], 1, false, 0, 0, 0),
  ([100, 98, 115, 105, 122, 101], 1, false, 0, 0, 0),
  ([102, 108, 117, 115, 104, 97, 108, 108], 1, true, 0, 0, 0)]

/-- The rows of group 7. -/
def rw7 : List Rw := [([112, 105, 110, 103], (-1), false, 0, 0, 0),
  ([101, 99, 104, 111], 2, false, 0, 0, 0),
  ([119, 97, 105, 116], 3, false, 0, 0, 0),
  ([114, 101, 112, 108, 105, 99, 97, 111, 102], 3, false, 0, 0, 0),
  ([114, 101, 112, 108, 99, 111, 110, 102], (-1), false, 0, 0, 0),
  ([112, 115, 121, 110, 99], 3, false, 0, 0, 0),
  ([114, 111, 108, 101], 1, false, 0, 0, 0),
  ([113, 117, 105, 116], 1, false, 0, 0, 0)]

def rowsT : List Sp := rw1.map (toSp 1) ++ (rw2.map (toSp 2) ++ (rw3.map (toSp 3) ++ (rw4.map (toSp 4) ++ (rw5.map (toSp 5) ++ (rw6.map (toSp 6) ++ rw7.map (toSp 7))))))

theorem rows_len : rowsT.length = 99 := by decide +kernel

/-! Small letters, plain texts. -/
def lowN (n : Nat) : Nat := if 65 ≤ n ∧ n ≤ 90 then n + 32 else n
def lowB (c : UInt8) : UInt8 := UInt8.ofNat (lowN c.toNat)
def lowL (l : Tx) : Tx := l.map lowB
theorem lowL_length (l : Tx) : (lowL l).length = l.length := List.length_map _
theorem lowN_lt {n : Nat} (h : n < 256) : lowN n < 256 := by unfold lowN; split <;> omega
theorem lowB_toNat (c : UInt8) : (lowB c).toNat = lowN c.toNat := by
  unfold lowB
  rw [UInt8.toNat_ofNat', Nat.mod_eq_of_lt (lowN_lt c.toNat_lt)]

def plnN (n : Nat) : Nat := if n < 32 ∨ 126 < n then 46 else n
def plnB (c : UInt8) : UInt8 := UInt8.ofNat (plnN c.toNat)
def plnL (l : Tx) : Tx := (l.take 128).map plnB
theorem plnN_lt {n : Nat} (h : n < 256) : plnN n < 256 := by unfold plnN; split <;> omega
theorem plnB_toNat (c : UInt8) : (plnB c).toNat = plnN c.toNat := by
  unfold plnB
  rw [UInt8.toNat_ofNat', Nat.mod_eq_of_lt (plnN_lt c.toNat_lt)]
theorem plnL_length (l : Tx) : (plnL l).length ≤ 128 := by
  unfold plnL
  rw [List.length_map, List.length_take]
  omega

/-! What holds of the table: asked of the kernel. -/
def distB : List Tx → Bool
  | [] => true
  | a :: l => !(l.contains a) && distB l
theorem distB_nodup : ∀ {l : List Tx}, distB l = true → l.Nodup
  | [], _ => List.Pairwise.nil
  | a :: l, h => by
    unfold distB at h
    rw [Bool.and_eq_true, Bool.not_eq_true'] at h
    refine List.pairwise_cons.2 ⟨fun b hb e => ?_, distB_nodup h.2⟩
    subst e
    have := h.1
    rw [List.contains_eq_mem] at this
    exact absurd hb (by simpa using this)

def goodB (s : Sp) : Bool :=
  decide (lowL s.1 = s.1) && decide (s.1.length ≤ 20) && decide (1 ≤ s.1.length) &&
  (decide (s.2.2.2.2.1 = 0) || (decide (s.2.2.2.2.1 = 1) && (decide (s.2.2.2.2.2.2 = 1) || decide (s.2.2.2.2.2.2 = 2)) &&
    ((decide (s.2.2.2.2.2.1 = -1) && decide (s.2.2.1 ≤ -2)) || (decide (1 ≤ s.2.2.2.2.2.1) && decide (s.2.2.2.2.2.1 < 100) && (decide (s.2.2.2.2.2.1 + 1 ≤ s.2.2.1) || decide (s.2.2.1 ≤ -(s.2.2.2.2.2.1 + 1))))))) &&
  decide (-100 ≤ s.2.2.1) && decide (s.2.2.1 ≤ 100) && decide (0 ≤ s.2.1) && decide (s.2.1 ≤ 7)

theorem rows_dist : distB (rowsT.map (·.1)) = true := by decide +kernel
theorem rows_good : rowsT.all goodB = true := by decide +kernel
theorem names_nodup : (rowsT.map (·.1)).Nodup := distB_nodup rows_dist

theorem good_of {s : Sp} (h : s ∈ rowsT) : goodB s = true := List.all_eq_true.1 rows_good s h

structure GoodS (s : Sp) : Prop where
  low : lowL s.1 = s.1
  short : s.1.length ≤ 20
  some : 1 ≤ s.1.length
  keys : s.2.2.2.2.1 = 0 ∨ (s.2.2.2.2.1 = 1 ∧ (s.2.2.2.2.2.2 = 1 ∨ s.2.2.2.2.2.2 = 2) ∧ ((s.2.2.2.2.2.1 = -1 ∧ s.2.2.1 ≤ -2) ∨ (1 ≤ s.2.2.2.2.2.1 ∧ s.2.2.2.2.2.1 < 100 ∧ (s.2.2.2.2.2.1 + 1 ≤ s.2.2.1 ∨ s.2.2.1 ≤ -(s.2.2.2.2.2.1 + 1)))))
  lo : -100 ≤ s.2.2.1
  hi : s.2.2.1 ≤ 100
  glo : 0 ≤ s.2.1
  ghi : s.2.1 ≤ 7
theorem goodS {s : Sp} (h : s ∈ rowsT) : GoodS s := by
  have q := good_of h
  unfold goodB at q
  simp only [Bool.and_eq_true, Bool.or_eq_true, decide_eq_true_eq] at q
  obtain ⟨⟨⟨⟨⟨⟨⟨h1, h2⟩, h3⟩, h4⟩, h5⟩, h6⟩, h7⟩, h8⟩ := q
  refine ⟨h1, h2, h3, ?_, h5, h6, h7, h8⟩
  rcases h4 with q | ⟨⟨q, r⟩, k⟩
  · exact Or.inl q
  · refine Or.inr ⟨q, r, ?_⟩
    rcases k with k | ⟨⟨k1, k2⟩, k3⟩
    · exact Or.inl k
    · exact Or.inr ⟨k1, k2, k3⟩

/-! By name, rising: the document's order. -/
abbrev RisN (l : List Sp) : Prop := l.Pairwise fun a b => a.1 < b.1
/-- How far the document's loop goes down from k. -/
def upK (out : List Sp) (x : Tx) : Nat → Nat
  | 0 => 0
  | k + 1 => match out[k]? with
    | some y => if x < y.1 then upK out x k else k + 1
    | none => k + 1
def insR (out : List Sp) (x : Sp) : List Sp := out.take (upK out x.1 out.length) ++ x :: out.drop (upK out x.1 out.length)
def byN : List Sp := rowsT.foldl insR []

theorem upK_le (out : List Sp) (x : Tx) : ∀ k, upK out x k ≤ k
  | 0 => Nat.le_refl _
  | k + 1 => by
    unfold upK
    split
    · split
      · have := upK_le out x k; omega
      · exact Nat.le_refl _
    · exact Nat.le_refl _
theorem upK_above (out : List Sp) (x : Tx) : ∀ k j y, upK out x k ≤ j → j < k → out[j]? = some y → x < y.1
  | 0, _, _, _, h, _ => absurd h (Nat.not_lt_zero _)
  | k + 1, j, y, h1, h2, hy => by
    unfold upK at h1
    split at h1
    · rename_i z hz
      split at h1
      · rename_i hlt
        rcases (by omega : j = k ∨ j < k) with e | e
        · subst e
          rw [hz] at hy
          injection hy with hy
          rw [← hy]
          exact hlt
        · exact upK_above out x k j y h1 e hy
      · omega
    · omega
theorem upK_at (out : List Sp) (x : Tx) : ∀ k j y, upK out x k = j + 1 → out[j]? = some y → ¬ x < y.1
  | 0, _, _, h, _ => by cases h
  | k + 1, j, y, h, hy => by
    unfold upK at h
    split at h
    · rename_i z hz
      split at h
      · exact upK_at out x k j y h hy
      · rename_i hlt
        have e : j = k := by omega
        subst e
        rw [hz] at hy
        injection hy with hy
        rw [← hy]
        exact hlt
    · rename_i hz
      have e : j = k := by omega
      subst e
      rw [hz] at hy
      cases hy

theorem insR_perm (out : List Sp) (x : Sp) : (insR out x).Perm (x :: out) := by
  unfold insR
  refine List.perm_middle.trans ?_
  rw [List.take_append_drop]
theorem insR_length (out : List Sp) (x : Sp) : (insR out x).length = out.length + 1 := by rw [(insR_perm out x).length_eq]; rfl

theorem insR_ris {out : List Sp} {x : Sp} (h : RisN out) (hx : x.1 ∉ out.map (·.1)) : RisN (insR out x) := by
  have hne : ∀ y ∈ out, ¬ y.1 = x.1 := fun y hy e => hx (by rw [← e]; exact List.mem_map.2 ⟨y, hy, rfl⟩)
  have hab : ∀ (j : Nat) (y : Sp), (out.drop (upK out x.1 out.length))[j]? = some y → x.1 < y.1 := fun j y hy => by
    rw [List.getElem?_drop] at hy
    exact upK_above out x.1 out.length _ y (Nat.le_add_right _ _) (List.getElem?_eq_some_iff.1 hy).1 hy
  have hbe : ∀ (j : Nat) (y : Sp), (out.take (upK out x.1 out.length))[j]? = some y → y.1 < x.1 := fun j y hy => by
    obtain ⟨u, hu⟩ : ∃ u, upK out x.1 out.length = u := ⟨_, rfl⟩
    have hle := upK_le out x.1 out.length
    rw [hu] at hy hle
    rw [List.getElem?_take] at hy
    split at hy
    · rename_i hj
      obtain ⟨v, rfl⟩ : ∃ v, u = v + 1 := ⟨u - 1, by omega⟩
      obtain ⟨z, hz⟩ : ∃ z, out[v]? = some z := ⟨_, List.getElem?_eq_getElem (by omega)⟩
      have h1 := upK_at out x.1 out.length v z hu hz
      have h2 : z.1 < x.1 := by
        rcases tx_ge h1 with e | e
        · exact absurd e.symm (hne z (List.mem_of_getElem? hz))
        · exact e
      rcases (by omega : j = v ∨ j < v) with e | e
      · subst e
        rw [hz] at hy
        injection hy with hy
        rw [← hy]
        exact h2
      · obtain ⟨l1, e1⟩ := List.getElem?_eq_some_iff.1 hy
        obtain ⟨l2, e2⟩ := List.getElem?_eq_some_iff.1 hz
        have := List.pairwise_iff_getElem.1 h j v l1 l2 e
        rw [e1, e2] at this
        exact u8lex_trans this h2
    · cases hy
  unfold insR
  refine List.pairwise_append.2 ⟨h.sublist (List.take_sublist _ _), List.pairwise_cons.2 ⟨fun y hy => ?_, h.sublist (List.drop_sublist _ _)⟩, fun a ha b hb => ?_⟩
  · obtain ⟨j, hj⟩ := List.mem_iff_getElem?.1 hy
    exact hab j y hj
  · obtain ⟨i, hi⟩ := List.mem_iff_getElem?.1 ha
    rcases List.mem_cons.1 hb with e | hb
    · rw [e]
      exact hbe i a hi
    · obtain ⟨j, hj⟩ := List.mem_iff_getElem?.1 hb
      exact u8lex_trans (hbe i a hi) (hab j b hj)

theorem fold_ris : ∀ (l out : List Sp), RisN out → ((out ++ l).map (·.1)).Nodup → RisN (l.foldl insR out) ∧ (l.foldl insR out).Perm (out ++ l)
  | [], out, h, _ => ⟨h, by rw [List.append_nil]; exact List.Perm.refl _⟩
  | x :: l, out, h, hn => by
    have hp : (out ++ x :: l).Perm (insR out x ++ l) := by
      refine List.perm_middle.trans ?_
      exact ((insR_perm out x).symm).append_right l
    have hx : x.1 ∉ out.map (·.1) := fun hm => by
      rw [List.map_append, List.map_cons] at hn
      exact (List.nodup_append.1 hn).2.2 x.1 hm x.1 (List.mem_cons_self ..) rfl
    rw [List.foldl_cons]
    obtain ⟨h1, h2⟩ := fold_ris l (insR out x) (insR_ris h hx) (((hp.map (·.1)).nodup_iff).1 hn)
    exact ⟨h1, h2.trans hp.symm⟩

theorem byN_ris : RisN byN := (fold_ris rowsT [] List.Pairwise.nil names_nodup).1
theorem byN_perm : byN.Perm rowsT := (fold_ris rowsT [] List.Pairwise.nil names_nodup).2
theorem byN_len : byN.length = 99 := byN_perm.length_eq.trans rows_len

/-- Two rising rows of the same commands are one. -/
theorem ris_one {a b : List Sp} (ha : RisN a) (hb : RisN b) (h : a.Perm b) : a = b :=
  h.eq_of_pairwise (fun _ _ _ _ h1 h2 => absurd h1 (tx_asymm h2)) ha hb

/-! What a name, arguments name. -/
def spZ : Sp := ([], 0, 0, false, 0, 0, 0)
def findN (l : List Sp) (nm : Tx) : Option Sp := l.find? fun s => decide (s.1 = nm)
def lookT (nm : Tx) : Option Sp := findN rowsT (lowL nm)

theorem findN_iff {l : List Sp} (hn : (l.map (·.1)).Nodup) {nm : Tx} {s : Sp} : findN l nm = some s ↔ s ∈ l ∧ s.1 = nm := by
  induction l with
  | nil => simp [findN]
  | cons a l ih =>
    rw [List.map_cons, List.nodup_cons] at hn
    unfold findN at ih ⊢
    rw [List.find?_cons]
    by_cases e : a.1 = nm
    · rw [decide_eq_true e]
      simp only [Option.some.injEq, List.mem_cons]
      constructor
      · intro q
        rw [← q]
        exact ⟨Or.inl rfl, e⟩
      · rintro ⟨q | q, r⟩
        · exact q.symm
        · exact absurd (List.mem_map.2 ⟨s, q, r.trans e.symm⟩) hn.1
    · rw [decide_eq_false e]
      simp only [List.mem_cons]
      rw [ih hn.2]
      constructor
      · rintro ⟨q, r⟩
        exact ⟨Or.inr q, r⟩
      · rintro ⟨q | q, r⟩
        · rw [q] at r
          exact absurd r e
        · exact ⟨q, r⟩

theorem find_perm {l k : List Sp} (h : l.Perm k) (hn : (l.map (·.1)).Nodup) (nm : Tx) : findN l nm = findN k nm := by
  have hk : (k.map (·.1)).Nodup := ((h.map (·.1)).nodup_iff).1 hn
  cases hq : findN k nm with
  | some s =>
    rw [findN_iff hn]
    obtain ⟨h1, h2⟩ := (findN_iff hk).1 hq
    exact ⟨h.mem_iff.2 h1, h2⟩
  | none =>
    cases hr : findN l nm with
    | none => rfl
    | some s =>
      obtain ⟨h1, h2⟩ := (findN_iff hn).1 hr
      rw [(findN_iff hk).2 ⟨h.mem_iff.1 h1, h2⟩] at hq
      cases hq
theorem find_perm2 {l k : List Sp} (h : l.Perm k) (hn : (k.map (·.1)).Nodup) (nm : Tx) : findN l nm = findN k nm := find_perm h (((h.map (·.1)).nodup_iff).2 hn) nm
theorem lookT_byN (nm : Tx) : findN byN (lowL nm) = lookT nm := by
  unfold lookT
  exact find_perm2 byN_perm names_nodup _
theorem lookT_iff {nm : Tx} {s : Sp} : lookT nm = some s ↔ s ∈ rowsT ∧ s.1 = lowL nm := by
  unfold lookT
  exact findN_iff names_nodup
theorem lookT_long {nm : Tx} (h : 20 < nm.length) : lookT nm = none := by
  cases hq : lookT nm with
  | none => rfl
  | some s =>
    obtain ⟨h1, h2⟩ := lookT_iff.1 hq
    have := (goodS h1).short
    rw [h2, lowL_length] at this
    omega
/-- What Look tells. -/
def lkS (nm : Tx) : Sp := (lookT nm).getD spZ
def lkB (nm : Tx) : Bool := (lookT nm).isSome

/-- Whether a command may have so many arguments. -/
def tkB (s : Sp) (n : Nat) : Bool := if s.2.2.1 < 0 then decide (-s.2.2.1 ≤ n) else decide ((n : Int) = s.2.2.1)

def unkT (nm : Tx) : Tx := [69, 82, 82, 32, 117, 110, 107, 110, 111, 119, 110, 32, 99, 111, 109, 109, 97, 110, 100, 32, 39] ++ plnL nm ++ [39]
def argT (nm : Tx) : Tx := [69, 82, 82, 32, 119, 114, 111, 110, 103, 32, 110, 117, 109, 98, 101, 114, 32, 111, 102, 32, 97, 114, 103, 117, 109, 101, 110, 116, 115, 32, 102, 111, 114, 32, 39] ++ nm ++ [39, 32, 99, 111, 109, 109, 97, 110, 100]

/-- What Check tells: the command, or the error's text. -/
def chk (L : List Tx) : Sp × Option Tx :=
  match L.head? with
  | none => (spZ, some (unkT []))
  | some a => match lookT a with
    | none => (spZ, some (unkT a))
    | some s => if tkB s L.length then (s, none) else (spZ, some (argT s.1))

/-- The last argument that is a key, and how many keys there are. -/
def lastK (s : Sp) (n : Nat) : Nat := (if s.2.2.2.2.2.1 < 0 then s.2.2.2.2.2.1 + n else s.2.2.2.2.2.1).toNat
def cntK (s : Sp) (n : Nat) : Nat := if s.2.2.2.2.1 = 0 then 0 else if s.2.2.2.2.2.2 = 1 then lastK s n else (lastK s n + 1) / 2
def keyAt (s : Sp) (L : List Tx) (k : Nat) : Tx := L.getD (1 + k * s.2.2.2.2.2.2.toNat) []
def keysOf (s : Sp) (L : List Tx) : List Tx := (List.range (cntK s L.length)).map (keyAt s L)
def keysX (L : List Tx) : List Tx × Int :=
  match chk L with
  | (s, none) => (keysOf s L, 0)
  | (_, some _) => ([], 1)

theorem tk_ok {s : Sp} (hs : s ∈ rowsT) {n : Nat} (h : tkB s n = true) (h0 : ¬ s.2.2.2.2.1 = 0) : s.2.2.2.2.1 = 1 ∧ (s.2.2.2.2.2.2 = 1 ∨ s.2.2.2.2.2.2 = 2) ∧ 1 ≤ lastK s n ∧ lastK s n < n ∧ ((if s.2.2.2.2.2.1 < 0 then s.2.2.2.2.2.1 + n else s.2.2.2.2.2.1) = (lastK s n : Int)) := by
  obtain ⟨h1, h2, h3⟩ := (goodS hs).keys.resolve_left h0
  unfold tkB at h
  refine ⟨h1, h2, ?_⟩
  unfold lastK
  rcases h3 with ⟨e, h3⟩ | ⟨h3, h4, h5⟩
  · rw [e, if_pos (by omega)]
    rw [if_pos (by omega), decide_eq_true_eq] at h
    omega
  · rw [if_neg (by omega)]
    split at h
    · rw [decide_eq_true_eq] at h
      omega
    · rw [decide_eq_true_eq] at h
      omega
theorem cntK_iff {s : Sp} {n k : Nat} (h1 : s.2.2.2.2.1 = 1) (h2 : s.2.2.2.2.2.2 = 1 ∨ s.2.2.2.2.2.2 = 2) : 1 + k * s.2.2.2.2.2.2.toNat ≤ lastK s n ↔ k < cntK s n := by
  unfold cntK
  rw [if_neg (by omega)]
  rcases h2 with e | e
  · rw [e, if_pos rfl]
    show 1 + k * 1 ≤ _ ↔ _
    omega
  · rw [e, if_neg (by omega)]
    show 1 + k * 2 ≤ _ ↔ _
    omega

end Go.Proofs.Ytinpimejiepahaa
