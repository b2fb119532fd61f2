/-
  Plain facts: a reply has a byte at the least; all replies of some bytes. A row of replies that is being made.
-/
import Derived.Test.YtbldahkgilkclaaDoorRzM
namespace Go.Proofs.YtbldahkgilkclaaDoor
open Go.RowKit

theorem mustS_ge (bs : List UInt8) (c : Nat) (s : Nat × Nat) : s.1 ≤ (mustS bs c s).1 := by
  unfold mustS
  split
  · split
    · exact Nat.le_refl _
    · split
      · exact Nat.le_succ _
      · exact Nat.le_refl _
  · exact Nat.le_refl _

theorem endS_ge (bs : List UInt8) (s : Nat × Nat) : s.1 ≤ (endS bs s).1 := Nat.le_trans (mustS_ge bs 13 s) (mustS_ge bs 10 _)

theorem digS_ge (bs : List UInt8) (m : Nat) (s : Nat × Nat) : s.1 ≤ (digS bs m s).2.1 := by
  unfold digS
  split
  · exact Nat.le_add_right _ _
  · exact Nat.le_refl _

theorem countS_ge (bs : List UInt8) (m : Nat) (s : Nat × Nat) : s.1 ≤ (countS bs m s).2.1 := by
  unfold countS
  split
  · exact Nat.le_trans (Nat.le_succ _) (mustS_ge bs 49 (s.1 + 1, 0))
  · have := digS_ge bs m (byteS bs s).2
    rwa [byteS_pl] at this

theorem integerS_ge (bs : List UInt8) (s : Nat × Nat) : s.1 ≤ (integerS bs s).2.1 := by
  unfold integerS
  split
  · split
    · unfold failS
      split
      · exact Nat.le_succ _
      · exact Nat.le_succ _
    · have := digS_ge bs 9223372036854775808 (byteS bs (s.1 + 1, 0)).2
      rw [byteS_pl] at this
      exact Nat.le_trans (Nat.le_succ _) this
  · have := digS_ge bs 9223372036854775807 (byteS bs s).2
    rwa [byteS_pl] at this

theorem textS_ge (bs : List UInt8) (i : Nat) : i ≤ (textS bs i).1 := by
  rw [(textS_end bs i).1]
  exact Nat.le_trans (Nat.le_add_right _ _) (endS_ge bs (i + _, 0))

theorem dblkS_ge (bs : List UInt8) (i : Nat) (h : i ≤ bs.length) : i ≤ (dblkS bs i).2.1 := by
  unfold dblkS
  have h1 : i ≤ (endS bs (countS bs 65536 (i, 0)).2).1 := Nat.le_trans (countS_ge bs 65536 (i, 0)) (endS_ge bs _)
  split
  · exact h1
  · split
    · exact h
    · exact Nat.le_trans h1 (Nat.le_trans (Nat.le_add_right _ _) (endS_ge bs (_ + _, 0)))

theorem timesS_ge {f : Nat → RT × (Nat × Nat)} (hf : ∀ j, j ≤ (f j).2.1) : ∀ (n : Nat) (s : Nat × Nat), s.1 ≤ (timesS f n s).2.1
  | 0, s => Nat.le_refl _
  | n + 1, s => by
    rw [timesS]
    split
    · exact Nat.le_trans (hf s.1) (timesS_ge hf n _)
    · exact Nat.le_refl _

theorem arrayS_ge (bs : List UInt8) {f : Nat → RT × (Nat × Nat)} (hf : ∀ j, j ≤ (f j).2.1) (i : Nat) : i ≤ (arrayS f bs i).2.1 := by
  unfold arrayS
  have h1 : i ≤ (endS bs (countS bs 131072 (i, 0)).2).1 := Nat.le_trans (countS_ge bs 131072 (i, 0)) (endS_ge bs _)
  split
  · exact h1
  · exact Nat.le_trans h1 (timesS_ge hf _ _)

theorem replyS_ge (bs : List UInt8) : ∀ (left i : Nat), i ≤ (replyS bs left i).2.1 ∧ ((replyS bs left i).2.2 = 0 → i + 1 ≤ (replyS bs left i).2.1) := by
  intro left
  induction left with
  | zero =>
    intro i
    by_cases hl : bs.length ≤ i
    · rw [replyS_short bs 0 i hl]; exact ⟨Nat.le_refl _, fun q => by cases q⟩
    · have k : ∀ {m : Nat}, i + 1 ≤ m → ∀ {f : Nat}, i ≤ m ∧ (f = 0 → i + 1 ≤ m) := fun h _ => ⟨by omega, fun _ => h⟩
      rw [replyS_eq bs 0 i _ hl rfl]
      split
      · exact k (textS_ge bs (i + 1))
      · split
        · exact k (textS_ge bs (i + 1))
        · split
          · exact k (Nat.le_trans (integerS_ge bs (i + 1, 0)) (endS_ge bs _))
          · split
            · exact k (dblkS_ge bs (i + 1) (by omega))
            · split
              · exact k (Nat.le_trans (mustS_ge bs 45 (i + 1, 0)) (Nat.le_trans (mustS_ge bs 49 _) (endS_ge bs _)))
              · exact ⟨Nat.le_refl _, fun q => by cases q⟩
  | succ l ih =>
    intro i
    by_cases hl : bs.length ≤ i
    · rw [replyS_short bs (l + 1) i hl]; exact ⟨Nat.le_refl _, fun q => by cases q⟩
    · have k : ∀ {m : Nat}, i + 1 ≤ m → ∀ {f : Nat}, i ≤ m ∧ (f = 0 → i + 1 ≤ m) := fun h _ => ⟨by omega, fun _ => h⟩
      rw [replyS_eq bs (l + 1) i _ hl rfl]
      split
      · exact k (textS_ge bs (i + 1))
      · split
        · exact k (textS_ge bs (i + 1))
        · split
          · exact k (Nat.le_trans (integerS_ge bs (i + 1, 0)) (endS_ge bs _))
          · split
            · exact k (dblkS_ge bs (i + 1) (by omega))
            · split
              · exact k (arrayS_ge bs (fun j => (ih j).1) (i + 1))
              · exact ⟨Nat.le_refl _, fun q => by cases q⟩

theorem decS_pl (bs : List UInt8) : (decS bs).2.1 ≤ bs.length := by rw [(decS_eq bs).2]; exact replyS_pl bs 8 0 (Nat.zero_le _)
theorem decS_pos (bs : List UInt8) (h : (decS bs).2.2 = 0) : 1 ≤ (decS bs).2.1 := by
  rw [(decS_eq bs).2] at h ⊢
  exact (replyS_ge bs 8 0).2 h

/-- All replies of some bytes from a place on, and where that ends. -/
def allS (bs : List UInt8) : Nat → Nat → List RT × (Nat × Nat)
  | 0, at_ => ([], (at_, 0))
  | F + 1, at_ =>
    if (decS (bs.drop at_)).2.2 = 31 then ([], (at_, 0))
    else if (decS (bs.drop at_)).2.2 = 0 then ((decS (bs.drop at_)).1 :: (allS bs F (at_ + (decS (bs.drop at_)).2.1)).1, (allS bs F (at_ + (decS (bs.drop at_)).2.1)).2)
    else ([], (at_ + (decS (bs.drop at_)).2.1, (decS (bs.drop at_)).2.2))

def AllK (bs : List UInt8) (F at_ : Nat) (xs : List RT) : Prop := allS bs (bs.length + 1) 0 = (xs ++ (allS bs F at_).1, (allS bs F at_).2)

theorem AllK.start (bs : List UInt8) : AllK bs (bs.length + 1) 0 [] := rfl

theorem AllK.short {bs : List UInt8} {F at_ : Nat} {xs : List RT} (h : AllK bs (F + 1) at_ xs) (hd : (decS (bs.drop at_)).2.2 = 31) : allS bs (bs.length + 1) 0 = (xs, (at_, 0)) := by
  unfold AllK at h
  rw [h, allS, if_pos hd, List.append_nil]

theorem AllK.bad {bs : List UInt8} {F at_ : Nat} {xs : List RT} (h : AllK bs (F + 1) at_ xs) (hd : (decS (bs.drop at_)).2.2 ≠ 31) (h0 : (decS (bs.drop at_)).2.2 ≠ 0) :
    allS bs (bs.length + 1) 0 = (xs, (at_ + (decS (bs.drop at_)).2.1, (decS (bs.drop at_)).2.2)) := by
  unfold AllK at h
  rw [h, allS, if_neg hd, if_neg h0, List.append_nil]

theorem AllK.more {bs : List UInt8} {F at_ : Nat} {xs : List RT} (h : AllK bs (F + 1) at_ xs) (h0 : (decS (bs.drop at_)).2.2 = 0) : AllK bs F (at_ + (decS (bs.drop at_)).2.1) (xs ++ [(decS (bs.drop at_)).1]) := by
  unfold AllK at h ⊢
  rw [h, allS, if_neg (by omega), if_pos h0, List.append_assoc]
  rfl

/-- A row of replies is read as a list of trees. -/
theorem rows_tree {w : World} {N : Nat} {vr : Value} {rows : List (List Value)} {xs : List RT} (ho : w.ownsRow (N + 1) 25 4 vr rows.length rows.flatten) (h4 : ∀ r ∈ rows, r.length = 4) (hk : Kids w N vr xs rows) :
    RepAt w (fun g => N < g) (.node 6 [] 0 xs) [.int .i64 6, .string ⟨#[]⟩, .int .i64 0, vr] := by
  have hl := hk.1
  have ho' := ho
  rcases ho.2 with ⟨rfl, h0⟩ | ⟨g, cap, cur, rfl, hg, hh, hc, hm, hrest⟩
  · obtain rfl : xs = [] := List.length_eq_zero_iff.1 (by omega)
    exact .leaf 6 [] 0 ⟨#[]⟩ rfl
  · rw [← hl]
    have hlt : g < w.heap.size := (Array.getElem?_eq_some_iff.1 hh).1
    refine .row 6 [] 0 xs ⟨#[]⟩ g 0 cap (fun j => rows.getD j []) rfl (by omega) (by unfold maxLen at hm; omega) (by omega) hlt (fun j hj => ?_) (fun j f hj hf => ?_) (fun j x hx => ?_)
    · have : j < rows.length := by omega
      rw [List.getD_eq_getElem?_getD, List.getElem?_eq_getElem this]
      exact h4 _ (List.getElem_mem this)
    · have hj' : j < rows.length := by omega
      have e := flatten_get rows h4 j _ (List.getElem?_eq_getElem hj') f hf
      have e4 := h4 _ (List.getElem_mem hj')
      rw [List.getD_eq_getElem?_getD, List.getElem?_eq_getElem hj']
      have hx : rows[j][f]? = some rows[j][f] := List.getElem?_eq_getElem (by omega)
      have := ho'.cells (g := g) rfl _ _ (e.trans hx)
      rw [Go.WideShapes.add_plain] at this
      show w.cell? ⟨g, 0 + j * 4 + f, none⟩ = rows[j][f]?
      rw [hx, ← this, Nat.add_assoc]
    · obtain ⟨cs, h1, h2⟩ := hk.2 j x hx
      rw [List.getD_eq_getElem?_getD, h1]
      exact h2.weak (fun _ h _ => h.1)

end Go.Proofs.YtbldahkgilkclaaDoor
