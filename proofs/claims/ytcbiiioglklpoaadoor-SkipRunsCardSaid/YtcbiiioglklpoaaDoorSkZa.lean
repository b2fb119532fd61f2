/-
  A node has been laid: the chain stands again. No walk.
-/
import Derived.Test.YtcbiiioglklpoaaDoorSkZ
namespace Go.Proofs.YtcbiiioglklpoaaDoor
open Go.RowKit

section
variable {lv : Mb → Nat} {h : Nat} {ns : List Nd} {p X : Nat} {m : Mb} {w3 wr W : World} {M : Nat} {S S' S9 : Nat → Nat → Value} {SM : ByteArray} {MN : Int} {SX ft : Nat → Value}

/-- The cells of all nodes, the new one's too. -/
def joinX (S : Nat → Nat → Value) (X : Nat) (SX : Nat → Value) (b : Nat) : Nat → Value := if b = X then SX else S b

theorem ins_mem {b : Nat} (y : Nd) : b ∈ h :: (insAt ns p y).map (·.1) ↔ b = y.1 ∨ b ∈ h :: ns.map (·.1) := by
  have q := ((insAt_perm' (L := ns) (p := p) y).map (·.1)).mem_iff (a := b)
  rw [List.mem_cons, q, List.map_cons, List.mem_cons, List.mem_cons]
  constructor
  · rintro (e | e | e)
    · exact Or.inr (Or.inl e)
    · exact Or.inl e
    · exact Or.inr (Or.inr e)
  · rintro (e | e | e)
    · exact Or.inr (Or.inl e)
    · exact Or.inl e
    · exact Or.inr (Or.inr e)

theorem LSt.chain (q : LSt w3 wr lv h ns p X m M S SM MN (backOf ns p) 16 S' SX ft) (hc : ChOn lv w3 h ns S) (hSM : SM = ⟨m.1.toArray⟩) (hMN : MN = m.2) (hp : p ≤ ns.length) (hX : X ∉ h :: ns.map (·.1))
    (rows : ∀ b ∈ h :: ns.map (·.1), W.rowIs b 106 35 (S9 b)) (xrow : W.rowIs X 106 35 SX) (h9 : ∀ b j, j ≠ 2 → S9 b j = S' b j)
    (h92 : ∀ k x, ns[k]? = some x → S9 x.1 2 = if k = p then .pointer (some ⟨X, 0, none⟩) else S' x.1 2) :
    ChOn lv W h (insAt ns p (X, m)) (joinX S9 X SX) := by
  have hne : ∀ {b : Nat}, b ∈ h :: ns.map (·.1) → b ≠ X := fun hb e => hX (e ▸ hb)
  have jo : ∀ {b : Nat}, b ∈ h :: ns.map (·.1) → joinX S9 X SX b = S9 b := fun hb => if_neg (hne hb)
  have jx : joinX S9 X SX X = SX := if_pos rfl
  have wo : ∀ {b l : Nat} {r : Option (Nat × Nat)}, WayIs (S' b) l r → WayIs (S9 b) l r := fun {b l r} hw => by
    cases r with
    | none =>
      obtain ⟨q1, s, q2⟩ := hw
      exact ⟨by rw [h9 b _ (by omega)]; exact q1, s, by rw [h9 b _ (by omega)]; exact q2⟩
    | some r =>
      obtain ⟨d, b'⟩ := r
      exact ⟨by rw [h9 b _ (by omega)]; exact hw.1, by rw [h9 b _ (by omega)]; exact hw.2⟩
  have low : ∀ b j, j < 2 → S9 b j = S b j := fun b j hj => by rw [h9 b j (by omega), q.low b j (by omega)]
  refine ⟨?_, fun b hb => ?_, fun k x hx => ?_, fun k x hx => ?_, fun k b i hb ho hi => ?_⟩
  · have q1 : (h :: (insAt ns p (X, m)).map (·.1)).Perm (X :: h :: ns.map (·.1)) := by
      refine (List.Perm.cons h ((insAt_perm' (L := ns) (p := p) (X, m)).map (·.1))).trans ?_
      rw [List.map_cons]
      exact List.Perm.swap _ _ _
    rw [q1.nodup_iff, List.nodup_cons]
    exact ⟨hX, hc.one⟩
  · rcases (ins_mem (X, m)).1 hb with e | e
    · rw [e, jx]
      exact xrow
    · rw [jo e]
      exact rows b e
  · rw [insAt_get hp] at hx
    by_cases h1 : k < p
    · rw [if_pos h1] at hx
      rw [jo (BlkAt.succ hx).mem, low _ 0 (by omega), low _ 1 (by omega)]
      exact hc.mem k x hx
    · rw [if_neg h1] at hx
      by_cases h2 : k = p
      · rw [if_pos h2] at hx
        injection hx with hx
        rw [← hx]
        dsimp only
        rw [jx, q.x0, q.x1, hSM, hMN]
        exact ⟨rfl, rfl⟩
      · rw [if_neg h2] at hx
        rw [jo (BlkAt.succ hx).mem, low _ 0 (by omega), low _ 1 (by omega)]
        exact hc.mem (k - 1) x hx
  · have hx0 := hx
    rw [insAt_get hp] at hx
    by_cases h1 : k < p
    · rw [if_pos h1] at hx
      rw [jo (BlkAt.succ hx).mem, h92 k x hx, if_neg (by omega), q.low _ 2 (by omega), hc.back k x hx]
      congr 1
      unfold backOf
      by_cases h0 : k = 0
      · rw [if_pos h0, if_pos h0]
      · rw [if_neg h0, if_neg h0, insAt_get hp, if_pos (by omega)]
    · rw [if_neg h1] at hx
      by_cases h2 : k = p
      · rw [if_pos h2] at hx
        injection hx with hx
        rw [← hx]
        dsimp only
        rw [jx, q.x2]
        congr 1
        unfold backOf
        by_cases h0 : k = 0
        · rw [if_pos h0, if_pos (by omega)]
        · rw [if_neg h0, if_neg (by omega), insAt_get hp, if_pos (by omega), h2]
      · rw [if_neg h2] at hx
        rw [jo (BlkAt.succ hx).mem, h92 (k - 1) x hx]
        have e0 : ¬ k = 0 := by omega
        unfold backOf
        rw [if_neg e0]
        by_cases h3 : k - 1 = p
        · rw [if_pos h3, insAt_get hp, if_neg (by omega), if_pos h3]
          rfl
        · rw [if_neg h3, q.low _ 2 (by omega), hc.back (k - 1) x hx]
          congr 1
          unfold backOf
          rw [if_neg (by omega), insAt_get hp, if_neg (by omega), if_neg h3]
  · rcases blk_of_ins hb hp with ⟨h1, h2⟩ | ⟨h1, h2⟩ | ⟨h1, h2⟩
    · have ho' : OnLv lv ns i k := by
        rcases ho with ho | ⟨x, o1, o2⟩
        · exact Or.inl ho
        · rcases Nat.eq_zero_or_pos k with e | e
          · exact Or.inl e
          · rw [insAt_get hp, if_pos (by omega)] at o1
            exact Or.inr ⟨x, o1, o2⟩
      have hw := q.inv.1 k b i h2 ho' hi
      rw [if_pos hi, if_pos h1] at hw
      rw [jo h2.mem]
      exact wo hw
    · subst h1
      dsimp only at h2
      rw [h2, jx, lay_way_new (X, m) hp]
      have hm : i < lv m := by
        rcases ho with ho | ⟨x, o1, o2⟩
        · omega
        · rw [Nat.add_sub_cancel, insAt_get hp, if_neg (by omega), if_pos rfl] at o1
          injection o1 with o1
          rw [← o1] at o2
          exact o2
      exact q.inv.2 i hi hm
    · have ho' : OnLv lv ns i (k - 1) := by
        rcases ho with ho | ⟨x, o1, o2⟩
        · omega
        · rw [insAt_get hp, if_neg (by omega), if_neg (by omega)] at o1
          exact Or.inr ⟨x, o1, o2⟩
      have hw := q.inv.1 (k - 1) b i h2 ho' hi
      rw [if_pos hi, if_neg (by omega), show k - 1 + 1 = k from by omega] at hw
      rw [jo h2.mem]
      exact wo hw

end

end Go.Proofs.YtcbiiioglklpoaaDoor
