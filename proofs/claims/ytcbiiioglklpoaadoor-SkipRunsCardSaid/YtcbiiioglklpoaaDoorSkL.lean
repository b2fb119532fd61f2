/-
  What laying a node does level by level to the cells of the nodes: no walk.
-/
import Derived.Test.YtcbiiioglklpoaaDoorSkQ
namespace Go.Proofs.YtcbiiioglklpoaaDoor
open Go.RowKit

/-- A cell of a block is turned. -/
def upc (S : Nat → Nat → Value) (b j : Nat) (v : Value) : Nat → Nat → Value := fun b' j' => if b' = b ∧ j' = j then v else S b' j'

theorem upc_same (S : Nat → Nat → Value) (b j : Nat) (v : Value) : upc S b j v b j = v := if_pos ⟨rfl, rfl⟩
theorem upc_block (S : Nat → Nat → Value) {b b' : Nat} (j : Nat) (v : Value) (h : b' ≠ b) : upc S b j v b' = S b' := funext fun _ => if_neg (fun e => h e.1)
theorem upc_cell (S : Nat → Nat → Value) (b b' : Nat) {j j' : Nat} (v : Value) (h : j' ≠ j) : upc S b j v b' j' = S b' j' := if_neg (fun e => h e.2)

theorem rows_set {w : World} {A : List Nat} {t : TypeId} {n : Nat} {S : Nat → Nat → Value} (h : ∀ b ∈ A, w.rowIs b t n (S b)) (b0 j : Nat) (v : Value) :
    ∀ b ∈ A, (w.setCell ⟨b0, j, none⟩ v).rowIs b t n (upc S b0 j v b) := fun b hb => by
  by_cases e : b = b0
  · subst e
    refine ((h b hb).set j v).congr (fun l _ => ?_)
    unfold upc
    by_cases e2 : l = j
    · simp [e2]
    · simp [e2]
  · rw [upc_block S j v e]
    exact (h b hb).setOther (a := ⟨b0, j, none⟩) e v

theorem rows_other {w : World} {A : List Nat} {t : TypeId} {n : Nat} {S : Nat → Nat → Value} (h : ∀ b ∈ A, w.rowIs b t n (S b)) {b0 : Nat} (hb0 : b0 ∉ A) (j : Nat) (v : Value) :
    ∀ b ∈ A, (w.setCell ⟨b0, j, none⟩ v).rowIs b t n (S b) := fun b hb => (h b hb).setOther (a := ⟨b0, j, none⟩) (fun e => hb0 (by have q : b = b0 := e; rw [← q]; exact hb)) v

theorem WayIs.upc_other {S : Nat → Nat → Value} {b b' l j : Nat} {r : Option (Nat × Nat)} {v : Value} (h : WayIs (S b') l r) (hj : b' ≠ b ∨ j ≠ 3 + l * 2 ∧ j ≠ 3 + l * 2 + 1) : WayIs (upc S b j v b') l r := by
  rcases hj with hj | ⟨h1, h2⟩
  · rw [upc_block S j v hj]; exact h
  · cases r with
    | none =>
      obtain ⟨q1, s, q2⟩ := h
      exact ⟨by rw [upc_cell S b b' v (Ne.symm h1)]; exact q1, s, by rw [upc_cell S b b' v (Ne.symm h2)]; exact q2⟩
    | some r =>
      obtain ⟨d, e⟩ := r
      exact ⟨by rw [upc_cell S b b' v (Ne.symm h1)]; exact h.1, by rw [upc_cell S b b' v (Ne.symm h2)]; exact h.2⟩

/-- A way's cells, as a pointer and a number. -/
theorem WayIs.ex {f : Nat → Value} {l : Nat} {r : Option (Nat × Nat)} (h : WayIs f l r) : ∃ (T : Option Addr) (s : Int), f (3 + l * 2) = .pointer T ∧ f (3 + l * 2 + 1) = .int .i64 s ∧
    ((r = none ∧ T = none) ∨ ∃ d b, r = some (d, b) ∧ T = some ⟨b, 0, none⟩ ∧ s = (d : Nat)) := by
  cases r with
  | none =>
    obtain ⟨q1, s, q2⟩ := h
    exact ⟨none, s, q1, q2, Or.inl ⟨rfl, rfl⟩⟩
  | some r =>
    obtain ⟨d, b⟩ := r
    exact ⟨_, _, h.1, h.2, Or.inr ⟨d, b, rfl, rfl, rfl⟩⟩

/-- While a node is laid: the levels below i are done. -/
def LayInv (lv : Mb → Nat) (h : Nat) (ns : List Nd) (p X : Nat) (m : Mb) (i : Nat) (S : Nat → Nat → Value) (SX : Nat → Value) : Prop :=
  (∀ k b l, BlkAt h ns k b → OnLv lv ns l k → l < 16 → WayIs (S b) l (if l < i then fstAt lv l ((insAt ns p (X, m)).drop (if k ≤ p then k else k + 1)) else fstAt lv l (ns.drop k))) ∧
  (∀ l, l < i → l < lv m → WayIs SX l (fstAt lv l (ns.drop p)))

section
variable {lv : Mb → Nat} {h : Nat} {ns : List Nd} {p X : Nat} {m : Mb} {i k b : Nat} {S : Nat → Nat → Value} {SX : Nat → Value}

theorem LayInv.start (hw : ∀ k b l, BlkAt h ns k b → OnLv lv ns l k → l < 16 → WayIs (S b) l (fstAt lv l (ns.drop k))) : LayInv lv h ns p X m 0 S SX :=
  ⟨fun k b l h1 h2 h3 => by rw [if_neg (by omega)]; exact hw k b l h1 h2 h3, fun l hl => by omega⟩

/-- What the trail's way holds ahead of its level's turn. -/
theorem LayInv.way (hI : LayInv lv h ns p X m i S SX) (hi : i < 16) (hb : BlkAt h ns k b) (ht : IsTr lv ns i p k) : WayIs (S b) i (fstAt lv i (ns.drop k)) := by
  have := hI.1 k b i hb ht.2.1 hi
  rwa [if_neg (by omega)] at this

theorem lay_other {k' : Nat} (ht : IsTr lv ns i p k) (hp : p ≤ ns.length) (hl : OnLv lv ns i k') (hne : k' ≠ k) : fstAt lv i ((insAt ns p (X, m)).drop (if k' ≤ p then k' else k' + 1)) = fstAt lv i (ns.drop k') := by
  by_cases hk : k' ≤ p
  · rw [if_pos hk]
    exact lay_way_other _ ht hk hl hne hp
  · rw [if_neg hk, insAt_drop_gt (by omega) hp]
    congr 1

/-- A level on which the new node does not stand: one place further. -/
theorem LayInv.above (hI : LayInv lv h ns p X m i S SX) (hone : (h :: ns.map (·.1)).Nodup) (hi : i < 16) (hb : BlkAt h ns k b) (ht : IsTr lv ns i p k) (hp : p ≤ ns.length) (hn : ns.length ≤ 1000000) (hm : lv m ≤ i) {s : Int} (hs : S b (3 + i * 2 + 1) = .int .i64 s) :
    LayInv lv h ns p X m (i + 1) (upc S b (3 + i * 2 + 1) (.int .i64 (IntKind.i64.wrap (s + 1)))) SX := by
  have hw := hI.way hi hb ht
  refine ⟨fun k' b' l hb' hl hl16 => ?_, fun l h1 h2 => hI.2 l (by omega) h2⟩
  have h0 := hI.1 k' b' l hb' hl hl16
  by_cases hli : l = i
  · subst hli
    rw [if_pos (by omega)]
    rw [if_neg (by omega)] at h0
    by_cases hk : k' = k
    · subst hk
      obtain rfl := hb'.fun hb
      rw [if_pos ht.1, lay_way_tr (X, m) ht hp, if_neg (by dsimp only; omega)]
      obtain ⟨T, s', q1, q2, q3⟩ := hw.ex
      rcases q3 with ⟨q3, rfl⟩ | ⟨d, nb, q3, rfl, rfl⟩
      · rw [q3]
        exact ⟨by rw [upc_cell S _ _ _ (by omega)]; exact q1, _, upc_same _ _ _ _⟩
      · rw [q3]
        rw [hs] at q2
        have hd : d ≤ ns.length := by
          have := (fstAt_some lv q3).2.1
          rw [List.length_drop] at this
          omega
        injection q2 with _ q2
        refine ⟨by rw [upc_cell S _ _ _ (by omega)]; exact q1, ?_⟩
        rw [upc_same, q2, IntWalk.i64_in _ (by omega)]
        rfl
    · rw [lay_other ht hp hl hk]
      exact h0.upc_other (Or.inl (fun e => hk (BlkAt.inj hone hb' (e ▸ hb))))
  · have e : (l < i + 1) = (l < i) := by simp; omega
    simp only [e]
    exact h0.upc_other (Or.inr (by omega))

/-- A level on which the new node stands. -/
theorem LayInv.below (hI : LayInv lv h ns p X m i S SX) (hone : (h :: ns.map (·.1)).Nodup) (hi : i < 16) (hb : BlkAt h ns k b) (ht : IsTr lv ns i p k) (hp : p ≤ ns.length) (hn : ns.length ≤ 1000000) (hm : i < lv m) {T : Option Addr} {s : Int} (hT : S b (3 + i * 2) = .pointer T) (hs : S b (3 + i * 2 + 1) = .int .i64 s) :
    LayInv lv h ns p X m (i + 1) (upc (upc (upc S b (3 + i * 2 + 1) (.int .i64 (IntKind.i64.wrap (s + 1)))) b (3 + i * 2) (.pointer (some ⟨X, 0, none⟩))) b (3 + i * 2 + 1) (.int .i64 (IntKind.i64.wrap (((p + 1 : Nat) : Int) - (k : Nat)))))
      (fun j => if j = 3 + i * 2 + 1 then .int .i64 (IntKind.i64.wrap (IntKind.i64.wrap ((k : Nat) + IntKind.i64.wrap (s + 1)) - ((p + 1 : Nat) : Int))) else if j = 3 + i * 2 then .pointer T else SX j) := by
  have hw := hI.way hi hb ht
  have hkp := ht.1
  refine ⟨fun k' b' l hb' hl hl16 => ?_, fun l h1 h2 => ?_⟩
  · have h0 := hI.1 k' b' l hb' hl hl16
    by_cases hli : l = i
    · subst hli
      rw [if_pos (by omega)]
      rw [if_neg (by omega)] at h0
      by_cases hk : k' = k
      · subst hk
        obtain rfl := hb'.fun hb
        rw [if_pos ht.1, lay_way_tr (X, m) ht hp, if_pos (by dsimp only; omega)]
        refine ⟨by rw [upc_cell _ _ _ _ (by omega), upc_same], ?_⟩
        rw [upc_same, IntWalk.i64_in _ (by omega)]
        congr 1
        omega
      · rw [lay_other ht hp hl hk]
        have hne : b' ≠ b := fun e => hk (BlkAt.inj hone hb' (e ▸ hb))
        exact ((h0.upc_other (Or.inl hne)).upc_other (Or.inl hne)).upc_other (Or.inl hne)
    · have e : (l < i + 1) = (l < i) := by simp; omega
      simp only [e]
      exact ((h0.upc_other (Or.inr (by omega))).upc_other (Or.inr (by omega))).upc_other (Or.inr (by omega))
  · by_cases hli : l = i
    · subst hli
      obtain ⟨T', s', q1, q2, q3⟩ := hw.ex
      rw [hT] at q1
      rw [hs] at q2
      injection q1 with q1
      injection q2 with _ q2
      subst q1 q2
      have hwy := ht.way hp
      rcases q3 with ⟨q3, rfl⟩ | ⟨d, nb, q3, rfl, rfl⟩
      · rw [q3] at hwy
        have hq : fstAt lv l (ns.drop p) = none := by
          cases hq : fstAt lv l (ns.drop p) with
          | none => rfl
          | some r => rw [hq] at hwy; cases hwy
        rw [hq]
        exact ⟨by dsimp only; rw [if_neg (by omega), if_pos rfl], _, by dsimp only; rw [if_pos rfl]⟩
      · rw [q3] at hwy
        have hd : d ≤ ns.length := by
          have := (fstAt_some lv q3).2.1
          rw [List.length_drop] at this
          omega
        cases hq : fstAt lv l (ns.drop p) with
        | none => rw [hq] at hwy; cases hwy
        | some r =>
          rw [hq] at hwy
          simp only [Option.map_some, Option.some.injEq, Prod.mk.injEq] at hwy
          obtain ⟨e1, e2⟩ := hwy
          obtain ⟨r1, r2⟩ := r
          dsimp only at e1 e2
          subst e2
          refine ⟨by dsimp only; rw [if_neg (by omega), if_pos rfl], ?_⟩
          dsimp only
          rw [if_pos rfl, IntWalk.i64_in ((d : Nat) + 1 : Int) (by omega), IntWalk.i64_in ((k : Nat) + ((d : Nat) + 1) : Int) (by omega), IntWalk.i64_in _ (by omega)]
          congr 1
          omega
    · have h0 := hI.2 l (by omega) h2
      cases hr : fstAt lv l (ns.drop p) with
      | none =>
        rw [hr] at h0
        obtain ⟨q1, s', q2⟩ := h0
        exact ⟨by dsimp only; rw [if_neg (by omega), if_neg (by omega)]; exact q1, s', by dsimp only; rw [if_neg (by omega), if_neg (by omega)]; exact q2⟩
      | some r =>
        rw [hr] at h0
        obtain ⟨d, nb⟩ := r
        exact ⟨by dsimp only; rw [if_neg (by omega), if_neg (by omega)]; exact h0.1, by dsimp only; rw [if_neg (by omega), if_neg (by omega)]; exact h0.2⟩

end

end Go.Proofs.YtcbiiioglklpoaaDoor
