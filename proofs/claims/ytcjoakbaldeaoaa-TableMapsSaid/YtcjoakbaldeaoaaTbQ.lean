/-
  Plain facts: the four ways in which a key may stand in a table, and what each call makes of it there. No program.
-/
import Derived.Test.YtcjoakbaldeaoaaTbP
namespace Go.Proofs.Ytcjoakbaldeaoaa

section
variable {α : Type} (h : List UInt8 → Nat)

theorem modify_set {γ : Type} (f : List γ → List γ) : ∀ (R : List (List γ)) (i : Nat), i < R.length → R.modify i f = R.set i (f (R.getD i []))
  | [], i, hi => absurd hi (Nat.not_lt_zero i)
  | x :: R, 0, _ => by rw [List.modify_zero_cons, List.set_cons_zero]; rfl
  | x :: R, i + 1, hi => by
    rw [List.modify_succ_cons, modify_set f R i (by simpa using hi), List.set_cons_succ]
    rfl

/-- In the first row. -/
structure AtA (t : Tb α) (gA gB : Nat) (k : List UInt8) (j : Nat) (x : List UInt8 × α) : Prop where
  wh : whereG h t gA gB k = (⟨gA, h k % t.A.length, none⟩, (j : Int))
  at_ : (t.A.getD (h k % t.A.length) [])[j]? = some x
  key : x.1 = k
  look : lookT h t k = some x.2
  put : ∀ v, putS h t k v = { t with A := t.A.set (h k % t.A.length) ((t.A.getD (h k % t.A.length) []).set j (x.1, v)) }
  del : delS h t k = ⟨t.A.set (h k % t.A.length) ((t.A.getD (h k % t.A.length) []).take j ++ (t.A.getD (h k % t.A.length) []).drop (j + 1)), if t.B.length = 0 ∧ 4 < t.A.length ∧ (t.n - 1) * 8 < t.A.length then List.replicate (t.A.length / 2) [] else t.B, t.moved, t.n - 1⟩
  ix : idxG (t.A.getD (h k % t.A.length) []) k = j

/-- In the second one. -/
structure AtB (t : Tb α) (gA gB : Nat) (k : List UInt8) (j : Nat) (x : List UInt8 × α) : Prop where
  pos : 0 < t.B.length
  wh : whereG h t gA gB k = (⟨gB, h k % t.B.length, none⟩, (j : Int))
  at_ : (t.B.getD (h k % t.B.length) [])[j]? = some x
  key : x.1 = k
  look : lookT h t k = some x.2
  put : ∀ v, putS h t k v = { t with B := t.B.set (h k % t.B.length) ((t.B.getD (h k % t.B.length) []).set j (x.1, v)) }
  del : delS h t k = { t with B := t.B.set (h k % t.B.length) ((t.B.getD (h k % t.B.length) []).take j ++ (t.B.getD (h k % t.B.length) []).drop (j + 1)), n := t.n - 1 }
  ix : idxG (t.A.getD (h k % t.A.length) []) k = -1 ∧ idxG (t.B.getD (h k % t.B.length) []) k = j

/-- In none, while it does not move. -/
structure NowA (t : Tb α) (gA gB : Nat) (k : List UInt8) : Prop where
  zero : t.B.length = 0
  wh : whereG h t gA gB k = (⟨gA, h k % t.A.length, none⟩, -1)
  look : lookT h t k = none
  put : ∀ v, putS h t k v = ⟨t.A.set (h k % t.A.length) (t.A.getD (h k % t.A.length) [] ++ [(k, v)]), if t.A.length < t.n + 1 then List.replicate (2 * t.A.length) [] else [], t.moved, t.n + 1⟩
  del : delS h t k = t
  ix : idxG (t.A.getD (h k % t.A.length) []) k = -1

/-- In none, while it moves. -/
structure NowB (t : Tb α) (gA gB : Nat) (k : List UInt8) : Prop where
  pos : 0 < t.B.length
  wh : whereG h t gA gB k = (⟨gB, h k % t.B.length, none⟩, -1)
  look : lookT h t k = none
  put : ∀ v, putS h t k v = { t with B := t.B.set (h k % t.B.length) (t.B.getD (h k % t.B.length) [] ++ [(k, v)]), n := t.n + 1 }
  del : delS h t k = t
  ix : idxG (t.A.getD (h k % t.A.length) []) k = -1 ∧ idxG (t.B.getD (h k % t.B.length) []) k = -1

theorem where_cases {t : Tb α} (hk : Kept h t) (gA gB : Nat) (k : List UInt8) : (∃ j x, AtA h t gA gB k j x) ∨ (∃ j x, AtB h t gA gB k j x) ∨ NowA h t gA gB k ∨ NowB h t gA gB k := by
  have hpos := hk.pos
  have hra : h k % t.A.length < t.A.length := Nat.mod_lt _ hpos
  have eA : seekR h t.A k = seekL (t.A.getD (h k % t.A.length) []) k := rfl
  have eB : seekR h t.B k = seekL (t.B.getD (h k % t.B.length) []) k := rfl
  rcases seekL_idxG (l := t.A.getD (h k % t.A.length) []) (k := k) with ⟨i1, s1⟩ | ⟨j, x, i1, hx, hxk, s1, hset, hdel⟩
  · have hA0 : ¬ (seekR h t.A k).isSome = true := by rw [eA, s1]; exact fun e => by cases e
    by_cases hB : t.B.length = 0
    · have hBn : seekR h t.B k = none := by rw [List.length_eq_zero_iff.1 hB, seekR_nil]
      have hB0 : ¬ (seekR h t.B k).isSome = true := by rw [hBn]; exact fun e => by cases e
      refine Or.inr (Or.inr (Or.inl ⟨hB, ?_, ?_, fun v => ?_, ?_, i1⟩))
      · unfold whereG
        rw [if_pos (Or.inr hB), i1]
      · unfold lookT
        rw [eA, s1]
        exact hBn
      · unfold putS
        rw [if_neg hA0, if_neg hB0, if_pos hB, modify_set _ _ _ hra]
      · unfold delS
        rw [if_neg hA0, if_neg hB0]
    · have hBp : 0 < t.B.length := Nat.pos_of_ne_zero hB
      have hrb : h k % t.B.length < t.B.length := Nat.mod_lt _ hBp
      have hor : ¬ (0 ≤ idxG (t.A.getD (h k % t.A.length) []) k ∨ t.B.length = 0) := by rw [i1]; intro q; rcases q with q | q; exact absurd q (by decide); exact hB q
      rcases seekL_idxG (l := t.B.getD (h k % t.B.length) []) (k := k) with ⟨i2, s2⟩ | ⟨j, x, i2, hx, hxk, s2, hset, hdel⟩
      · have hB0 : ¬ (seekR h t.B k).isSome = true := by rw [eB, s2]; exact fun e => by cases e
        refine Or.inr (Or.inr (Or.inr ⟨hBp, ?_, ?_, fun v => ?_, ?_, i1, i2⟩))
        · unfold whereG
          rw [if_neg hor, i2]
        · unfold lookT
          rw [eA, s1]
          exact s2
        · unfold putS
          rw [if_neg hA0, if_neg hB0, if_neg hB, modify_set _ _ _ hrb]
        · unfold delS
          rw [if_neg hA0, if_neg hB0]
      · have hB0 : (seekR h t.B k).isSome = true := by rw [eB, s2]; rfl
        refine Or.inr (Or.inl ⟨j, x, hBp, ?_, hx, hxk, ?_, fun v => ?_, ?_, i1, i2⟩)
        · unfold whereG
          rw [if_neg hor, i2]
        · unfold lookT
          rw [eA, s1]
          exact s2
        · unfold putS
          rw [if_neg hA0, if_pos hB0, modify_set _ _ _ hrb, hset]
        · unfold delS
          rw [if_neg hA0, if_pos hB0, modify_set _ _ _ hrb, hdel]
  · have hA0 : (seekR h t.A k).isSome = true := by rw [eA, s1]; rfl
    refine Or.inl ⟨j, x, ?_, hx, hxk, ?_, fun v => ?_, ?_, i1⟩
    · unfold whereG
      rw [if_pos (Or.inl (by rw [i1]; omega)), i1]
    · unfold lookT
      rw [eA, s1]
    · unfold putS
      rw [if_pos hA0, modify_set _ _ _ hra, hset]
    · unfold delS
      rw [if_pos hA0, modify_set _ _ _ hra, hdel]

theorem pset0 (Q seed n m : Nat) (a b v : Value) (hv : v = .pointer (some ⟨Q, 0, none⟩)) (i : Nat) : (if i = 0 then v else pHdr Q seed n m a b i) = pHdr Q seed n m a b i := by
  subst hv
  rcases i with _ | _ | _ | _ | _ | i <;> simp [pHdr]
theorem pset2 (Q seed n m n' : Nat) (a b : Value) (i : Nat) : (if i = 2 then .int .i64 n' else pHdr Q seed n m a b i) = pHdr Q seed n' m a b i := by rcases i with _ | _ | _ | _ | _ | i <;> simp [pHdr]
theorem pset3 (Q seed n m : Nat) (a b v : Value) (i : Nat) : (if i = 3 then v else pHdr Q seed n m a b i) = pHdr Q seed n m v b i := by rcases i with _ | _ | _ | _ | _ | i <;> simp [pHdr]
theorem pset4 (Q seed n m : Nat) (a b v : Value) (i : Nat) : (if i = 4 then v else pHdr Q seed n m a b i) = pHdr Q seed n m a v i := by rcases i with _ | _ | _ | _ | _ | i <;> simp [pHdr]
theorem pset5 (Q seed n m m' : Nat) (a b : Value) (i : Nat) (hi : i < 6) : (if i = 5 then .int .i64 m' else pHdr Q seed n m a b i) = pHdr Q seed n m' a b i := by rcases i with _ | _ | _ | _ | _ | _ | i <;> simp [pHdr] <;> omega

open Go.RowKit in
theorem bdN (B : Nat) (w : World) (n : Nat) : Below B w (w.drewN n) := ⟨rfl, rfl, rfl, Nat.le_refl _, fun _ _ => rfl⟩

/-- What grow and shrink make. -/
def growT (t : Tb α) : Tb α := { t with B := if t.B.length = 0 ∧ t.A.length < t.n then List.replicate (2 * t.A.length) [] else t.B }
def shrinkT (t : Tb α) : Tb α := { t with B := if t.B.length = 0 ∧ 4 < t.A.length ∧ t.n * 8 < t.A.length then List.replicate (t.A.length / 2) [] else t.B }

open Go.RowKit in
/-- A second row is made and laid into the head. -/
theorem PT.fresh {K : Kd α} {w : World} {base Q seed : Nat} {ow : Own} {tyT : TypeId} {t : Tb α} {gA gB : Nat} {sA sB : Nat → Value} (h : PT K w base ow Q tyT seed t gA sA gB sB) (hz : t.B.length = 0) (n : Nat) (hn : 0 < n) :
    ∃ ow' gB' sB', PT K ((w.alloc (.cells (madeCells #[.slice none 0 0] n) K.tb)).setCell ⟨Q, 4, none⟩ (.slice (some ⟨w.heap.size, 0, none⟩) n n)) base ow' Q tyT seed { t with B := List.replicate n [] } gA sA gB' sB' ∧ Turns ow ow' w ((w.alloc (.cells (madeCells #[.slice none 0 0] n) K.tb)).setCell ⟨Q, 4, none⟩ (.slice (some ⟨w.heap.size, 0, none⟩) n n)) := by
  have hd := h.dom Q (by rw [h.q]; exact fun e => by cases e)
  obtain ⟨ow', h1, h2⟩ := (TbOn.drop h gB sB).fresh n (by omega)
  refine ⟨ow', w.heap.size, fun _ => .slice none 0 0, ?_, h2.trans (h1.turnsHd 4 _)⟩
  have h3 := (h1.setHd 4 (.slice (some ⟨w.heap.size, 0, none⟩) n n)).recap (hdr' := pHdr Q seed t.n t.moved (rowV gA t.A.length) (rowV w.heap.size n)) (fun i _ => by
    rw [show t.B.length = 0 from hz] at *
    rw [pset4, rowV_pos hn])
  unfold PT
  dsimp only
  rw [List.length_replicate]
  exact h3

open Go.RowKit in
/-- A new table. -/
theorem PT.made (K : Kd α) (w : World) (seed : Nat) (tyT : TypeId) :
    ∃ ow, PT K ((w.alloc (.cells (madeCells #[.slice none 0 0] 4) K.tb)).alloc (.cells #[.pointer (some ⟨w.heap.size + 1, 0, none⟩), .int .u64 seed, .int .i64 (0 : Nat), .slice (some ⟨w.heap.size, 0, none⟩) 4 4, .slice none 0 0, .int .i64 (0 : Nat)] tyT)) w.heap.size ow (w.heap.size + 1) tyT seed (newT : Tb α) w.heap.size (fun _ => .slice none 0 0) w.heap.size (fun _ => .slice none 0 0) := by
  have h1 := World.rowIs_made w (.slice none 0 0) 4 K.tb
  obtain ⟨w1, hw1⟩ : ∃ w1, w.alloc (.cells (madeCells #[.slice none 0 0] 4) K.tb) = w1 := ⟨_, rfl⟩
  rw [hw1] at h1 ⊢
  have hz : w1.heap.size = w.heap.size + 1 := by rw [← hw1]; simp
  have h2 := World.rowIs_alloc w1 #[.pointer (some ⟨w.heap.size + 1, 0, none⟩), .int .u64 seed, .int .i64 (0 : Nat), .slice (some ⟨w.heap.size, 0, none⟩) 4 4, .slice none 0 0, .int .i64 (0 : Nat)] tyT (pHdr (w.heap.size + 1) seed 0 0 (.slice (some ⟨w.heap.size, 0, none⟩) 4 4) (.slice none 0 0)) (fun i hi => by
    rcases i with _ | _ | _ | _ | _ | _ | i <;> first | rfl | (simp at hi; omega))
  rw [hz] at h2
  refine ⟨fun k => if k = w.heap.size then some (w.heap.size + 1, 0) else if k = w.heap.size + 1 then some (w.heap.size + 1, 1) else none, h2, ?_, ⟨fun _ => if_pos rfl, fun _ => h1.alloc _, fun i l hl => ?_, fun i l b _ hb => by cases hb⟩,
    ⟨fun hp => absurd hp (Nat.lt_irrefl 0), fun hp => absurd hp (Nat.lt_irrefl 0), fun i l hl => by simp [newT] at hl, fun i l b hl => by simp [newT] at hl⟩, fun _ hp => absurd hp (Nat.lt_irrefl 0), fun k hk => ?_⟩
  · show (if w.heap.size + 1 = w.heap.size then _ else _) = _
    rw [if_neg (by omega), if_pos rfl]
  · have : l = [] := by
      rcases i with _ | _ | _ | _ | i <;> simp [newT] at hl <;> exact hl
    subst this
    exact World.ownsRow_nil _ _ _ _
  · have hz2 : ∀ o, (w1.alloc o).heap.size = w.heap.size + 2 := fun o => by simp [hz]
    rw [hz2]
    by_cases e : k = w.heap.size
    · omega
    · by_cases e2 : k = w.heap.size + 1
      · omega
      · exfalso
        refine hk ?_
        show (if k = w.heap.size then _ else if k = w.heap.size + 1 then _ else none) = none
        rw [if_neg e, if_neg e2]

/-- What Look tells. -/
def lookW (K : Kd α) (z : α) (o : Option α) : Value × Bool := match o with
  | some v => (K.enc v, true)
  | none => (K.enc z, false)

theorem spread_one {h : List UInt8 → Nat} {B : List (List (List UInt8 × α))} {l : List (List UInt8 × α)} {i : Nat} {x : List UInt8 × α} (hB : 0 < B.length) (hx : l[i]? = some x) :
    spread h B (l.take (i + 1)) = (spread h B (l.take i)).set (h x.1 % B.length) ((spread h B (l.take i)).getD (h x.1 % B.length) [] ++ [x]) := by
  rw [List.take_add_one, hx, Option.toList_some]
  unfold spread
  rw [List.foldl_append, List.foldl_cons, List.foldl_nil]
  have e := spread_length h (l.take i) B
  unfold spread at e
  rw [e, modify_set _ _ _ (by rw [e]; exact Nat.mod_lt _ hB)]

theorem stepT_none {h : List UInt8 → Nat} {t : Tb α} (hB : t.B.length = 0) : stepT h t = t := by unfold stepT; rw [if_pos hB]
theorem stepT_mid {h : List UInt8 → Nat} {t : Tb α} (hB : t.B.length ≠ 0) (hl : t.moved + 1 ≠ t.A.length) : stepT h t = ⟨t.A.set t.moved [], spread h t.B (t.A.getD t.moved []), t.moved + 1, t.n⟩ := by unfold stepT; rw [if_neg hB, if_neg hl]
theorem stepT_last {h : List UInt8 → Nat} {t : Tb α} (hB : t.B.length ≠ 0) (hl : t.moved + 1 = t.A.length) : stepT h t = growT ⟨spread h t.B (t.A.getD t.moved []), [], 0, t.n⟩ := by
  unfold stepT growT
  rw [if_neg hB, if_pos hl]
  dsimp only
  rw [spread_length]
  by_cases hq : t.B.length < t.n
  · rw [if_pos hq, if_pos ⟨rfl, hq⟩]
  · rw [if_neg hq, if_neg (fun q => hq q.2)]

end

end Go.Proofs.Ytcjoakbaldeaoaa
