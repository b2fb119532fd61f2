/-
  Where things stand while a node is laid, level by level: no walk.
-/
import Derived.Test.YtcbiiioglklpoaaDoorSkX
namespace Go.Proofs.YtcbiiioglklpoaaDoor
open Go.RowKit

section
variable {lv : Mb → Nat} {h : Nat} {ns : List Nd} {p X : Nat} {m : Mb}

theorem blk_ins_le {k b : Nat} (hb : BlkAt h ns k b) (hk : k ≤ p) (hp : p ≤ ns.length) (y : Nd) : BlkAt h (insAt ns p y) k b := by
  rcases k with _ | k
  · exact hb
  · obtain ⟨x, hx, rfl⟩ := hb.of_succ
    refine BlkAt.succ ?_
    rw [insAt_get hp, if_pos (by omega)]
    exact hx
theorem blk_ins_gt {k b : Nat} (hb : BlkAt h ns k b) (hk : p < k) (hp : p ≤ ns.length) (y : Nd) : BlkAt h (insAt ns p y) (k + 1) b := by
  rcases k with _ | k
  · omega
  · obtain ⟨x, hx, rfl⟩ := hb.of_succ
    refine BlkAt.succ ?_
    rw [insAt_get hp, if_neg (by omega), if_neg (by omega)]
    exact hx
theorem blk_ins_new (hp : p ≤ ns.length) (y : Nd) : BlkAt h (insAt ns p y) (p + 1) y.1 := by
  refine BlkAt.succ ?_
  rw [insAt_get hp, if_neg (by omega), if_pos rfl]
theorem blk_of_ins {k b : Nat} {y : Nd} (hb : BlkAt h (insAt ns p y) k b) (hp : p ≤ ns.length) : (k ≤ p ∧ BlkAt h ns k b) ∨ (k = p + 1 ∧ b = y.1) ∨ (p + 1 < k ∧ BlkAt h ns (k - 1) b) := by
  rcases k with _ | k
  · exact Or.inl ⟨Nat.zero_le _, hb⟩
  · obtain ⟨x, hx, rfl⟩ := hb.of_succ
    rw [insAt_get hp] at hx
    by_cases h1 : k < p
    · rw [if_pos h1] at hx
      exact Or.inl ⟨by omega, BlkAt.succ hx⟩
    · rw [if_neg h1] at hx
      by_cases h2 : k = p
      · rw [if_pos h2] at hx
        exact Or.inr (Or.inl ⟨by omega, by injection hx with hx; rw [hx]⟩)
      · rw [if_neg h2] at hx
        refine Or.inr (Or.inr ⟨by omega, ?_⟩)
        obtain ⟨j, rfl⟩ : ∃ j, k = j + 1 := ⟨k - 1, by omega⟩
        exact BlkAt.succ hx

/-- A trail's level behind the new node. -/
theorem trf_new {i k : Nat} {f : Nat → Value} (ht : IsTr lv ns i p k) (hp : p ≤ ns.length) (hm : i < lv m) (h0 : f (i * 2) = .pointer (some ⟨X, 0, none⟩)) (h1 : f (i * 2 + 1) = .int .i64 ((p + 1 : Nat) : Int)) : TrF lv h (insAt ns p (X, m)) (p + 1) f i := by
  have q := lay_tr (X, m) ht hp
  rw [if_pos hm] at q
  exact ⟨p + 1, X, blk_ins_new hp (X, m), q, h0, h1⟩
theorem trf_stay {i k b : Nat} {f : Nat → Value} (ht : IsTr lv ns i p k) (hb : BlkAt h ns k b) (hp : p ≤ ns.length) (hm : ¬ i < lv m) (h0 : f (i * 2) = .pointer (some ⟨b, 0, none⟩)) (h1 : f (i * 2 + 1) = .int .i64 (k : Nat)) : TrF lv h (insAt ns p (X, m)) (p + 1) f i := by
  have q := lay_tr (X, m) ht hp
  rw [if_neg hm] at q
  exact ⟨k, b, blk_ins_le hb ht.1 hp _, q, h0, h1⟩

/-- Where things stand when i levels are done. -/
structure LSt (w3 wr : World) (lv : Mb → Nat) (h : Nat) (ns : List Nd) (p X : Nat) (m : Mb) (M : Nat) (S : Nat → Nat → Value) (SM : ByteArray) (MN : Int) (bk : Option Nat) (i : Nat) (S' : Nat → Nat → Value) (SX ft : Nat → Value) : Prop where
  rows : ∀ b ∈ h :: ns.map (·.1), wr.rowIs b 106 35 (S' b)
  inv : LayInv lv h ns p X m i S' SX
  low : ∀ b, ∀ j, j < 3 → S' b j = S b j
  xrow : wr.rowIs X 106 35 SX
  x0 : SX 0 = .string SM
  x1 : SX 1 = .int .i64 MN
  x2 : SX 2 = ptrV bk
  trow : wr.rowIs M 125 32 ft
  tr : ∀ l, l < 16 → if l < i then TrF lv h (insAt ns p (X, m)) (p + 1) ft l else TrF lv h ns p ft l
  mrow : wr.rowIs (M + 1) 47 2 (fun j => if j = 0 then .string SM else .int .i64 MN)
  rrow : wr.rowIs (M + 2) 125 32 zf
  srow : wr.rowIs (M + 4) 123 2 (ytF (some ⟨X, 0, none⟩) ((p + 1 : Nat) : Int))
  only : Only (fun b => b ∈ h :: ns.map (·.1) ∨ M ≤ b) w3 wr

section
variable {w3 wr : World} {M : Nat} {S S' : Nat → Nat → Value} {SM : ByteArray} {MN : Int} {bk : Option Nat} {i k b : Nat} {SX ft : Nat → Value} {T : Option Addr} {s : Int}

/-- The level's trail and its way, cell by cell. -/
theorem LSt.at_ (q : LSt w3 wr lv h ns p X m M S SM MN bk i S' SX ft) (hi : i < 16) (hlow : ∀ b ∈ h :: ns.map (·.1), b < M) : ∃ k b T s, BlkAt h ns k b ∧ IsTr lv ns i p k ∧ b < M ∧ b ∈ h :: ns.map (·.1) ∧ ft (i * 2) = .pointer (some ⟨b, 0, none⟩) ∧ ft (i * 2 + 1) = .int .i64 (k : Nat) ∧
    S' b (3 + i * 2) = .pointer T ∧ S' b (3 + i * 2 + 1) = .int .i64 s := by
  have h1 := q.tr i hi
  rw [if_neg (by omega)] at h1
  obtain ⟨k, b, hb, ht, f0, f1⟩ := h1
  obtain ⟨T, s, t0, t1, _⟩ := (q.inv.way hi hb ht).ex
  exact ⟨k, b, T, s, hb, ht, hlow b hb.mem, hb.mem, f0, f1, t0, t1⟩

theorem LSt.stepA (q : LSt w3 wr lv h ns p X m M S SM MN bk i S' SX ft) (hone : (h :: ns.map (·.1)).Nodup) (hi : i < 16) (hp : p ≤ ns.length) (hn : ns.length ≤ 1000000) (hX : X = M + 3) (hlow : ∀ b ∈ h :: ns.map (·.1), b < M) (hb : BlkAt h ns k b) (ht : IsTr lv ns i p k)
    (f0 : ft (i * 2) = .pointer (some ⟨b, 0, none⟩)) (f1 : ft (i * 2 + 1) = .int .i64 (k : Nat)) (hs : S' b (3 + i * 2 + 1) = .int .i64 s) (hm : ¬ i < lv m) :
    ∃ S'', LSt w3 (wr.setCell ⟨b, 3 + i * 2 + 1, none⟩ (.int .i64 (IntKind.i64.wrap (s + 1)))) lv h ns p X m M S SM MN bk (i + 1) S'' SX ft := by
  have hbM := hlow b hb.mem
  refine ⟨_, rows_set q.rows b _ _, q.inv.above hone hi hb ht hp hn (by omega) hs, fun b' j hj => ?_, q.xrow.setOther (by dsimp only; omega) _, q.x0, q.x1, q.x2, q.trow.setOther (by dsimp only; omega) _, fun l hl => ?_, q.mrow.setOther (by dsimp only; omega) _, q.rrow.setOther (by dsimp only; omega) _, q.srow.setOther (by dsimp only; omega) _, q.only.set (q := ⟨b, _, none⟩) (Or.inl hb.mem) _⟩
  · rw [upc_cell _ _ _ _ (by omega)]
    exact q.low b' j hj
  · have h1 := q.tr l hl
    by_cases hli : l < i
    · rw [if_pos (by omega)]
      rw [if_pos hli] at h1
      exact h1
    · rw [if_neg hli] at h1
      by_cases e : l = i
      · subst e
        rw [if_pos (by omega)]
        exact trf_stay ht hb hp hm f0 f1
      · rw [if_neg (by omega)]
        exact h1

theorem LSt.stepB (q : LSt w3 wr lv h ns p X m M S SM MN bk i S' SX ft) {w6 : World} (hone : (h :: ns.map (·.1)).Nodup) (hi : i < 16) (hp : p ≤ ns.length) (hn : ns.length ≤ 1000000) (hX : X = M + 3) (hlow : ∀ b ∈ h :: ns.map (·.1), b < M) (hb : BlkAt h ns k b) (ht : IsTr lv ns i p k)
    (hT : S' b (3 + i * 2) = .pointer T) (hs : S' b (3 + i * 2 + 1) = .int .i64 s) (hm : i < lv m) (hb6 : Below wr.heap.size (wr.setCell ⟨b, 3 + i * 2 + 1, none⟩ (.int .i64 (IntKind.i64.wrap (s + 1)))) w6) :
    ∃ S'' SX' ft', LSt w3 ((((((w6.setCell ⟨X, 3 + i * 2, none⟩ (.pointer T)).setCell ⟨X, 3 + i * 2 + 1, none⟩ (.int .i64 (IntKind.i64.wrap (IntKind.i64.wrap ((k : Nat) + IntKind.i64.wrap (s + 1)) - ((p + 1 : Nat) : Int))))).setCell ⟨b, 3 + i * 2, none⟩ (.pointer (some ⟨X, 0, none⟩))).setCell ⟨b, 3 + i * 2 + 1, none⟩
      (.int .i64 (IntKind.i64.wrap (((p + 1 : Nat) : Int) - (k : Nat))))).setCell ⟨M, i * 2, none⟩ (.pointer (some ⟨X, 0, none⟩))).setCell ⟨M, i * 2 + 1, none⟩ (.int .i64 ((p + 1 : Nat) : Int))) lv h ns p X m M S SM MN bk (i + 1) S'' SX' ft' := by
  have hbM := hlow b hb.mem
  have hMX : M ∉ h :: ns.map (·.1) := fun e => Nat.lt_irrefl _ (hlow M e)
  have hXX : X ∉ h :: ns.map (·.1) := fun e => by have := hlow X e; omega
  have hMl := q.trow.lt
  have hMl1 := q.mrow.lt
  have hMl2 := q.rrow.lt
  have hMl4 := q.srow.lt
  have hXl := q.xrow.lt
  have r5 := rows_set q.rows b (3 + i * 2 + 1) (.int .i64 (IntKind.i64.wrap (s + 1)))
  have r6 : ∀ b' ∈ h :: ns.map (·.1), w6.rowIs b' 106 35 (upc S' b (3 + i * 2 + 1) (.int .i64 (IntKind.i64.wrap (s + 1))) b') := fun b' hb' => (r5 b' hb').of_block (hb6.block b' (by have := hlow b' hb'; omega))
  have x6 := (q.xrow.setOther (a := ⟨b, 3 + i * 2 + 1, none⟩) (by dsimp only; omega) (.int .i64 (IntKind.i64.wrap (s + 1)))).of_block (hb6.block X hXl)
  have t6 := (q.trow.setOther (a := ⟨b, 3 + i * 2 + 1, none⟩) (by dsimp only; omega) (.int .i64 (IntKind.i64.wrap (s + 1)))).of_block (hb6.block M hMl)
  have m6 := (q.mrow.setOther (a := ⟨b, 3 + i * 2 + 1, none⟩) (by dsimp only; omega) (.int .i64 (IntKind.i64.wrap (s + 1)))).of_block (hb6.block (M + 1) hMl1)
  have rr6 := (q.rrow.setOther (a := ⟨b, 3 + i * 2 + 1, none⟩) (by dsimp only; omega) (.int .i64 (IntKind.i64.wrap (s + 1)))).of_block (hb6.block (M + 2) hMl2)
  have s6 := (q.srow.setOther (a := ⟨b, 3 + i * 2 + 1, none⟩) (by dsimp only; omega) (.int .i64 (IntKind.i64.wrap (s + 1)))).of_block (hb6.block (M + 4) hMl4)
  have o5 : Only (fun b => b ∈ h :: ns.map (·.1) ∨ M ≤ b) w3 (wr.setCell ⟨b, 3 + i * 2 + 1, none⟩ (.int .i64 (IntKind.i64.wrap (s + 1)))) := q.only.set (q := ⟨b, _, none⟩) (Or.inl hb.mem) _
  have o6 := o5.trans (Only.of_below (p := fun b => b ∈ h :: ns.map (·.1) ∨ M ≤ b) (by simpa using hb6))
  refine ⟨_, _, _, rows_other (rows_other (rows_set (rows_set (rows_other (rows_other r6 hXX _ _) hXX _ _) b _ _) b _ _) hMX _ _) hMX _ _, q.inv.below hone hi hb ht hp hn hm hT hs, fun b' j hj => ?_,
    (((((x6.set (3 + i * 2) _).set (3 + i * 2 + 1) _).setOther (by dsimp only; omega) _).setOther (by dsimp only; omega) _).setOther (by dsimp only; omega) _).setOther (by dsimp only; omega) _, ?_, ?_, ?_,
    (((((t6.setOther (by dsimp only; omega) _).setOther (by dsimp only; omega) _).setOther (by dsimp only; omega) _).setOther (by dsimp only; omega) _).set (i * 2) _).set (i * 2 + 1) _, fun l hl => ?_,
    (((((m6.setOther (by dsimp only; omega) _).setOther (by dsimp only; omega) _).setOther (by dsimp only; omega) _).setOther (by dsimp only; omega) _).setOther (by dsimp only; omega) _).setOther (by dsimp only; omega) _,
    (((((rr6.setOther (by dsimp only; omega) _).setOther (by dsimp only; omega) _).setOther (by dsimp only; omega) _).setOther (by dsimp only; omega) _).setOther (by dsimp only; omega) _).setOther (by dsimp only; omega) _,
    (((((s6.setOther (by dsimp only; omega) _).setOther (by dsimp only; omega) _).setOther (by dsimp only; omega) _).setOther (by dsimp only; omega) _).setOther (by dsimp only; omega) _).setOther (by dsimp only; omega) _,
    (((((o6.set (q := ⟨X, _, none⟩) (Or.inr (by dsimp only; omega)) _).set (q := ⟨X, _, none⟩) (Or.inr (by dsimp only; omega)) _).set (q := ⟨b, _, none⟩) (Or.inl hb.mem) _).set (q := ⟨b, _, none⟩) (Or.inl hb.mem) _).set (q := ⟨M, _, none⟩) (Or.inr (Nat.le_refl _)) _).set (q := ⟨M, _, none⟩) (Or.inr (Nat.le_refl _)) _⟩
  · rw [upc_cell _ _ _ _ (by omega), upc_cell _ _ _ _ (by omega), upc_cell _ _ _ _ (by omega)]
    exact q.low b' j hj
  · rw [if_neg (by omega), if_neg (by omega)]; exact q.x0
  · rw [if_neg (by omega), if_neg (by omega)]; exact q.x1
  · rw [if_neg (by omega), if_neg (by omega)]; exact q.x2
  · have h1 := q.tr l hl
    have key : ∀ {p' : Nat} {ns' : List Nd}, l ≠ i → TrF lv h ns' p' ft l → TrF lv h ns' p' (fun j => if j = i * 2 + 1 then .int .i64 ((p + 1 : Nat) : Int) else if j = i * 2 then .pointer (some ⟨X, 0, none⟩) else ft j) l := fun {p'} {ns'} hne hq => by
      obtain ⟨k1, b1, q1, q2, q3, q4⟩ := hq
      refine ⟨k1, b1, q1, q2, ?_, ?_⟩
      · dsimp only; rw [if_neg (by omega), if_neg (by omega)]; exact q3
      · dsimp only; rw [if_neg (by omega), if_neg (by omega)]; exact q4
    by_cases hli : l < i
    · rw [if_pos (by omega)]
      rw [if_pos hli] at h1
      exact key (by omega) h1
    · rw [if_neg hli] at h1
      by_cases e : l = i
      · subst e
        rw [if_pos (by omega)]
        exact trf_new ht hp hm (by rw [if_neg (by omega), if_pos rfl]) (by rw [if_pos rfl])
      · rw [if_neg (by omega)]
        exact key e h1

theorem LSt.same {wr' : World} (q : LSt w3 wr lv h ns p X m M S SM MN bk i S' SX ft) (e : wr'.heap = wr.heap) (e1 : wr'.os = wr.os) (e2 : wr'.tape = wr.tape) (e3 : wr'.output = wr.output) : LSt w3 wr' lv h ns p X m M S SM MN bk i S' SX ft := by
  have r : ∀ {b : Nat} {t : TypeId} {n : Nat} {f : Nat → Value}, wr.rowIs b t n f → wr'.rowIs b t n f := fun h => h.of_block (by rw [e])
  exact ⟨fun b hb => r (q.rows b hb), q.inv, q.low, r q.xrow, q.x0, q.x1, q.x2, r q.trow, q.tr, r q.mrow, r q.rrow, r q.srow, ⟨e1.trans q.only.os, e2.trans q.only.tape, e3.trans q.only.output, by rw [e]; exact q.only.size, fun k hk hn => by rw [e]; exact q.only.block k hk hn⟩⟩

theorem LSt.drew (q : LSt w3 wr lv h ns p X m M S SM MN bk i S' SX ft) : LSt w3 wr.drew lv h ns p X m M S SM MN bk i S' SX ft :=
  ⟨q.rows, q.inv, q.low, q.xrow, q.x0, q.x1, q.x2, q.trow, q.tr, q.mrow, q.rrow, q.srow, ⟨q.only.os, q.only.tape, q.only.output, q.only.size, q.only.block⟩⟩

end
end

theorem setCell_drew (w : World) (a : Addr) (v : Value) : w.drew.setCell a v = (w.setCell a v).drew := rfl

theorem by_oneW {G F : World → Prop} {goal : Prop} (h1 : Hid (∀ W, F W → G W) → goal) (h2 : ∀ W, F W → G W) : goal := h1 h2

end Go.Proofs.YtcbiiioglklpoaaDoor
