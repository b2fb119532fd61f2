/-
  What taking a node out does level by level to the cells of the other nodes; the chain stands again. No walk. Package skip's del: a node is taken out. Conditions: the chain stands, in order, and holds the node.
-/
import Derived.Test.YtcbiiioglklpoaaDoorSkZa
import Derived.Test.YtcbiiioglklpoaaDoorSkC1
namespace Go.Proofs.YtcbiiioglklpoaaDoor
open Go.RowKit

/-- While the node behind the place p is taken out: the levels below i are done. -/
def TakInv (lv : Mb → Nat) (h : Nat) (ns : List Nd) (p X : Nat) (m : Mb) (i : Nat) (S : Nat → Nat → Value) : Prop :=
  ∀ k b l, BlkAt h ns k b → OnLv lv ns l k → l < 16 → WayIs (S b) l (if l < i then fstAt lv l (ns.drop k) else fstAt lv l ((insAt ns p (X, m)).drop (if k ≤ p then k else k + 1)))

section
variable {lv : Mb → Nat} {h : Nat} {ns : List Nd} {p X : Nat} {m : Mb} {i k b : Nat} {S S' S9 : Nat → Nat → Value} {SX : Nat → Value} {w W : World}

theorem blk_to_ins (hp : p ≤ ns.length) (hb : BlkAt h ns k b) : BlkAt h (insAt ns p (X, m)) (if k ≤ p then k else k + 1) b := by
  rcases k with _ | k
  · rw [if_pos (Nat.zero_le _)]
    exact hb
  · obtain ⟨x, hx, rfl⟩ := hb.of_succ
    by_cases hk : k + 1 ≤ p
    · rw [if_pos hk]
      exact BlkAt.succ (by rw [insAt_get hp, if_pos (by omega)]; exact hx)
    · rw [if_neg hk]
      exact BlkAt.succ (by rw [insAt_get hp, if_neg (by omega), if_neg (by omega), Nat.add_sub_cancel]; exact hx)
theorem on_to_ins {l : Nat} (hp : p ≤ ns.length) (ho : OnLv lv ns l k) : OnLv lv (insAt ns p (X, m)) l (if k ≤ p then k else k + 1) := by
  by_cases h0 : k = 0
  · subst h0
    rw [if_pos (Nat.zero_le _)]
    exact Or.inl rfl
  · rcases ho with ho | ⟨x, o1, o2⟩
    · exact absurd ho h0
    · by_cases hk : k ≤ p
      · rw [if_pos hk]
        exact Or.inr ⟨x, by rw [insAt_get hp, if_pos (by omega)]; exact o1, o2⟩
      · rw [if_neg hk]
        exact Or.inr ⟨x, by rw [insAt_get hp, if_neg (by omega), if_neg (by omega), Nat.add_sub_cancel]; exact o1, o2⟩
theorem blk_of_ins_le (hp : p ≤ ns.length) (hk : k ≤ p) (hb : BlkAt h (insAt ns p (X, m)) k b) : BlkAt h ns k b := by
  rcases k with _ | k
  · exact hb
  · obtain ⟨x, hx, rfl⟩ := hb.of_succ
    rw [insAt_get hp, if_pos (by omega)] at hx
    exact BlkAt.succ hx
theorem tr_of_ins (hp : p ≤ ns.length) (ht : IsTr lv (insAt ns p (X, m)) i p k) : IsTr lv ns i p k := by
  refine ⟨ht.1, ?_, by have q := ht.2.2; rw [insAt_take hp] at q; exact q⟩
  rcases ht.2.1 with h2 | ⟨x, h2, h3⟩
  · exact Or.inl h2
  · by_cases h0 : k = 0
    · exact Or.inl h0
    · rw [insAt_get hp, if_pos (by have := ht.1; omega)] at h2
      exact Or.inr ⟨x, h2, h3⟩

theorem TakInv.start (hc : ChOn lv w h (insAt ns p (X, m)) S) (hp : p ≤ ns.length) : TakInv lv h ns p X m 0 S := fun k b l h1 h2 h3 => by
  rw [if_neg (by omega)]
  exact hc.way _ b l (blk_to_ins hp h1) (on_to_ins hp h2) h3

/-- What the trail's way holds ahead of its level's turn. -/
theorem TakInv.way (hI : TakInv lv h ns p X m i S) (hi : i < 16) (hb : BlkAt h ns k b) (ht : IsTr lv ns i p k) (hp : p ≤ ns.length) :
    WayIs (S b) i (if i < lv m then some (p + 1 - k, X) else (fstAt lv i (ns.drop k)).map fun r => (r.1 + 1, r.2)) := by
  have q := hI k b i hb ht.2.1 hi
  rw [if_neg (by omega), if_pos ht.1, lay_way_tr (X, m) ht hp] at q
  exact q

/-- A level on which the node does not stand: one place less. -/
theorem TakInv.above (hI : TakInv lv h ns p X m i S) (hone : (h :: ns.map (·.1)).Nodup) (hi : i < 16) (hb : BlkAt h ns k b) (ht : IsTr lv ns i p k) (hp : p ≤ ns.length) (hn : ns.length ≤ 1000000) (hm : lv m ≤ i) {s : Int} (hs : S b (3 + i * 2 + 1) = .int .i64 s) :
    TakInv lv h ns p X m (i + 1) (upc S b (3 + i * 2 + 1) (.int .i64 (IntKind.i64.wrap (s - 1)))) := by
  have hw := hI.way hi hb ht hp
  rw [if_neg (by omega)] at hw
  intro k' b' l hb' hl hl16
  have h0 := hI k' b' l hb' hl hl16
  by_cases hli : l = i
  · subst hli
    rw [if_pos (by omega)]
    rw [if_neg (by omega)] at h0
    by_cases hk : k' = k
    · subst hk
      obtain rfl := hb'.fun hb
      obtain ⟨T, s', q1, q2, q3⟩ := hw.ex
      rcases hr : fstAt lv l (ns.drop k') with _ | ⟨r1, r2⟩
      · rw [hr] at q3
        rcases q3 with ⟨_, rfl⟩ | ⟨d, nb, q3, _⟩
        · exact ⟨by rw [upc_cell S _ _ _ (by omega)]; exact q1, _, upc_same _ _ _ _⟩
        · cases q3
      · rw [hr] at q3
        rcases q3 with ⟨q3, _⟩ | ⟨d, nb, q3, rfl, rfl⟩
        · cases q3
        · simp only [Option.map_some, Option.some.injEq, Prod.mk.injEq] at q3
          obtain ⟨e1, rfl⟩ := q3
          rw [hs] at q2
          have hd : r1 ≤ ns.length := by
            have := (fstAt_some lv hr).2.1
            rw [List.length_drop] at this
            omega
          injection q2 with _ q2
          refine ⟨by rw [upc_cell S _ _ _ (by omega)]; exact q1, ?_⟩
          rw [upc_same, q2, IntWalk.i64_in _ (by omega)]
          congr 1
          omega
    · rw [lay_other ht hp hl hk] at h0
      exact h0.upc_other (Or.inl (fun e => hk (BlkAt.inj hone hb' (e ▸ hb))))
  · have e : (l < i + 1) = (l < i) := by simp; omega
    simp only [e]
    exact h0.upc_other (Or.inr (by omega))

/-- A level on which the node stands. -/
theorem TakInv.below (hI : TakInv lv h ns p X m i S) (hone : (h :: ns.map (·.1)).Nodup) (hi : i < 16) (hb : BlkAt h ns k b) (ht : IsTr lv ns i p k) (hp : p ≤ ns.length) (hn : ns.length ≤ 1000000)
    (hx : WayIs SX i (fstAt lv i (ns.drop p))) {T : Option Addr} {s : Int} (hT : SX (3 + i * 2) = .pointer T) (hs : SX (3 + i * 2 + 1) = .int .i64 s) (v : Value) :
    TakInv lv h ns p X m (i + 1) (upc (upc (upc S b (3 + i * 2) (.pointer T)) b (3 + i * 2 + 1) v) b (3 + i * 2 + 1) (.int .i64 (IntKind.i64.wrap (IntKind.i64.wrap (((p + 1 - k : Nat) : Int) + s) - 1)))) := by
  have hkp := ht.1
  intro k' b' l hb' hl hl16
  have h0 := hI k' b' l hb' hl hl16
  by_cases hli : l = i
  · subst hli
    rw [if_pos (by omega)]
    rw [if_neg (by omega)] at h0
    by_cases hk : k' = k
    · subst hk
      obtain rfl := hb'.fun hb
      rw [ht.way hp]
      obtain ⟨T', s', q1, q2, q3⟩ := hx.ex
      rw [hT] at q1
      rw [hs] at q2
      injection q1 with q1
      injection q2 with _ q2
      subst q1 q2
      rcases hr : fstAt lv l (ns.drop p) with _ | ⟨r1, r2⟩
      · rw [hr] at q3
        rcases q3 with ⟨_, rfl⟩ | ⟨d, nb, q3, _⟩
        · exact ⟨by rw [upc_cell _ _ _ _ (by omega), upc_cell _ _ _ _ (by omega), upc_same], _, upc_same _ _ _ _⟩
        · cases q3
      · rw [hr] at q3
        rcases q3 with ⟨q3, _⟩ | ⟨d, nb, q3, rfl, rfl⟩
        · cases q3
        · simp only [Option.some.injEq, Prod.mk.injEq] at q3
          obtain ⟨rfl, rfl⟩ := q3
          have hd : r1 ≤ ns.length := by
            have := (fstAt_some lv hr).2.1
            rw [List.length_drop] at this
            omega
          refine ⟨by rw [upc_cell _ _ _ _ (by omega), upc_cell _ _ _ _ (by omega), upc_same], ?_⟩
          rw [upc_same, IntWalk.i64_in (((p + 1 - k' : Nat) : Int) + (r1 : Nat)) (by omega), IntWalk.i64_in _ (by omega)]
          dsimp only
          congr 1
          omega
    · rw [lay_other ht hp hl hk] at h0
      have hne : b' ≠ b := fun e => hk (BlkAt.inj hone hb' (e ▸ hb))
      exact ((h0.upc_other (Or.inl hne)).upc_other (Or.inl hne)).upc_other (Or.inl hne)
  · have e : (l < i + 1) = (l < i) := by simp; omega
    simp only [e]
    exact ((h0.upc_other (Or.inr (by omega))).upc_other (Or.inr (by omega))).upc_other (Or.inr (by omega))

theorem ins_one (hone : (h :: (insAt ns p (X, m)).map (·.1)).Nodup) : (h :: ns.map (·.1)).Nodup ∧ X ∉ h :: ns.map (·.1) := by
  have q1 : (h :: (insAt ns p (X, m)).map (·.1)).Perm (X :: h :: ns.map (·.1)) := by
    refine (List.Perm.cons h ((insAt_perm' (L := ns) (p := p) (X, m)).map (·.1))).trans ?_
    rw [List.map_cons]
    exact List.Perm.swap _ _ _
  rw [q1.nodup_iff, List.nodup_cons] at hone
  exact ⟨hone.2, hone.1⟩

theorem del_chain (hc : ChOn lv w h (insAt ns p (X, m)) S) (hI : TakInv lv h ns p X m 16 S') (low : ∀ b j, j < 3 → S' b j = S b j) (hp : p ≤ ns.length)
    (rows : ∀ b ∈ h :: ns.map (·.1), W.rowIs b 106 35 (S9 b)) (h9 : ∀ b j, j ≠ 2 → S9 b j = S' b j) (h92 : ∀ k x, ns[k]? = some x → S9 x.1 2 = if k = p then ptrV (backOf ns p) else S' x.1 2) :
    ChOn lv W h ns S9 := by
  have wo : ∀ {b l : Nat} {r : Option (Nat × Nat)}, WayIs (S' b) l r → WayIs (S9 b) l r := fun {b l r} hw => by
    cases r with
    | none =>
      obtain ⟨q1, s, q2⟩ := hw
      exact ⟨by rw [h9 b _ (by omega)]; exact q1, s, by rw [h9 b _ (by omega)]; exact q2⟩
    | some r =>
      obtain ⟨d, b'⟩ := r
      exact ⟨by rw [h9 b _ (by omega)]; exact hw.1, by rw [h9 b _ (by omega)]; exact hw.2⟩
  have get : ∀ {k : Nat} {x : Nd}, ns[k]? = some x → (insAt ns p (X, m))[if k < p then k else k + 1]? = some x := fun {k x} hx => by
    rw [insAt_get hp]
    by_cases hk : k < p
    · rw [if_pos hk, if_pos hk]; exact hx
    · rw [if_neg hk, if_neg (by omega), if_neg (by omega), Nat.add_sub_cancel]; exact hx
  refine ⟨(ins_one hc.one).1, rows, fun k x hx => ?_, fun k x hx => ?_, fun k b i hb ho hi => ?_⟩
  · rw [h9 _ 0 (by omega), h9 _ 1 (by omega), low _ 0 (by omega), low _ 1 (by omega)]
    exact hc.mem _ x (get hx)
  · rw [h92 k x hx]
    by_cases hk : k = p
    · rw [if_pos hk, hk]
    · rw [if_neg hk, low _ 2 (by omega), hc.back _ x (get hx)]
      congr 1
      unfold backOf
      by_cases h1 : k < p
      · rw [if_pos h1]
        by_cases h0 : k = 0
        · rw [if_pos h0, if_pos h0]
        · rw [if_neg h0, if_neg h0, insAt_get hp, if_pos (by omega)]
      · rw [if_neg h1, if_neg (by omega), if_neg (by omega), insAt_get hp, Nat.add_sub_cancel, if_neg (by omega), if_neg (by omega)]
  · have q := hI k b i hb ho hi
    rw [if_pos hi] at q
    exact wo q

end

/-- While a node is taken out: the levels below i are done. -/
def DSt (w3 wr : World) (lv : Mb → Nat) (h : Nat) (ns : List Nd) (p X : Nat) (m : Mb) (S : Nat → Nat → Value) (i : Nat) (S' : Nat → Nat → Value) : Prop :=
  TakInv lv h ns p X m i S' ∧ (∀ b j, j < 3 → S' b j = S b j) ∧ (∀ b ∈ h :: ns.map (·.1), wr.rowIs b 106 35 (S' b)) ∧ wr.rowIs X 106 35 (S X) ∧ Only (fun b => b ∈ h :: ns.map (·.1)) w3 wr

section
variable {w3 wr : World} {lv : Mb → Nat} {h : Nat} {ns : List Nd} {p X : Nat} {m : Mb} {i k b : Nat} {S S' : Nat → Nat → Value}

theorem DSt.below {w' : World} (q : DSt w3 wr lv h ns p X m S i S') (hb : Below wr.heap.size wr w') : DSt w3 w' lv h ns p X m S i S' :=
  ⟨q.1, q.2.1, fun b hm => (q.2.2.1 b hm).of_block (hb.block b (q.2.2.1 b hm).lt), q.2.2.2.1.of_block (hb.block X q.2.2.2.1.lt), q.2.2.2.2.trans (Only.of_below hb)⟩

theorem DSt.alloc (q : DSt w3 wr lv h ns p X m S i S') (o : Obj) : DSt w3 (wr.alloc o) lv h ns p X m S i S' := q.below ((Below.refl _ _).alloc (Nat.le_refl _) _)
theorem DSt.drew (q : DSt w3 wr lv h ns p X m S i S') : DSt w3 wr.drew lv h ns p X m S i S' := q.below (Below.refl _ _).drew

theorem DSt.stepA (q : DSt w3 wr lv h ns p X m S i S') (hone : (h :: ns.map (·.1)).Nodup) (hX : X ∉ h :: ns.map (·.1)) (hi : i < 16) (hb : BlkAt h ns k b) (ht : IsTr lv ns i p k) (hp : p ≤ ns.length) (hn : ns.length ≤ 1000000) (hm : lv m ≤ i) {s : Int} (hs : S' b (3 + i * 2 + 1) = .int .i64 s) :
    DSt w3 (wr.setCell ⟨b, 3 + i * 2 + 1, none⟩ (.int .i64 (IntKind.i64.wrap (s - 1)))) lv h ns p X m S (i + 1) (upc S' b (3 + i * 2 + 1) (.int .i64 (IntKind.i64.wrap (s - 1)))) :=
  ⟨q.1.above hone hi hb ht hp hn hm hs, fun b' j hj => by rw [upc_cell _ _ _ _ (by omega)]; exact q.2.1 b' j hj, rows_set q.2.2.1 _ _ _, q.2.2.2.1.setOther (fun e => hX (by have e : X = b := e; rw [e]; exact hb.mem)) _, q.2.2.2.2.set (q := ⟨b, _, none⟩) hb.mem _⟩

theorem DSt.stepB (q : DSt w3 wr lv h ns p X m S i S') (hone : (h :: ns.map (·.1)).Nodup) (hX : X ∉ h :: ns.map (·.1)) (hi : i < 16) (hb : BlkAt h ns k b) (ht : IsTr lv ns i p k) (hp : p ≤ ns.length) (hn : ns.length ≤ 1000000)
    (hx : WayIs (S X) i (fstAt lv i (ns.drop p))) {T : Option Addr} {s : Int} (hT : S X (3 + i * 2) = .pointer T) (hs : S X (3 + i * 2 + 1) = .int .i64 s) (v : Value) :
    DSt w3 (((wr.setCell ⟨b, 3 + i * 2, none⟩ (.pointer T)).setCell ⟨b, 3 + i * 2 + 1, none⟩ v).setCell ⟨b, 3 + i * 2 + 1, none⟩ (.int .i64 (IntKind.i64.wrap (IntKind.i64.wrap (((p + 1 - k : Nat) : Int) + s) - 1)))) lv h ns p X m S (i + 1)
      (upc (upc (upc S' b (3 + i * 2) (.pointer T)) b (3 + i * 2 + 1) v) b (3 + i * 2 + 1) (.int .i64 (IntKind.i64.wrap (IntKind.i64.wrap (((p + 1 - k : Nat) : Int) + s) - 1)))) := by
  have hne : X ≠ b := fun e => hX (by rw [e]; exact hb.mem)
  exact ⟨q.1.below hone hi hb ht hp hn hx hT hs v, fun b' j hj => by rw [upc_cell _ _ _ _ (by omega), upc_cell _ _ _ _ (by omega), upc_cell _ _ _ _ (by omega)]; exact q.2.1 b' j hj, rows_set (rows_set (rows_set q.2.2.1 _ _ _) _ _ _) _ _ _,
    ((q.2.2.2.1.setOther hne _).setOther hne _).setOther hne _, ((q.2.2.2.2.set (q := ⟨b, _, none⟩) hb.mem _).set (q := ⟨b, _, none⟩) hb.mem _).set (q := ⟨b, _, none⟩) hb.mem _⟩

theorem eql_node_nil (w : World) (s : Nat) : (binOp .eql 92 (.pointer none) (.pointer (some ⟨s, 0, none⟩))).run Tryd.prog w = .ok (.bool false) w := by
  have h : ∀ d : Nat, (Op.equalIn (d + 1) 92 (.pointer none) (.pointer (some ⟨s, 0, none⟩))).run Tryd.prog w = .ok false w := fun d => by
    simp [Op.equalIn, run_underlying Tryd.underlying92]
  simp only [binOp]
  simp [Op.equal, Op.maxDepth, h 9999]

theorem step_delete {N mb sz : Nat} {g : List UInt8 → Option Nat} {ops : Array Oper} {o : Oper} {a : Act} {w : World} {K : Act → World → Prop} {Q : Exit → Act → World → Prop} {E : Prop} (hgd : o.guard = none) (x y : Operand)
    (ho : o.op = .call { callee := .builtin .delete, args := #[x, y], argTypes := #[93, 9] })
    (hx : a.eval x = .map (some mb)) (SM : ByteArray) (hy : a.eval y = .string SM) (hS : SM.size ≤ 9223372036854775807) (hnm : NMap w mb N g sz)
    (h : ∀ w', NMap w' mb N (fun m => if m = SM.data.toList then none else g m) (if (g SM.data.toList).isSome then sz - 1 else sz) → Only (· = mb) w w' → K (a.put o.dst (.tuple #[])) w') :
    if Region.wanted o (yielded ops a.tmps) = true then Oper.wp Tryd.prog o a w K Q else E := by
  have hw : Region.wanted o (yielded ops a.tmps) = true := by simp [Region.wanted, hgd]
  rw [if_pos hw]
  obtain ⟨w', hrun, h1, h2⟩ := nm_delete hnm SM hS o.type
  unfold Oper.wp
  simp [execOp, ho, resolve, invoke, builtin, hx, hy, hrun, Result.andThen]
  exact h w' h1 h2

set_option maxRecDepth 100000 in
set_option maxHeartbeats 32000000 in
theorem del_any {w : World} {base seed c mb N : Nat} {lp : Int} {g : List UInt8 → Option Nat} {sz : Nat} (hk : CkOn w base seed c h mb N lp (insAt ns p (X, m)) S g sz) (hp : p ≤ ns.length) (hn : ns.length ≤ 900000) (hm : m.1.length ≤ 1000000000) (ho : InOrd ((insAt ns p (X, m)).map (·.2))) (hg : (g m.1).isSome = true) :
    Calls Tryd.prog 55 #[.pointer (some ⟨c, 0, none⟩), .pointer (some ⟨X, 0, none⟩)] w fun e w' => e = .returned (.tuple #[]) ∧ ∃ S', CkOn w' base seed c h mb N lp ns S' (fun m' => if m' = m.1 then none else g m') (sz - 1) ∧ Only (CkF c h mb ns) w w' := by
  obtain ⟨hone, hXn⟩ := ins_one hk.ch.one
  have hxat : (insAt ns p (X, m))[p]? = some (X, m) := by rw [insAt_get hp, if_neg (by omega), if_pos rfl]
  have hlen : (insAt ns p (X, m)).length = ns.length + 1 := insAt_length hp _
  obtain ⟨y0, y1⟩ := hk.ch.cells hxat
  have hrk : rkM m ((insAt ns p (X, m)).map (·.2)) = p := rkM_self ho (map_get hxat)
  have HBF := Lib.hid (before_any m w)
  have HFD : Hid (∀ W, Below w.heap.size w W → W.rowIs w.heap.size 47 2 (mbF m) → Calls Tryd.prog 70 #[.pointer (some ⟨c, 0, none⟩), .func (.func 75) #[] #[.pointer (some ⟨w.heap.size, 0, none⟩)]] W fun e w' => (∃ f, e = .returned (aggF 32 f) ∧ ∀ l, l < 16 → TrF (lvS seed) h (insAt ns p (X, m)) p f l) ∧ Below W.heap.size W w') := fun W hW hB => by
    have q := find_any W enter_b1 (before_ahead (hk.ch.below hW) rfl ho hB) (by rw [hrk]; omega) (by omega) ((hk.below hW).blk.cell (i := 1) (by omega)) (hk.ch.below hW)
    rw [hrk] at q
    exact q
  have HK := Lib.hid hk
  have HONE := Lib.hid hone
  have HXN := Lib.hid hXn
  have HXA := Lib.hid hxat
  have HP := Lib.hid hp
  have HN := Lib.hid hn
  have HMM := Lib.hid hm
  have HG := Lib.hid hg
  have HLE := Lib.hid hlen
  obtain ⟨SM, hSM⟩ : ∃ SM : ByteArray, (⟨m.1.toArray⟩ : ByteArray) = SM := ⟨_, rfl⟩
  obtain ⟨MN, hMN⟩ : ∃ MN, m.2 = MN := ⟨_, rfl⟩
  rw [hSM] at y0 HBF
  rw [hMN] at y1 HBF
  have HSM := Lib.hid hSM
  have HMN := Lib.hid hMN
  clear hk hone hXn hxat hp hn hm ho hg hrk hlen hSM hMN
  go_enter Tryd.func55, Tryd.ntmps55
  go_wp2_with fail
  refine HBF.out.mono ?_
  rintro e w2 ⟨rfl, hr2, hb2⟩
  have HF2 := Lib.hid (HFD.out w2 hb2 hr2)
  have HB2 := Lib.hid hb2
  clear hr2 hb2
  go_wp2_with fail
  refine HF2.out.mono ?_
  rintro e w3 ⟨⟨f, rfl, htr⟩, hb3⟩
  have HTR := Lib.hid htr
  have HB3 := Lib.hid (HB2.out.trans (hb3.mono HB2.out.size))
  have HK3 := Lib.hid (HK.out.below (HB2.out.trans (hb3.mono HB2.out.size)))
  clear htr hb3 y0 y1
  go_wp2_with fail
  go_loopw [15] (fun iv wr => ∃ (i : Nat) (S' : Nat → Nat → Value), iv = .int .i64 i ∧ i ≤ 16 ∧ DSt w3 wr (lvS seed) h ns p X m S i S') (fun iv _ => 16 - (intOf iv).toNat)
  case atStart => exact ⟨0, S, rfl, by omega, TakInv.start HK3.out.ch HP.out, fun _ _ _ => rfl, fun b hb => HK3.out.ch.row b ((ins_mem (X, m)).2 (Or.inr hb)), HK3.out.ch.row X ((ins_mem (X, m)).2 (Or.inl rfl)), Only.refl _ _⟩
  case round =>
    obtain ⟨i, S', rfl, hi, hst⟩ := hrel
    have HS := Lib.hid hst
    clear hst
    by_cases hlt : i < 16
    · have hil : (i : Int) < 16 := by omega
      obtain ⟨k, b, hb0, ht0, f0, f1⟩ := HTR.out i hlt
      have hkp := ht0.1
      have HB := Lib.hid (blk_of_ins_le HP.out hkp hb0)
      have HT := Lib.hid (tr_of_ins HP.out ht0)
      have hw := HS.out.1.way hlt HB.out HT.out HP.out
      have b1 := (HS.out.2.2.1 b HB.out.mem).cell (i := 3 + i * 2) (by omega)
      have b2 := (HS.out.2.2.1 b HB.out.mem).cell (i := 3 + i * 2 + 1) (by omega)
      have fb1 := (HS.out.2.2.1 b HB.out.mem).frozen (3 + i * 2)
      have fb2 := (HS.out.2.2.1 b HB.out.mem).frozen (3 + i * 2 + 1)
      have hbl : b < wr.heap.size := (HS.out.2.2.1 b HB.out.mem).lt
      have hXl : X < wr.heap.size := HS.out.2.2.2.1.lt
      have hXb : X ≠ b := fun e => HXN.out (by rw [e]; exact HB.out.mem)
      have hbX : b ≠ X := Ne.symm hXb
      have hix := fun W => index_trail f hlt W
      rw [f0, f1] at hix
      have HAL : Hid (DSt w3 (wr.alloc (.cells #[.pointer (some ⟨b, 0, none⟩), .int .i64 (k : Nat)] 123)) (lvS seed) h ns p X m S i S') := HS.out.below ((Below.refl _ _).alloc (Nat.le_refl _) _)
      by_cases hlv : i < lvS seed m
      · rw [if_pos hlv] at hw
        obtain ⟨w1, w2'⟩ := hw
        rw [w1] at b1
        rw [w2'] at b2
        have hwx := HK3.out.ch.way (p + 1) X i (BlkAt.succ HXA.out) (Or.inr ⟨(X, m), by rw [Nat.add_sub_cancel]; exact HXA.out, hlv⟩) hlt
        rw [lay_way_new (X, m) HP.out] at hwx
        obtain ⟨T, s, t0, t1, _⟩ := hwx.ex
        have x1 := HS.out.2.2.2.1.cell (i := 3 + i * 2) (by omega)
        have x2 := HS.out.2.2.2.1.cell (i := 3 + i * 2 + 1) (by omega)
        rw [t0] at x1
        rw [t1] at x2
        have hsame := fun W => eql_node_same W X
        obtain ⟨q, hq⟩ : ∃ q, p + 1 - k = q := ⟨_, rfl⟩
        obtain ⟨w5, hw5⟩ : ∃ w5, wr.alloc (.cells #[.pointer (some ⟨b, 0, none⟩), .int .i64 (k : Nat)] 123) = w5 := ⟨_, rfl⟩
        rw [hw5] at HAL
        have HSTP := Lib.hid (fun v => HAL.out.stepB HONE.out HXN.out hlt HB.out HT.out HP.out (by have := HN.out; omega) hwx t0 t1 v)
        rw [hq] at HSTP b2
        obtain ⟨z1, hz1⟩ : ∃ z1, IntKind.i64.wrap ((q : Int) + s) = z1 := ⟨_, rfl⟩
        rw [hz1] at HSTP
        obtain ⟨z2, hz2⟩ : ∃ z2, IntKind.i64.wrap (z1 - 1) = z2 := ⟨_, rfl⟩
        rw [hz2] at HSTP
        have HW5 := Lib.hid hw5
        have hb5 : Below wr.heap.size wr w5 := by rw [← hw5]; exact (Below.refl _ _).alloc (Nat.le_refl _) _
        have g1 := (hb5.cell (p := ⟨b, 3 + i * 2, none⟩) hbl).trans b1
        have g2 := (hb5.cell (p := ⟨b, 3 + i * 2 + 1, none⟩) hbl).trans b2
        have g3 := (hb5.cell (p := ⟨X, 3 + i * 2, none⟩) hXl).trans x1
        have g4 := (hb5.cell (p := ⟨X, 3 + i * 2 + 1, none⟩) hXl).trans x2
        have g5 := (hb5.frozen (p := ⟨b, 3 + i * 2, none⟩) hbl).trans fb1
        have g6 := (hb5.frozen (p := ⟨b, 3 + i * 2 + 1, none⟩) hbl).trans fb2
        clear w1 w2' hwx t0 t1 hb0 ht0 f0 f1 HAL hq hw5 hb5
        go_wp2_with fail
        rw [HW5.out]
        go_region
        all_goals
          go_wp2
          go_roundw
          case rel => exact ⟨i + 1, _, by go_num, by omega, by first | exact (HSTP.out _).drew | exact HSTP.out _⟩
          case measure => simp only [intOf]; omega
      · rw [if_neg hlv] at hw
        obtain ⟨T, s, t0, t1, t2⟩ := hw.ex
        have HSTP2 := Lib.hid (HAL.out.stepA HONE.out HXN.out hlt HB.out HT.out HP.out (by have := HN.out; omega) (by omega) t1)
        have HSTP := Lib.hid (HS.out.stepA HONE.out HXN.out hlt HB.out HT.out HP.out (by have := HN.out; omega) (by omega) t1)
        obtain ⟨z2, hz2⟩ : ∃ z2, IntKind.i64.wrap (s - 1) = z2 := ⟨_, rfl⟩
        rw [hz2] at HSTP HSTP2
        rw [t0] at b1
        rw [t1] at b2
        have heq : (binOp .eql 92 (.pointer T) (.pointer (some ⟨X, 0, none⟩))).run Tryd.prog (wr.alloc (.cells #[.pointer (some ⟨b, 0, none⟩), .int .i64 (k : Nat)] 123)) = .ok (.bool false) (wr.alloc (.cells #[.pointer (some ⟨b, 0, none⟩), .int .i64 (k : Nat)] 123)) := by
          rcases t2 with ⟨_, rfl⟩ | ⟨d, nb, q, rfl, _⟩
          · exact eql_node_nil _ _
          · have hnb : nb ∈ h :: ns.map (·.1) := by
              cases hq : fstAt (lvS seed) i (ns.drop k) with
              | none => rw [hq] at q; cases q
              | some r =>
                rw [hq] at q
                simp only [Option.map_some, Option.some.injEq, Prod.mk.injEq] at q
                obtain ⟨_, rfl⟩ := q
                obtain ⟨_, _, ⟨mm, q3, _⟩, _⟩ := fstAt_some (lvS seed) (show fstAt (lvS seed) i (ns.drop k) = some (r.1, r.2) from hq)
                rw [List.getElem?_drop] at q3
                exact List.mem_cons_of_mem _ (List.mem_map.2 ⟨_, List.mem_of_getElem? q3, rfl⟩)
            exact eql_node_other (fun e => HXN.out (by rw [← e]; exact hnb)) (HAL.out.2.2.1 nb hnb) HAL.out.2.2.2.1
        clear hw t0 t1 t2 hb0 ht0 f0 f1 HAL
        go_wp2
        go_roundw
        case rel => exact ⟨i + 1, _, by go_num, by omega, by first | exact HSTP.out.alloc _ | exact HSTP2.out⟩
        case measure => simp only [intOf]; omega
    · obtain rfl : i = 16 := by omega
      have hwx := HK3.out.ch.way (p + 1) X 0 (BlkAt.succ HXA.out) (Or.inr ⟨(X, m), by rw [Nat.add_sub_cancel]; exact HXA.out, lvS_pos _ _⟩) (by omega)
      rw [lay_way_new (X, m) HP.out] at hwx
      have hlw := low_way (lv := lvS seed) (ns := ns) (p := p) (lvS_pos seed)
      have hx0v : S X 0 = .string SM := by have q := (HK3.out.ch.mem p (X, m) HXA.out).1; rw [HSM.out] at q; exact q
      have hx2v : S X 2 = ptrV (backOf ns p) := by
        rw [HK3.out.ch.back p (X, m) HXA.out]
        congr 1
        unfold backOf
        by_cases h0 : p = 0
        · rw [if_pos h0, if_pos h0]
        · rw [if_neg h0, if_neg h0, insAt_get HP.out, if_pos (by omega)]
      have x0 := HS.out.2.2.2.1.cell (i := 0) (by omega)
      have x2 := HS.out.2.2.2.1.cell (i := 2) (by omega)
      have x3 := HS.out.2.2.2.1.cell (i := 3) (by omega)
      obtain ⟨V2, hV2⟩ : ∃ V2, ptrV (backOf ns p) = V2 := ⟨_, rfl⟩
      obtain ⟨pv2, hpv2⟩ : ∃ pv, V2 = .pointer pv := by rw [← hV2]; cases backOf ns p <;> exact ⟨_, rfl⟩
      subst hpv2
      rw [hx2v, hV2] at x2
      by_cases hkl : p < ns.length
      · obtain ⟨y, hy, hwy⟩ := hlw.1 hkl
        rw [hwy] at hwx
        rw [hwx.1] at x3
        have hm := (BlkAt.succ (h := h) hy).mem
        have hnc := (HS.out.2.2.1 _ hm).cell (i := 2) (by omega)
        have hnf := (HS.out.2.2.1 _ hm).frozen 2
        have hXy : y.1 ≠ X := fun e => HXN.out (by rw [← e]; exact hm)
        obtain ⟨S9, hS9⟩ : ∃ S9, upc S' y.1 2 (.pointer pv2) = S9 := ⟨_, rfl⟩
        have H91 : Hid (∀ b j, j ≠ 2 → S9 b j = S' b j) := fun b j hj => by rw [← hS9]; exact upc_cell _ _ _ _ hj
        have H92 : Hid (∀ k x, ns[k]? = some x → S9 x.1 2 = if k = p then ptrV (backOf ns p) else S' x.1 2) := fun k x hx => by
          rw [← hS9]
          by_cases hk : k = p
          · subst hk
            rw [if_pos rfl, hV2]
            rw [hy] at hx
            injection hx with hx
            rw [← hx, upc_same]
          · rw [if_neg hk, upc_block]
            intro e
            have q1 := BlkAt.succ (h := h) hx
            rw [e] at q1
            have := BlkAt.inj HONE.out q1 (BlkAt.succ hy)
            omega
        have hrow : ∀ b ∈ h :: ns.map (·.1), (wr.setCell ⟨y.1, 2, none⟩ (.pointer pv2)).rowIs b 106 35 (S9 b) := by rw [← hS9]; exact rows_set HS.out.2.2.1 _ _ _
        obtain ⟨nb, hnb⟩ : ∃ nb, y.1 = nb := ⟨_, rfl⟩
        rw [hnb] at x3 hnc hnf hXy hrow hm
        have hsz : nb < wr.heap.size := World.block_lt_of_cell? _ _ hnc
        clear hwx hlw hx2v hwy hy hnb hS9 hV2 hkl
        go_wp2_with fail
        obtain ⟨W9, hW9⟩ : ∃ W9, wr.setCell ⟨nb, 2, none⟩ (.pointer pv2) = W9 := ⟨_, rfl⟩
        have HROW : Hid (∀ b ∈ h :: ns.map (·.1), W9.rowIs b 106 35 (S9 b)) := by rw [← hW9]; exact hrow
        have HX9 : Hid (W9.rowIs X 106 35 (S X)) := by rw [← hW9]; exact HS.out.2.2.2.1.setOther (Ne.symm hXy) _
        have HO9 : Hid (Only (fun b => b ∈ h :: ns.map (·.1)) w3 W9) := by rw [← hW9]; exact HS.out.2.2.2.2.set (q := ⟨nb, 2, none⟩) hm _
        have HNM9 : Hid (NMap W9.drew mb N g sz) := HK3.out.mp.block (HO9.out.block mb HK3.out.mp.lt (fun e => HK3.out.nem ((ins_mem (X, m)).2 (Or.inr e))))
        have q2 : W9.cell? ⟨c, 2, none⟩ = some (.map (some mb)) := (World.cell?_of_block (a := ⟨c, 2, none⟩) (HO9.out.block c HK3.out.blk.lt (fun e => HK3.out.nec ((ins_mem (X, m)).2 (Or.inr e))))).trans (HK3.out.blk.cell (i := 2) (by omega))
        have q0 : W9.cell? ⟨X, 0, none⟩ = some (.string SM) := (HX9.out.cell (i := 0) (by omega)).trans (by rw [hx0v])
        clear x0 x2 x3
        rw [hW9]
        clear hW9
        go_region_law (first | (refine step_delete rfl _ _ rfl rfl SM rfl (by rw [← HSM.out]; have := HMM.out; simp [ByteArray.size]; omega) HNM9.out ?_; intro W10 hnm10 ho10))
        all_goals
          go_wp2
          go_end0
          have hbl : ∀ b, b < W9.heap.size → b ≠ mb → W10.heap[b]? = W9.heap[b]? := fun b h1 h2 => ho10.block b h1 h2
          have e93 : ∀ b, b < w3.heap.size → b ∉ h :: ns.map (·.1) → W9.heap[b]? = w3.heap[b]? := fun b h1 h2 => HO9.out.block b h1 h2
          have hnin : ∀ {b}, b ∉ h :: (insAt ns p (X, m)).map (·.1) → b ∉ h :: ns.map (·.1) := fun hb e => hb ((ins_mem (X, m)).2 (Or.inr e))
          have eSM : SM.data.toList = m.1 := by rw [← HSM.out]
          have hcs : c < W9.heap.size := Nat.lt_of_lt_of_le HK3.out.blk.lt HO9.out.size
          have hgt : 0 < w3.heap.size := by have := HK3.out.bg; have := HK3.out.loc; have := HK3.out.blk.lt; omega
          have hgn : 0 ∉ h :: ns.map (·.1) := fun e => by have := HK3.out.lon _ ((ins_mem (X, m)).2 (Or.inr e)); have := HK3.out.bg; omega
          refine ⟨rfl, S9, ⟨HK3.out.blk.of_block ((hbl c hcs HK3.out.necm).trans (e93 c HK3.out.blk.lt (hnin HK3.out.nec))), del_chain HK3.out.ch HS.out.1 HS.out.2.1 HP.out (fun b hb => (HROW.out b hb).of_block (hbl b (HROW.out b hb).lt (fun e => hnin HK3.out.nem (by rw [← e]; exact hb)))) H91.out H92.out, ?_, HK3.out.loc, HK3.out.lom, fun b hb => HK3.out.lon b ((ins_mem (X, m)).2 (Or.inr hb)), HK3.out.tz.block ((hbl _ (Nat.lt_of_lt_of_le hgt HO9.out.size) (fun e => by have := HK3.out.bg; have := HK3.out.lom; omega)).trans (e93 _ hgt hgn)), HK3.out.bg, HK3.out.sd⟩, ?_⟩
          · rw [eSM, if_pos HG.out] at hnm10
            exact hnm10
          · have o1 : Only (CkF c h mb ns) w w3 := Only.of_below HB3.out
            have o2 : Only (CkF c h mb ns) w3 W9 := HO9.out.mono (fun b hb => Or.inr (Or.inr hb))
            have o3 : Only (CkF c h mb ns) W9 W9.drew := ⟨rfl, rfl, rfl, Nat.le_refl _, fun _ _ _ => rfl⟩
            have o4 : Only (CkF c h mb ns) W9.drew W10 := ho10.mono (fun b hb => Or.inr (Or.inl hb))
            exact ((o1.trans o2).trans o3).trans o4
      · rw [hlw.2 hkl] at hwx
        rw [hwx.1] at x3
        obtain ⟨S9, hS9⟩ : ∃ S9, S' = S9 := ⟨_, rfl⟩
        have H91 : Hid (∀ b j, j ≠ 2 → S9 b j = S' b j) := fun b j hj => by rw [← hS9]
        have H92 : Hid (∀ k x, ns[k]? = some x → S9 x.1 2 = if k = p then ptrV (backOf ns p) else S' x.1 2) := fun k x hx => by
          rw [← hS9, if_neg (by have := (List.getElem?_eq_some_iff.1 hx).1; omega)]
        have hrow : ∀ b ∈ h :: ns.map (·.1), wr.rowIs b 106 35 (S9 b) := by rw [← hS9]; exact HS.out.2.2.1
        clear hwx hlw hx2v hS9 hV2 hkl
        go_wp2_with fail
        obtain ⟨W9, hW9⟩ : ∃ W9, wr = W9 := ⟨_, rfl⟩
        have HROW : Hid (∀ b ∈ h :: ns.map (·.1), W9.rowIs b 106 35 (S9 b)) := by rw [← hW9]; exact hrow
        have HX9 : Hid (W9.rowIs X 106 35 (S X)) := by rw [← hW9]; exact HS.out.2.2.2.1
        have HO9 : Hid (Only (fun b => b ∈ h :: ns.map (·.1)) w3 W9) := by rw [← hW9]; exact HS.out.2.2.2.2
        have HNM9 : Hid (NMap W9.drew mb N g sz) := HK3.out.mp.block (HO9.out.block mb HK3.out.mp.lt (fun e => HK3.out.nem ((ins_mem (X, m)).2 (Or.inr e))))
        have q2 : W9.cell? ⟨c, 2, none⟩ = some (.map (some mb)) := (World.cell?_of_block (a := ⟨c, 2, none⟩) (HO9.out.block c HK3.out.blk.lt (fun e => HK3.out.nec ((ins_mem (X, m)).2 (Or.inr e))))).trans (HK3.out.blk.cell (i := 2) (by omega))
        have q0 : W9.cell? ⟨X, 0, none⟩ = some (.string SM) := (HX9.out.cell (i := 0) (by omega)).trans (by rw [hx0v])
        clear x0 x2 x3
        rw [hW9]
        clear hW9
        go_region_law (first | (refine step_delete rfl _ _ rfl rfl SM rfl (by rw [← HSM.out]; have := HMM.out; simp [ByteArray.size]; omega) HNM9.out ?_; intro W10 hnm10 ho10))
        all_goals
          go_wp2
          go_end0
          have hbl : ∀ b, b < W9.heap.size → b ≠ mb → W10.heap[b]? = W9.heap[b]? := fun b h1 h2 => ho10.block b h1 h2
          have e93 : ∀ b, b < w3.heap.size → b ∉ h :: ns.map (·.1) → W9.heap[b]? = w3.heap[b]? := fun b h1 h2 => HO9.out.block b h1 h2
          have hnin : ∀ {b}, b ∉ h :: (insAt ns p (X, m)).map (·.1) → b ∉ h :: ns.map (·.1) := fun hb e => hb ((ins_mem (X, m)).2 (Or.inr e))
          have eSM : SM.data.toList = m.1 := by rw [← HSM.out]
          have hcs : c < W9.heap.size := Nat.lt_of_lt_of_le HK3.out.blk.lt HO9.out.size
          have hgt : 0 < w3.heap.size := by have := HK3.out.bg; have := HK3.out.loc; have := HK3.out.blk.lt; omega
          have hgn : 0 ∉ h :: ns.map (·.1) := fun e => by have := HK3.out.lon _ ((ins_mem (X, m)).2 (Or.inr e)); have := HK3.out.bg; omega
          refine ⟨rfl, S9, ⟨HK3.out.blk.of_block ((hbl c hcs HK3.out.necm).trans (e93 c HK3.out.blk.lt (hnin HK3.out.nec))), del_chain HK3.out.ch HS.out.1 HS.out.2.1 HP.out (fun b hb => (HROW.out b hb).of_block (hbl b (HROW.out b hb).lt (fun e => hnin HK3.out.nem (by rw [← e]; exact hb)))) H91.out H92.out, ?_, HK3.out.loc, HK3.out.lom, fun b hb => HK3.out.lon b ((ins_mem (X, m)).2 (Or.inr hb)), HK3.out.tz.block ((hbl _ (Nat.lt_of_lt_of_le hgt HO9.out.size) (fun e => by have := HK3.out.bg; have := HK3.out.lom; omega)).trans (e93 _ hgt hgn)), HK3.out.bg, HK3.out.sd⟩, ?_⟩
          · rw [eSM, if_pos HG.out] at hnm10
            exact hnm10
          · have o1 : Only (CkF c h mb ns) w w3 := Only.of_below HB3.out
            have o2 : Only (CkF c h mb ns) w3 W9 := HO9.out.mono (fun b hb => Or.inr (Or.inr hb))
            have o3 : Only (CkF c h mb ns) W9 W9.drew := ⟨rfl, rfl, rfl, Nat.le_refl _, fun _ _ _ => rfl⟩
            have o4 : Only (CkF c h mb ns) W9.drew W10 := ho10.mono (fun b hb => Or.inr (Or.inl hb))
            exact ((o1.trans o2).trans o3).trans o4

end

end Go.Proofs.YtcbiiioglklpoaaDoor
