/-
  A row with two ends beside the document's list; append behind the document's list in its own row; the statement's ends. Conditions: both hold alike, in blocks of their own.
-/
import Derived.Test.YtkjcoengijedeabDrB
namespace Go.Proofs.Ytkjcoengijedeab
open Go.RowKit

theorem step_append_sl2 {P : Program} {ops : Array Oper} {o : Oper} {a : Act} {w : World} {K : Act → World → Prop} {Q : Exit → Act → World → Prop} {E : Prop} (hgd : o.guard = none) (s x : Operand) (t : TypeId)
    (ho : o.op = .call { callee := .builtin .append, args := #[s, x], argTypes := #[t, t] })
    (base : Nat) (e : TypeId) (i : TypeInfo) (z : Value) (bytes : Nat) (ht : P.underlying t = some (.slice e)) (hi : P.info? e = some i) (hz : i.zero = some z) (hsize : i.size = 1) (hby : i.bytes = bytes) (hzs : z.cells.size = 1)
    (v : Value) (n : Nat) (xs : List Value) (hs : a.eval s = v) (hown : w.ownsRow base e 1 v n xs) (A : Option Addr) (m c : Nat) (news : List Value) (hx : a.eval x = .slice A m c) (hr : SlAt w A m c news) (h1 : ∀ u ∈ news, u.oneCell' = true)
    (h63 : n + m ≤ 9223372036854775807) (hbytes : (n + m) * bytes ≤ 140737488355328) (hbase : base ≤ w.heap.size)
    (h : ∀ v' w', w'.ownsRow base e 1 v' (n + m) (xs ++ news) → w.grownBy w' v.ownBlock → (v'.ownBlock = v.ownBlock ∨ v'.ownBlock = some w.heap.size) → K (a.put o.dst v') w') :
    if Region.wanted o (yielded ops a.tmps) = true then Oper.wp P o a w K Q else E := by
  have hw : Region.wanted o (yielded ops a.tmps) = true := by simp [Region.wanted, hgd]
  rw [if_pos hw]
  obtain ⟨v', w', hrun, h2, h3, _, h5⟩ := run_append_sl (P := P) base t o.type e i z bytes ht hi hz hsize hby hzs v n xs hown A m c news hr h1 h63 hbytes hbase
  unfold Oper.wp
  simp [execOp, ho, resolve, invoke, builtin, hs, hx, hrun, Result.andThen]
  exact h v' w' h2 h3 h5

section
variable {w w' w1 w4 : World} {base D Q M : Nat} {F F' G G' : Nat → Prop} {L L' L1 L2 : List ByteArray}

theorem RwOn.pushed {A A' : Option Addr} {n c c' m : Nat} (hf : ∀ k, G k → base ≤ k ∧ k < w.heap.size) (hQ : G Q) (hx : Boxed w Q 29 (.slice A n c)) (hG : ∀ g, (Value.slice A n c).ownBlock = some g → G g) (hne : some Q ≠ (Value.slice A n c).ownBlock)
    (hb : Below w.heap.size w w1) (hgr : w1.grownBy w4 (Value.slice A n c).ownBlock) (hl : L'.length = m) (hown : w4.ownsRow base 9 1 (.slice A' m c') m (L'.map Value.string)) (hat : (Value.slice A' m c').ownBlock = (Value.slice A n c).ownBlock ∨ (Value.slice A' m c').ownBlock = some w1.heap.size) :
    Boxed w4 Q 29 (.slice A n c) ∧ ∃ G', RwOn (w4.setCell ⟨Q, 0, none⟩ (.slice A' m c')) base G' Q L' ∧ Chg G G' w (w4.setCell ⟨Q, 0, none⟩ (.slice A' m c')) := by
  subst hl
  have hQl := (hf Q hQ).2
  have hbs := hb.size
  have hx1 : Boxed w1 Q 29 (.slice A n c) := (hb.block Q hQl).trans hx
  have hx4 : Boxed w4 Q 29 (.slice A n c) := hx1.kept hgr hne
  have hne4 : some Q ≠ (Value.slice A' L'.length c').ownBlock := hx4.not_row (by decide) hown
  have hz : (w4.setCell ⟨Q, 0, none⟩ (.slice A' L'.length c')).heap.size = w4.heap.size := by simp
  have hbb := (hf Q hQ).1
  have hs4 := hgr.size
  refine ⟨hx4, fun k => k = Q ∨ (Value.slice A' L'.length c').ownBlock = some k, ⟨fun k hk => ?_, Or.inl rfl, A', c', hx4.set _, ownsRow_of_block1 hown (fun b hb' => Below.heap_setCell _ _ _ _ (show b ≠ Q from fun e => hne4 (by rw [← e]; exact hb'.symm))), fun g hg => Or.inr hg⟩, ?_, fun k hk => ?_⟩
  · rw [hz]
    rcases hk with rfl | hk
    · exact ⟨hbb, by omega⟩
    · have := hown.lt k hk
      exact ⟨by omega, by omega⟩
  · have hO : Only G w w4 := ⟨hgr.os.trans hb.os, hgr.tape.trans hb.tape, hgr.output.trans hb.output, Nat.le_trans hbs hs4, fun k hk hn => (hgr.block k (by omega) (fun e => hn (hG k e.symm))).trans (hb.block k hk)⟩
    exact hO.set (q := ⟨Q, 0, none⟩) hQ _
  · rcases hk with rfl | hk
    · exact Or.inl hQ
    · rcases hat with q | q
      · rw [q] at hk
        exact Or.inl (hG k hk)
      · rw [q] at hk
        injection hk with hk
        exact Or.inr (by omega)

/-- A row with two ends beside the document's list. -/
structure PrOn (w : World) (base : Nat) (F : Nat → Prop) (D : Nat) (G : Nat → Prop) (Q M : Nat) (L1 L2 : List ByteArray) : Prop where
  d : DqOn KDS w base F D M L1
  r : RwOn w base G Q L2
  no : ∀ k, F k → ¬ G k

theorem PrOn.dq (h : PrOn w base F D G Q M L1 L2) (h1 : DqOn KDS w' base F' D M L') (h2 : Chg F F' w w') : PrOn w' base F' D G Q M L' L2 :=
  ⟨h1, h.r.only h2.1 (fun k hg hf => h.no k hf hg), fun k hk hg => by
    rcases h2.2 k hk with q | q
    · exact h.no k q hg
    · have := (h.r.1 k hg).2; omega⟩
theorem PrOn.rw' (h : PrOn w base F D G Q M L1 L2) (h1 : RwOn w' base G' Q L') (h2 : Chg G G' w w') : PrOn w' base F D G' Q M L1 L' :=
  ⟨h.d.only h2.1 (fun k hf hg => h.no k hf hg), h1, fun k hk hg => by
    rcases h2.2 k hg with q | q
    · exact h.no k hk q
    · have := (h.d.1 k hk).2; omega⟩
theorem PrOn.below (h : PrOn w base F D G Q M L1 L2) (hb : Below w.heap.size w w') : PrOn w' base F D G Q M L1 L2 := ⟨h.d.below hb, h.r.below hb, h.no⟩
theorem PrOn.le (h : PrOn w base F D G Q M L1 L2) : base ≤ w.heap.size := by have := h.r.1 Q h.r.2.1; omega
theorem PrOn.dqB (h : PrOn w base F D G Q M L1 L2) (h2 : Chg F F' w w') : Below base w w' := h2.below h.le (fun k hk => (h.d.1 k hk).1)
theorem PrOn.rwB (h : PrOn w base F D G Q M L1 L2) (h2 : Chg G G' w w') : Below base w w' := h2.below h.le (fun k hk => (h.r.1 k hk).1)

def PrTo (w : World) (base D Q M n : Nat) (w' : World) : Prop := ∃ F G L, PrOn w' base F D G Q M L L ∧ L.length ≤ n ∧ Below base w w'

/-- A call of the script, in its box. -/
structure OpAt (w : World) (N : Nat) (kd i k : Int) (v : ByteArray) : Prop where
  blk : w.heap[N]? = some (.cells #[.int .i64 kd, .int .i64 i, .int .i64 k, .string v] 32 (0, 0))

theorem OpAt.keep {N : Nat} {kd i k : Int} {v : ByteArray} (h : OpAt w N kd i k v) (e : w'.heap[N]? = w.heap[N]?) : OpAt w' N kd i k v := ⟨e.trans h.blk⟩
theorem OpAt.cells {N : Nat} {kd i k : Int} {v : ByteArray} (h : OpAt w N kd i k v) : w.cell? ⟨N, 0, none⟩ = some (.int .i64 kd) ∧ w.cell? ⟨N, 1, none⟩ = some (.int .i64 i) ∧ w.cell? ⟨N, 2, none⟩ = some (.int .i64 k) ∧ w.cell? ⟨N, 3, none⟩ = some (.string v) := by
  have q := h.blk
  exact ⟨by simp [World.cell?, q], by simp [World.cell?, q], by simp [World.cell?, q], by simp [World.cell?, q]⟩

theorem delAt_snoc (L : List ByteArray) (v : ByteArray) : delAt (L ++ [v]) L.length = L := by
  unfold delAt
  simp

set_option maxRecDepth 100000 in
set_option maxHeartbeats 8000000 in
theorem ends_any (w : World) (h : PrOn w base F D G Q M L L) (hM : M ≤ 400000) (hmore : moreS L.length ≤ M) (hL : L.length ≤ 1000) (kd i k : Int) (v : ByteArray) :
    Calls Try.prog 37 #[.pointer (some ⟨D, 0, none⟩), .pointer (some ⟨Q, 0, none⟩), .agg #[.int .i64 kd, .int .i64 i, .int .i64 k, .string v]] w fun e w' => e = .returned (.bool true) ∧ PrTo w base D Q M (L.length + 1) w' := by
  obtain ⟨w0, hw0⟩ : ∃ w0, w.alloc (.cells #[.int .i64 kd, .int .i64 i, .int .i64 k, .string v] 32) = w0 := ⟨_, rfl⟩
  have hb0 : Below w.heap.size w w0 := by rw [← hw0]; exact (Below.refl _ _).alloc (Nat.le_refl _) _
  have ho : OpAt w0 w.heap.size kd i k v := ⟨by rw [← hw0]; exact heap_alloc_new w _⟩
  have hz0 : w0.heap.size = w.heap.size + 1 := by rw [← hw0]; simp
  have HP := Lib.hid (h.below hb0)
  have HBB := Lib.hid (hb0.mono h.le)
  have HTO : Hid (∀ X, PrTo w0 base D Q M (L.length + 1) X → PrTo w base D Q M (L.length + 1) X) := fun X ⟨F', G', L', q1, q2, q3⟩ => ⟨F', G', L', q1, q2, HBB.out.trans q3⟩
  have HSELF : Hid (PrTo w0 base D Q M (L.length + 1) w0) := ⟨F, G, L, HP.out, by omega, Below.refl _ _⟩
  have HFN : Hid (∀ k, F k → k ≠ w.heap.size) := fun k hk e => by have := (h.d.1 k hk).2; omega
  have HGN : Hid (∀ k, G k → k ≠ w.heap.size) := fun k hk e => by have := (h.r.1 k hk).2; omega
  have HOP := Lib.hid ho
  obtain ⟨hf, hQ, A, c, hx, hown, hG⟩ := HP.out.r
  have c1 := hx.cell
  obtain ⟨o0, o1, o2, o3⟩ := ho.cells
  have hnl : w.heap.size < w0.heap.size := by omega
  have HW0 := Lib.hid hw0
  clear hw0 hb0 ho h hz0
  obtain ⟨N, hN⟩ : ∃ N, w.heap.size = N := ⟨_, rfl⟩
  rw [hN] at HFN HGN HOP o0 o1 o2 o3 hnl
  have HN := Lib.hid hN
  clear hN
  by_cases k1 : kd = 1
  · subst k1
    obtain ⟨ip, hip, hyp⟩ := Option.map_eq_some_iff.1 info_eltS
    simp only [Prod.mk.injEq] at hyp
    have HIP := Lib.hid hyp
    have HIQ := Lib.hid hip
    obtain ⟨n, hn⟩ : ∃ n, L.length = n := ⟨_, rfl⟩
    have hne : some Q ≠ (Value.slice A L.length c).ownBlock := hx.not_row (by decide) hown
    have hQl := (hf Q hQ).2
    have hQN : Q ≠ N := HGN.out Q hQ
    have hbx : Below w0.heap.size w0 (w0.drew.alloc (.cells #[.string v] 9)) := ((Below.refl _ _).drew).alloc (Nat.le_refl _) _
    have HOX := Lib.hid (ownsRow_of_block1 hown (fun b hb => hbx.block b (hown.lt b hb).2))
    have HSV := Lib.hid (SlAt.one w0.drew 9 (.string v))
    have q1 := (hbx.cell (p := ⟨Q, 0, none⟩) hQl).trans c1
    have q3 := (hbx.cell (p := ⟨N, 3, none⟩) hnl).trans o3
    have d1 : w0.drew.cell? ⟨Q, 0, none⟩ = some (.slice A L.length c) := c1
    have d3 : w0.drew.cell? ⟨N, 3, none⟩ = some (.string v) := o3
    have hxz : base ≤ (w0.drew.alloc (.cells #[.string v] 9)).heap.size := Nat.le_trans HP.out.le hbx.size
    have HPU : Hid (∀ (w4 : World) (A' : Option Addr) (c' m : Nat) (xs : List Value), (w0.drew.alloc (.cells #[.string v] 9)).grownBy w4 (Value.slice A L.length c).ownBlock → w4.ownsRow base 9 1 (.slice A' m c') m xs → ((Value.slice A' m c').ownBlock = (Value.slice A L.length c).ownBlock ∨ (Value.slice A' m c').ownBlock = some (w0.drew.alloc (.cells #[.string v] 9)).heap.size) → m = L.length + 1 → xs = (insAt L L.length v).map Value.string →
        Boxed w4 Q 29 (.slice A L.length c) ∧ w4.heap[N]? = w0.heap[N]? ∧ ∃ G', RwOn (w4.setCell ⟨Q, 0, none⟩ (.slice A' m c')) base G' Q (insAt L L.length v) ∧ Chg G G' w0 (w4.setCell ⟨Q, 0, none⟩ (.slice A' m c'))) := fun w4 A' c' m xs hgr h2 hat e1 e2 => by
      subst e2
      obtain ⟨r1, r2⟩ := RwOn.pushed hf hQ hx hG hne hbx hgr (by rw [insAt_length (Nat.le_refl _), e1]) h2 hat
      refine ⟨r1, ?_, r2⟩
      exact (hgr.block N (by have := hbx.size; omega) (fun e => HGN.out N (hG N e.symm) rfl)).trans (hbx.block N hnl)
    have HXS : Hid (L.map Value.string ++ [Value.string v] = (insAt L L.length v).map Value.string) := by
      unfold Hid
      rw [insAt_end, List.map_append]
      rfl
    rw [hn] at HOX q1 d1 c1 HPU HXS
    have HNL := Lib.hid hn
    have hn2 : n ≤ 1000 := by omega
    clear hf hQ hx hown hG hyp hip hne hbx hn
    go_enter Try.func37, Try.ntmps37
    go_wp2_with (first | rw [HW0.out] | rw [HN.out])
    go_region_law ((refine step_append_sl2 rfl _ _ 22 rfl base 9 ip _ 16 Try.underlying22 HIQ.out HIP.out.1 HIP.out.2.1 HIP.out.2.2 rfl (.slice A n c) n _ rfl HOX.out (some ⟨w0.drew.heap.size, 0, none⟩) 1 1 [.string v] rfl HSV.out (by intro u hu; rw [List.mem_singleton] at hu; subst hu; rfl) (by omega) (by omega) hxz ?_); intro v4 w4 hown hgr hat; obtain ⟨A4, k4, rfl⟩ := own_form1 hown; obtain ⟨hx4, hn4, G4, hr4, hc4⟩ := HPU.out w4 A4 k4 _ _ hgr hown hat rfl HXS.out; have c4 := Boxed.cell hx4; have f4 := Boxed.frozen hx4; have HP4 := Lib.hid (HP.out.rw' hr4 hc4); have HB4 := Lib.hid (HP.out.rwB hc4); have HO4 := Lib.hid (HOP.out.keep ((Below.heap_setCell w4 ⟨Q, 0, none⟩ (.slice A4 (n + 1) k4) N (show N ≠ Q from fun e => hQN e.symm)).trans hn4)); clear hown hgr hat hx4 hn4 hr4 hc4)
    all_goals
      obtain ⟨wz, hwz⟩ : ∃ wz, w4.setCell ⟨Q, 0, none⟩ (.slice A4 (n + 1) k4) = wz := ⟨_, rfl⟩
      rw [hwz] at HP4 HB4 HO4 ⊢
      obtain ⟨p0, p1, p2, p3⟩ := HO4.out.cells
      clear hwz c4 f4
      go_wp2_with fail
      refine (pushS_any wz HP4.out.d v hM hmore).mono ?_
      rintro e w5 ⟨rfl, F5, hd5, hc5⟩
      have HE : Hid (PrTo w base D Q M (L.length + 1) w5) := HTO.out _ ⟨F5, G4, insAt L n v, HP4.out.dq (by rw [HNL.out] at hd5; exact hd5) hc5, by rw [insAt_length (by rw [HNL.out]; exact Nat.le_refl _)]; exact Nat.le_refl _, HB4.out.trans (HP4.out.dqB hc5)⟩
      clear hd5 hc5
      go_wp2
      go_ret
      exact ⟨rfl, HE.out⟩
  · by_cases k2 : kd = 2
    · subst k2
      have HI : Hid (Calls Try.prog 34 #[.pointer (some ⟨Q, 0, none⟩), .int .i64 0, .string v] w0 fun e w' => e = .returned (.int .i64 0) ∧ ∃ G', RwOn w' base G' Q (insAt L 0 v) ∧ Chg G G' w0 w') := rins_yes (i := 0) w0 HP.out.r v (by omega) (Nat.zero_le _)
      clear hf hQ hx hown hG
      go_enter Try.func37, Try.ntmps37
      go_wp2_with (first | rw [HW0.out] | rw [HN.out])
      refine HI.out.mono ?_
      rintro e w1 ⟨rfl, G1, hr1, hc1⟩
      have HP1 := Lib.hid (HP.out.rw' hr1 hc1)
      have HB1 := Lib.hid (HP.out.rwB hc1)
      obtain ⟨p0, p1, p2, p3⟩ := (HOP.out.keep (hc1.1.block N hnl (fun q => HGN.out N q rfl))).cells
      clear hr1 hc1
      go_wp2_with fail
      refine (unshiftS_any w1 HP1.out.d v hM hmore).mono ?_
      rintro e w2 ⟨rfl, F2, hd2, hc2⟩
      have HE : Hid (PrTo w base D Q M (L.length + 1) w2) := HTO.out _ ⟨F2, G1, _, HP1.out.dq hd2 hc2, by rw [insAt_length (Nat.zero_le _)]; omega, HB1.out.trans (HP1.out.dqB hc2)⟩
      clear hd2 hc2
      go_wp2
      go_ret
      exact ⟨rfl, HE.out⟩
    · by_cases k3 : kd = 3
      · subst k3
        clear hf hQ hx hown hG
        rcases List.eq_nil_or_concat L with rfl | ⟨L0, x, hLx⟩
        · have HR : Hid (Calls Try.prog 35 #[.pointer (some ⟨Q, 0, none⟩), .int .i64 (-1)] w0 fun e w' => e = .returned (.tuple #[.string ByteArray.empty, .int .i64 5]) ∧ w' = w0) := rdel_no w0 HP.out.r (-1) (by omega)
          have hw : IntKind.i64.wrap (((0 : Nat) : Int) - 1) = -1 := by decide
          have hw' : IntKind.i64.wrap (0 - 1) = -1 := by decide
          go_enter Try.func37, Try.ntmps37
          go_wp2_with (first | rw [HW0.out] | rw [HN.out])
          refine (popS_none w0 HP.out.d).mono ?_
          rintro e w1 ⟨rfl, hw1⟩
          rw [hw1]
          go_wp2_with fail
          refine HR.out.mono ?_
          rintro e w2 ⟨rfl, hw2⟩
          rw [hw2]
          go_wp2
          go_ret
          exact ⟨rfl, HTO.out _ HSELF.out⟩
        · rw [List.concat_eq_append] at hLx
          subst hLx
          have HR : Hid (∀ X G1, RwOn X base G1 Q (L0 ++ [x]) → Calls Try.prog 35 #[.pointer (some ⟨Q, 0, none⟩), .int .i64 (L0.length : Int)] X fun e w' => e = .returned (.tuple #[.string x, .int .i64 0]) ∧ ∃ G', RwOn w' base G' Q L0 ∧ Chg G1 G' X w') := fun X G1 hr => by
            have q := rdel_yes (i := L0.length) (v := x) X hr (by omega) (by rw [List.getElem?_append_right (Nat.le_refl _), Nat.sub_self]; rfl)
            rw [delAt_snoc] at q
            exact q
          have hl1 : (L0 ++ [x]).length = L0.length + 1 := by simp
          have HPO := Lib.hid (popS_any (L := L0) (v := x) w0 HP.out.d hM (by omega))
          obtain ⟨n, hn⟩ : ∃ n, (L0 ++ [x]).length = n := ⟨_, rfl⟩
          obtain ⟨m, hm⟩ : ∃ m, L0.length = m := ⟨_, rfl⟩
          have hw : IntKind.i64.wrap ((n : Int) - 1) = (m : Int) := by rw [IntWalk.i64_in _ (by omega)]; omega
          have hn0 : (0 : Int) < (n : Int) := by omega
          have hn0n : 0 < n := by omega
          have HL0 : Hid (L0.length ≤ (L0 ++ [x]).length + 1) := by unfold Hid; omega
          rw [hn] at c1
          rw [hm] at HR
          clear hn hm hl1
          go_enter Try.func37, Try.ntmps37
          go_wp2_with (first | rw [HW0.out] | rw [HN.out])
          refine HPO.out.mono ?_
          rintro e w1 ⟨rfl, F1, hd1, hc1⟩
          have HP1 := Lib.hid (HP.out.dq hd1 hc1)
          have HB1 := Lib.hid (HP.out.dqB hc1)
          clear hd1 hc1
          go_wp2_with fail
          refine (HR.out w1 _ HP1.out.r).mono ?_
          rintro e w2 ⟨rfl, G2, hr2, hc2⟩
          have HE : Hid (PrTo w base D Q M ((L0 ++ [x]).length + 1) w2) := HTO.out _ ⟨F1, G2, L0, HP1.out.rw' hr2 hc2, HL0.out, HB1.out.trans (HP1.out.rwB hc2)⟩
          clear hr2 hc2
          go_wp2
          go_ret
          exact ⟨rfl, HE.out⟩
      · by_cases k4 : kd = 4
        · subst k4
          clear hf hQ hx hown hG
          rcases L with _ | ⟨x, L0⟩
          · have HR : Hid (Calls Try.prog 35 #[.pointer (some ⟨Q, 0, none⟩), .int .i64 0] w0 fun e w' => e = .returned (.tuple #[.string ByteArray.empty, .int .i64 5]) ∧ w' = w0) := rdel_no w0 HP.out.r 0 (by simp)
            go_enter Try.func37, Try.ntmps37
            go_wp2_with (first | rw [HW0.out] | rw [HN.out])
            refine (shiftS_none w0 HP.out.d).mono ?_
            rintro e w1 ⟨rfl, hw1⟩
            rw [hw1]
            go_wp2_with fail
            refine HR.out.mono ?_
            rintro e w2 ⟨rfl, hw2⟩
            rw [hw2]
            go_wp2
            go_ret
            exact ⟨rfl, HTO.out _ HSELF.out⟩
          · have HR : Hid (∀ X G1, RwOn X base G1 Q (x :: L0) → Calls Try.prog 35 #[.pointer (some ⟨Q, 0, none⟩), .int .i64 0] X fun e w' => e = .returned (.tuple #[.string x, .int .i64 0]) ∧ ∃ G', RwOn w' base G' Q L0 ∧ Chg G1 G' X w') := fun X G1 hr => rdel_yes (i := 0) (v := x) X hr (by omega) rfl
            have hl1 : (x :: L0).length = L0.length + 1 := by simp
            have HPO := Lib.hid (shiftS_any (L := L0) (v := x) w0 HP.out.d hM)
            obtain ⟨n, hn⟩ : ∃ n, (x :: L0).length = n := ⟨_, rfl⟩
            have hn0 : (0 : Int) < (n : Int) := by omega
            have hn0n : 0 < n := by omega
            have HL0 : Hid (L0.length ≤ (x :: L0).length + 1) := by unfold Hid; omega
            rw [hn] at c1
            clear hn hl1
            go_enter Try.func37, Try.ntmps37
            go_wp2_with (first | rw [HW0.out] | rw [HN.out])
            refine HPO.out.mono ?_
            rintro e w1 ⟨rfl, F1, hd1, hc1⟩
            have HP1 := Lib.hid (HP.out.dq hd1 hc1)
            have HB1 := Lib.hid (HP.out.dqB hc1)
            clear hd1 hc1
            go_wp2_with fail
            refine (HR.out w1 _ HP1.out.r).mono ?_
            rintro e w2 ⟨rfl, G2, hr2, hc2⟩
            have HE : Hid (PrTo w base D Q M ((x :: L0).length + 1) w2) := HTO.out _ ⟨F1, G2, L0, HP1.out.rw' hr2 hc2, HL0.out, HB1.out.trans (HP1.out.rwB hc2)⟩
            clear hr2 hc2
            go_wp2
            go_ret
            exact ⟨rfl, HE.out⟩
        · clear hf hQ hx hown hG
          go_enter Try.func37, Try.ntmps37
          go_wp2_with (first | rw [HW0.out] | rw [HN.out])
          go_ret
          exact ⟨rfl, HTO.out _ HSELF.out⟩
end

end Go.Proofs.Ytkjcoengijedeab
