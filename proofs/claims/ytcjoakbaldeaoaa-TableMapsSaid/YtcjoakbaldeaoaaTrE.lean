/-
  The document's without, Get and Pick, over a table whose blocks are its own. Conditions: as typed.
-/
import Derived.Test.YtcjoakbaldeaoaaTrC
import Derived.Test.YtcjoakbaldeaoaaTbW
namespace Go.Proofs.Ytcjoakbaldeaoaa
open Go.RowKit

theorem own_weaken {w : World} {base base' : Nat} {e : TypeId} {size n : Nat} {v : Value} {xs : List Value} (h : w.ownsRow base e size v n xs) (hb : base' ≤ base) : w.ownsRow base' e size v n xs := by
  refine ⟨h.1, ?_⟩
  rcases h.2 with q | ⟨g, cap, cur, h1, h2, h3⟩
  · exact Or.inl q
  · exact Or.inr ⟨g, cap, cur, h1, Nat.le_trans hb h2, h3⟩

/-- What a draw picks. -/
def pickT (t : Tb Int) (draw : Nat) : Option (List UInt8 × Int) := if t.n = 0 then none else (allT t)[draw % t.n]?

/-- append behind an own row, as one step of a region that draws. -/
theorem step_append_own {P : Program} {ops : Array Oper} {o : Oper} {a : Act} {w : World} {K : Act → World → Prop} {Q : Exit → Act → World → Prop} {E : Prop}
    (hg : o.guard = none) (s x : Operand) (t : TypeId) (hop : o.op = Op.call { callee := Callee.builtin Builtin.append, args := #[s, x], argTypes := #[t, t] })
    (base : Nat) (e : TypeId) (i : TypeInfo) (z : Value) (size bytes : Nat) (ht : P.underlying t = some (.slice e)) (hi : P.info? e = some i) (hz : i.zero = some z)
    (hsize : i.size = size) (hby : i.bytes = bytes) (hzs : z.cells.size = size) (hsz : 0 < size)
    (v : Value) (n : Nat) (xs : List Value) (hs : a.eval s = v) (hown : w.ownsRow base e size v n xs)
    (ad : Addr) (m c : Nat) (news : List Value) (hx : a.eval x = .slice (some ad) m c) (hl : news.length = m * size) (hnews : ∀ j u, news[j]? = some u → w.cell? (ad.add j) = some u) (h1 : ∀ u ∈ news, u.oneCell' = true)
    (h63 : n + m ≤ maxLen) (hbytes : (n + m) * bytes ≤ 140737488355328) (hbase : base ≤ w.heap.size)
    (h : ∀ v' w', w'.ownsRow base e size v' (n + m) (xs ++ news) → w.grownBy w' v.ownBlock → (v'.ownBlock = v.ownBlock ∨ v'.ownBlock = some w.heap.size) → K (a.put o.dst v') w') :
    if Region.wanted o (yielded ops a.tmps) = true then Oper.wp P o a w K Q else E := by
  have hw : Region.wanted o (yielded ops a.tmps) = true := by simp [Region.wanted, hg]
  rw [if_pos hw]
  obtain ⟨v', w', hrun, h2, h3, _, h5⟩ := run_append_own_at (P := P) w base t o.type e i z size bytes ht hi hz hsize hby hzs hsz v n xs hown ad m c news hl hnews h1 h63 hbytes hbase
  unfold Oper.wp
  simp [execOp, hop, resolve, invoke, builtin, hs, hx, hrun, Result.andThen]
  exact h v' w' h2 h3 h5

set_option maxRecDepth 100000 in
set_option maxHeartbeats 8000000 in
theorem rwithout_any {base b n cc j : Nat} {l : List (List UInt8 × Int)} (w : World) (hown : w.ownsRow base KR.te 2 (.slice (some ⟨b, 0, none⟩) n cc) n (encIt KR.enc l)) (hn : l.length = n) (hnm : n ≤ 400000) (hj : j < n) :
    Calls Try.prog 81 #[.slice (some ⟨b, 0, none⟩) n cc, .int .i64 j] w fun e w' => ∃ v, e = .returned v ∧ w'.ownsRow w.heap.size KR.te 2 v (n - 1) (encIt KR.enc (l.take j ++ l.drop (j + 1))) ∧ Below w.heap.size w w' := by
  obtain ⟨hnc, hcm⟩ : n ≤ cc ∧ cc ≤ 9223372036854775807 := by
    rcases hown.2 with ⟨h1, _⟩ | ⟨g', cap', cur, hv, _, _, h1, h2, _⟩
    · cases h1
    · injection hv with _ _ e3
      subst e3
      exact ⟨h1, by simp [maxLen] at h2; omega⟩
  obtain ⟨ip, hip, hyp⟩ := Option.map_eq_some_iff.1 info_item
  simp only [Prod.mk.injEq] at hyp
  have HIP := Lib.hid hyp
  have HOWN := Lib.hid hown
  have hblt : b < w.heap.size := (hown.lt b rfl).2
  obtain ⟨A, hA, hsrc⟩ : ∃ A : Addr, (if cc = j + 1 then some (⟨b, 0, none⟩ : Addr) else some ⟨b, (j + 1) * 2, none⟩) = some A ∧ Hid (∀ (W : World), W.heap[b]? = w.heap[b]? → ∀ t u, (encIt KR.enc (l.drop (j + 1)))[t]? = some u → W.cell? (A.add t) = some u) := by
    by_cases h : cc = j + 1
    · refine ⟨⟨b, 0, none⟩, by simp [h], fun W _ t u hu => ?_⟩
      rw [List.drop_eq_nil_of_le (by omega)] at hu
      simp [encIt_nil] at hu
    · refine ⟨⟨b, (j + 1) * 2, none⟩, by simp [h], fun W hW t u hu => ?_⟩
      have ht := (List.getElem?_eq_some_iff.1 hu).1
      rw [encIt_length, List.length_drop] at ht
      rw [← encIt_drop, List.getElem?_drop] at hu
      rw [Addr.add_lit]
      exact (World.cell?_of_block (a := ⟨b, (j + 1) * 2 + t, none⟩) hW).trans ((World.ownsRow.cellAt HOWN.out _ (by omega)).trans hu)
  have hsrc1 : Hid (∀ (W : World), W.heap[b]? = w.heap[b]? → ∀ t u, (encIt KR.enc (l.take j))[t]? = some u → W.cell? ((⟨b, 0, none⟩ : Addr).add t) = some u) := fun W hW t u hu => by
    have ht := (List.getElem?_eq_some_iff.1 hu).1
    rw [encIt_length, List.length_take] at ht
    rw [← encIt_take, List.getElem?_take] at hu
    rw [if_pos (by omega)] at hu
    rw [Addr.add_lit, Nat.zero_add]
    exact (World.cell?_of_block (a := ⟨b, t, none⟩) hW).trans ((World.ownsRow.cellAt HOWN.out _ (by omega)).trans hu)
  have hl1 : Hid ((encIt KR.enc (l.take j)).length = j * 2) := by unfold Hid; rw [encIt_length, List.length_take, Nat.min_eq_left (by omega)]
  have hl2 : Hid ((encIt KR.enc (l.drop (j + 1))).length = (n - (j + 1)) * 2) := by unfold Hid; rw [encIt_length, List.length_drop, hn]
  have HAPP : Hid (encIt KR.enc (l.take j ++ l.drop (j + 1)) = encIt KR.enc (l.take j) ++ encIt KR.enc (l.drop (j + 1))) := encIt_app _ _ _
  have h11 : Hid (∀ u ∈ encIt KR.enc (l.take j), u.oneCell' = true) := encIt_mem KR.enc (fun _ => rfl) _
  have h12 : Hid (∀ u ∈ encIt KR.enc (l.drop (j + 1)), u.oneCell' = true) := encIt_mem KR.enc (fun _ => rfl) _
  rw [HAPP.out]
  obtain ⟨L1, hL1⟩ : ∃ L, encIt KR.enc (l.take j) = L := ⟨_, rfl⟩
  obtain ⟨L2, hL2⟩ : ∃ L, encIt KR.enc (l.drop (j + 1)) = L := ⟨_, rfl⟩
  rw [hL1] at hsrc1 hl1 h11 ⊢
  rw [hL2] at hsrc hl2 h12 ⊢
  obtain ⟨j1, hj1⟩ : ∃ q, j + 1 = q := ⟨_, rfl⟩
  have hwj : IntKind.i64.wrap ((j : Int) + 1) = (j1 : Int) := by rw [IntWalk.i64_in _ (by omega)]; omega
  rw [hj1] at hA hl2
  have hj1n : j1 ≤ n := by omega
  have hj1c : j1 ≤ cc := by omega
  have hjn : j ≤ n := by omega
  have hjc : j ≤ cc := by omega
  have hsum : j + (n - j1) = n - 1 := by omega
  have HSUM := Lib.hid hsum
  have hE0 : Hid (∀ W : World, W.heap.size = w.heap.size → (W.alloc (.cells #[] 53)).ownsRow w.heap.size 53 2 (.slice (some ⟨w.heap.size, 0, none⟩) 0 0) 0 []) := fun W hW =>
    ⟨rfl, .inr ⟨w.heap.size, 0, #[], rfl, Nat.le_refl _, (by rw [← hW]; exact heap_alloc_new W _), Nat.le_refl _, Nat.zero_le _, rfl, rfl⟩⟩
  clear hown hn hyp hL1 hL2 hj1 HAPP hsum
  go_enter Try.func81, Try.ntmps81
  go_wp2_with fail
  go_region_law (first
    | (have hq := H1; refine step_append_own rfl (.tmp 9) (.tmp 13) 42 rfl w.heap.size 53 ip _ 2 24 Try.underlying42 hip HIP.out.1 HIP.out.2.1 HIP.out.2.2 rfl (by omega) v1 j L1 (by simp [Act.eval]) H1.out A (n - j1) (cc - j1) L2 (by simp [Act.eval]) hl2.out (hsrc.out _ HB1.out.2) h12.out (by unfold maxLen; omega) (by omega) HB1.out.1 ?_; intro v2 w6 hown6 hgr6 hor6)
    | (refine step_append_own rfl (.tmp 5) (.tmp 8) 42 rfl w.heap.size 53 ip _ 2 24 Try.underlying42 hip HIP.out.1 HIP.out.2.1 HIP.out.2.2 rfl (by omega) (.slice (some ⟨w.heap.size, 0, none⟩) 0 0) 0 [] (by simp [Act.eval]) (hE0.out _ rfl) ⟨b, 0, none⟩ j cc L1 (by simp [Act.eval]) hl1.out (hsrc1.out _ (Below.heap_alloc _ _ _ hblt)) h11.out (by unfold maxLen; omega) (by omega) (by simp) ?_; intro v1 w5 hown5 hgr5 hor5; rw [Nat.zero_add, List.nil_append] at hown5; have H1 := Lib.hid hown5; have HB1 : Hid (w.heap.size ≤ w5.heap.size ∧ w5.heap[b]? = w.heap[b]?) := ⟨Nat.le_trans (by simp) hgr5.size, (hgr5.block b (by simp; omega) (fun e => by injection e with e; have e : b = w.heap.size := e; omega)).trans (Below.heap_alloc _ _ _ hblt)⟩; have HG5 := Lib.hid hgr5; clear hgr5 hor5 hown5))
  all_goals
    have hbf : Below w.heap.size w w6 := (((Below.refl w.heap.size w).alloc (Nat.le_refl _) (.cells #[] 53)).drew.grown HG5.out (by show w.heap.size ≤ (w.alloc (.cells #[] 53)).heap.size; simp) (fun k e => by have e : some w.heap.size = some k := e; injection e with e; omega)).grown hgr6 HB1.out.1 (fun k e => (H1.out.lt k e).1)
    rw [HSUM.out] at hown6
    have HOF := Lib.hid hown6
    have HBF := Lib.hid hbf
    clear hown6 hbf hgr6 hor6
    go_wp2
    go_ret
    exact ⟨v2, rfl, HOF.out, HBF.out⟩

theorem rget_any {base Q seed m : Nat} {ow : Own} {t : Tb Int} {gA gB : Nat} {sA sB : Nat → Value} (hs : seed < 18446744073709551616) (k : List UInt8) (K : ByteArray) (hK : K.data.toList = k) (hK63 : K.size ≤ 1000) (w : World) (h : RT w base ow Q seed t gA sA gB sB) (hg : Good (hashT seed) m t) (hm : m ≤ 50000) (hks : KeysT (fun k => k.length ≤ 1000) t) :
    Calls Try.prog 46 #[.pointer (some ⟨Q, 0, none⟩), .string K] w fun e w' => e = .returned (.tuple #[(lookW KI (0 : Int) (lookT (hashT seed) (stepT (hashT seed) t) k)).1, .bool (lookW KI (0 : Int) (lookT (hashT seed) (stepT (hashT seed) t) k)).2]) ∧ ∃ ow' gA' sA' gB' sB', RT w' base ow' Q seed (stepT (hashT seed) t) gA' sA' gB' sB' ∧ Turns ow ow' w w' := by
  have HST := Lib.hid (rstep_any hs w h hg hm hks)
  have HG2 := Lib.hid (good_step hg)
  obtain ⟨t2, ht2⟩ : ∃ t2, stepT (hashT seed) t = t2 := ⟨_, rfl⟩
  rw [ht2] at HST HG2 ⊢
  have HKK := Lib.hid hK
  obtain ⟨V, hV⟩ : ∃ V, (lookW KI (0 : Int) (lookT (hashT seed) t2 k)).1 = V := ⟨_, rfl⟩
  obtain ⟨B, hB⟩ : ∃ B, (lookW KI (0 : Int) (lookT (hashT seed) t2 k)).2 = B := ⟨_, rfl⟩
  rw [hV, hB]
  have HV := Lib.hid hV
  have HBB := Lib.hid hB
  clear h hg hks ht2 hK hV hB
  go_enter Try.func46, Try.ntmps46
  go_wp2_with fail
  refine HST.out.mono ?_
  rintro e w2 ⟨rfl, o2, gA2, sA2, gB2, sB2, hp2, hu2⟩
  have HP2 := Lib.hid hp2
  have HU2 := Lib.hid hu2
  have HLK := Lib.hid (rlookT_any hs k K HKK.out hK63 w2 hp2 HG2.out hm)
  rw [HV.out, HBB.out] at HLK
  clear hp2 hu2
  go_wp2_with fail
  refine HLK.out.mono ?_
  rintro e w3 ⟨rfl, hb3⟩
  have HB3 := Lib.hid hb3
  clear hb3
  go_wp2
  go_ret2
  exact ⟨rfl, o2, gA2, sA2, gB2, sB2, HP2.out.below' HB3.out, HU2.out.trans (Turns.of_below o2 HB3.out)⟩

theorem pick_box {w : World} {b : Nat} {o0 o1 : Value} (u v : Value) (h0 : w.cell? ⟨b, 0, none⟩ = some o0) (h1 : w.cell? ⟨b, 1, none⟩ = some o1) :
    ((w.setCell ⟨b, 0, none⟩ u).setCell ⟨b, 1, none⟩ v).cell? ⟨b, 0, none⟩ = some u ∧ ((w.setCell ⟨b, 0, none⟩ u).setCell ⟨b, 1, none⟩ v).cell? ⟨b, 1, none⟩ = some v ∧ Below b w ((w.setCell ⟨b, 0, none⟩ u).setCell ⟨b, 1, none⟩ v) := by
  have e1 : (w.setCell ⟨b, 0, none⟩ u).cell? ⟨b, 0, none⟩ = some u := World.cell?_setCell_same' _ _ _ (by rw [h0]; rfl)
  have e2 : (w.setCell ⟨b, 0, none⟩ u).cell? ⟨b, 1, none⟩ = some o1 := by rw [World.cell?_setCell_other _ _ _ _ (by intro e; injection e with _ e; cases e)]; exact h1
  refine ⟨?_, World.cell?_setCell_same' _ _ _ (by rw [e2]; rfl), ((Below.refl b w).setCell (p := ⟨b, 0, none⟩) (Nat.le_refl _) u).setCell (p := ⟨b, 1, none⟩) (Nat.le_refl _) v⟩
  rw [World.cell?_setCell_other _ _ _ _ (by intro e; injection e with _ e; cases e)]
  exact e1

theorem item_of_own {w : World} {base n c ix : Nat} {A : Option Addr} {l : List (List UInt8 × Int)} {y : List UInt8 × Int} {S : ByteArray} (h : w.ownsRow base 53 2 (.slice A n c) n (encIt KR.enc l)) (hy : l[ix]? = some y) (hS : (⟨y.1.toArray⟩ : ByteArray) = S) :
    ∃ g, A = some ⟨g, 0, none⟩ ∧ ix < n ∧ w.cell? ⟨g, ix * 2, none⟩ = some (.string S) ∧ w.cell? ⟨g, ix * 2 + 1, none⟩ = some (.int .i64 y.2) ∧ n ≤ 9223372036854775807 := by
  have hlen := h.1
  rw [encIt_length] at hlen
  have hlt := (List.getElem?_eq_some_iff.1 hy).1
  rcases h.2 with ⟨h1, h2⟩ | ⟨g, cap, cur, hv, _, hgg, hnc, hcm, _⟩
  · omega
  · have h' := h
    injection hv with e1 e2 e3
    subst e1 e3
    refine ⟨g, rfl, by omega, ?_, ?_, by simp [maxLen] at hcm; omega⟩
    · rw [World.ownsRow.cellAt h' (ix * 2) (by omega), ← hS]
      exact (encIt_get _ l ix y hy).1
    · rw [World.ownsRow.cellAt h' (ix * 2 + 1) (by omega)]
      exact (encIt_get _ l ix y hy).2

set_option maxRecDepth 100000 in
set_option maxHeartbeats 8000000 in
theorem rpick_any {base Q seed m : Nat} {ow : Own} {t : Tb Int} {gA gB : Nat} {sA sB : Nat → Value} (draw : Nat) (hd : draw < 18446744073709551616) (w : World) (h : RT w base ow Q seed t gA sA gB sB) (hg : Good (hashT seed) m t) (hm : m ≤ 50000) :
    Calls Try.prog 50 #[.pointer (some ⟨Q, 0, none⟩), .int .u64 draw] w fun e w' => e = .returned (match pickT t draw with | some y => .tuple #[.agg #[.string ⟨y.1.toArray⟩, .int .i64 y.2], .bool true] | none => .tuple #[.agg #[.string ⟨#[]⟩, .int .i64 0], .bool false]) ∧ Below w.heap.size w w' := by
  have hn := hg.n
  have c4 : w.cell? ⟨Q, 4, none⟩ = some (.int .i64 t.n) := h.hd.cell (by omega)
  have hQ : Q < w.heap.size := World.block_lt_of_cell? w _ c4
  have HALL := Lib.hid (fun (W : World) (hW : Below w.heap.size w W) => rallT_any W (h.below' hW) hg hm)
  have HLN := Lib.hid (all_length hg.cnt)
  obtain ⟨tn, htn⟩ : ∃ n, t.n = n := ⟨_, rfl⟩
  have HTN := Lib.hid htn
  rw [htn] at c4 HLN hn
  obtain ⟨R, hR⟩ : ∃ R : Value, (match pickT t draw with | some y => .tuple #[.agg #[.string ⟨y.1.toArray⟩, .int .i64 y.2], .bool true] | none => .tuple #[.agg #[.string ⟨#[]⟩, .int .i64 0], .bool false]) = R := ⟨_, rfl⟩
  rw [hR]
  have HR := Lib.hid hR
  obtain ⟨wA, hwA⟩ : ∃ wA, w.alloc (.cells #[.string ⟨#[]⟩, .int .i64 0] 53) = wA := ⟨_, rfl⟩
  have hbA : Below w.heap.size w wA := by rw [← hwA]; exact (Below.refl _ _).alloc (Nat.le_refl _) _
  have hblk : wA.heap[w.heap.size]? = some (.cells #[.string ⟨#[]⟩, .int .i64 0] 53 (0, 0)) := by rw [← hwA]; exact heap_alloc_new w _
  have hszA : wA.heap.size = w.heap.size + 1 := by rw [← hwA]; simp
  have e4 := (hbA.cell (p := ⟨Q, 4, none⟩) hQ).trans c4
  have HWA := Lib.hid hwA
  have HBA := Lib.hid hbA
  have HBLK := Lib.hid hblk
  have q0 : wA.cell? ⟨w.heap.size, 0, none⟩ = some (.string ⟨#[]⟩) := by simp [World.cell?, hblk]
  have q1 : wA.cell? ⟨w.heap.size, 1, none⟩ = some (.int .i64 0) := by simp [World.cell?, hblk]
  have qf0 : wA.frozen? ⟨w.heap.size, 0, none⟩ = false := by simp [World.frozen?, hblk]
  have qf1 : wA.frozen? ⟨w.heap.size, 1, none⟩ = false := by simp [World.frozen?, hblk]
  by_cases hz : tn = 0
  · subst hz
    have HPK : Hid (R = .tuple #[.agg #[.string ⟨#[]⟩, .int .i64 0], .bool false]) := by
      unfold Hid
      rw [← HR.out]
      unfold pickT
      rw [if_pos HTN.out]
    clear h hg htn hR hwA hbA hblk
    go_enter Try.func50, Try.ntmps50
    go_wp2_with (rw [HWA.out])
    obtain ⟨p0, p1, p2⟩ := pick_box (w := wA) (b := w.heap.size) (.string ⟨#[]⟩) (.int .i64 0) q0 q1
    have hbf := HBA.out.trans p2
    obtain ⟨wf, hwf⟩ : ∃ wf, (wA.setCell ⟨w.heap.size, 0, none⟩ (.string ⟨#[]⟩)).setCell ⟨w.heap.size, 1, none⟩ (.int .i64 0) = wf := ⟨_, rfl⟩
    rw [hwf] at p0 p1 hbf ⊢
    rw [HPK.out]
    exact bodyPost_ret (v := .tuple #[.agg #[.string ⟨#[]⟩, .int .i64 0], .bool false]) (by simp [results, Try.results50, go_sem, p0, p1]) rfl ⟨rfl, hbf⟩
  · have hz1 : 0 < tn := by omega
    have hzi : ((tn : Int) == 0) = false := by rw [beq_eq_false_iff_ne]; omega
    have hix : draw % tn < tn := Nat.mod_lt _ hz1
    have hw1 : IntKind.u64.wrap (tn : Int) = (tn : Int) := by rw [IntKind.wrap_u64]; omega
    have hne : ¬ (tn : Int) = 0 := by omega
    have HPK : Hid (pickT t draw = (allT t)[draw % tn]?) := by unfold Hid pickT; rw [HTN.out, if_neg (by omega)]
    obtain ⟨ix, hixe⟩ : ∃ i, draw % tn = i := ⟨_, rfl⟩
    have hrem : (draw : Int) % (tn : Int) = (ix : Int) := by omega
    have hw2 : IntKind.i64.wrap (ix : Int) = (ix : Int) := IntWalk.i64_in _ (by omega)
    rw [hixe] at hix HPK
    obtain ⟨y, hy⟩ : ∃ y, (allT t)[ix]? = some y := ⟨_, List.getElem?_eq_getElem (by rw [HLN.out]; exact hix)⟩
    have HY := Lib.hid hy
    have HRV : Hid (R = .tuple #[.agg #[.string ⟨y.1.toArray⟩, .int .i64 y.2], .bool true]) := by
      unfold Hid
      rw [← HR.out, HPK.out, HY.out]
    obtain ⟨S, hS⟩ : ∃ S : ByteArray, ⟨y.1.toArray⟩ = S := ⟨_, rfl⟩
    rw [hS] at HRV
    have HS := Lib.hid hS
    have HQ4 : Hid (∀ W, Below wA.heap.size wA W → W.cell? ⟨Q, 4, none⟩ = some (.int .i64 tn)) := fun W hW => (hW.cell (p := ⟨Q, 4, none⟩) (by have := hbA.size; show Q < _; omega)).trans e4
    have HBX : Hid (∀ W, Below wA.heap.size wA W → W.cell? ⟨w.heap.size, 0, none⟩ = some (.string ⟨#[]⟩) ∧ W.cell? ⟨w.heap.size, 1, none⟩ = some (.int .i64 0) ∧ W.frozen? ⟨w.heap.size, 0, none⟩ = false ∧ W.frozen? ⟨w.heap.size, 1, none⟩ = false) := fun W hW => by
      have hb := (hW.block w.heap.size (by omega)).trans hblk
      exact ⟨by simp [World.cell?, hb], by simp [World.cell?, hb], by simp [World.frozen?, hb], by simp [World.frozen?, hb]⟩
    clear h hg htn hR hwA hbA hblk hy hS hixe hz
    go_enter Try.func50, Try.ntmps50
    go_wp2_with (rw [HWA.out])
    go_region_with (go_at_call 21; refine (HALL.out _ (by first | exact HBA.out | exact HBA.out.drew)).mono ?_; rintro en w4 ⟨v, rfl, hown, hb4⟩; have hb5 : Below wA.heap.size wA w4 := (by first | exact hb4 | exact (Below.refl wA.heap.size wA).drew.trans hb4); have k4 := HQ4.out w4 hb5; obtain ⟨b0, b1, b2, b3⟩ := HBX.out w4 hb5; obtain ⟨A, c, rfl⟩ := own_form hown; have HOW := Lib.hid hown; have HB5 := Lib.hid hb5; obtain ⟨g, hgA, hic, k0, k1, hgl⟩ := item_of_own hown HY.out HS.out; subst hgA; clear hown hb4 hb5)
    all_goals
      go_wp2
      obtain ⟨p0, p1, p2⟩ := pick_box (w := w4) (b := w.heap.size) (.string S) (.int .i64 y.2) b0 b1
      have hbf := (HBA.out.trans (HB5.out.mono HBA.out.size)).trans p2
      obtain ⟨wf, hwf⟩ : ∃ wf, (w4.setCell ⟨w.heap.size, 0, none⟩ (.string S)).setCell ⟨w.heap.size, 1, none⟩ (.int .i64 y.2) = wf := ⟨_, rfl⟩
      rw [hwf] at p0 p1 hbf ⊢
      rw [HRV.out]
      exact bodyPost_ret (v := .tuple #[.agg #[.string S, .int .i64 y.2], .bool true]) (by simp [results, Try.results50, go_sem, p0, p1]) rfl ⟨rfl, hbf⟩

end Go.Proofs.Ytcjoakbaldeaoaa
