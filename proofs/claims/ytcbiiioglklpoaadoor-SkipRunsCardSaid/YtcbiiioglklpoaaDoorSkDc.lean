/-
  Package skip: put of a chain; write, Score, Del, Put of a list that stands. Conditions: the list stands. Package skip: Put of a list that stands, New. Conditions: the list stands; the table of math/bits lies where the program laid it.
-/
import Derived.Test.YtcbiiioglklpoaaDoorSkDa
import Derived.Test.YtcbiiioglklpoaaDoorSkC5
import Derived.Test.YtcbiiioglklpoaaDoorSkE
import Derived.Test.YtcbiiioglklpoaaDoorSkU1
import Derived.Deep.RegionHeld3
namespace Go.Proofs.YtcbiiioglklpoaaDoor
open Go.RowKit

section
variable {w : World} {base seed c h mb N : Nat} {lp : Int} {ns : List Nd} {S : Nat → Nat → Value} {g : List UInt8 → Option Nat} {sz : Nat}

set_option maxRecDepth 100000 in
set_option maxHeartbeats 16000000 in
theorem cput_any (m : Mb) (hk : CkOn w base seed c h mb N lp ns S g sz) (ho : InOrd (ns.map (·.2))) (hn : ns.length ≤ 900000) (hN : N ≤ 1000000000) (hm : m.1.length ≤ 1000000000) :
    Calls Tryd.prog 53 #[.pointer (some ⟨c, 0, none⟩), .agg #[.string ⟨m.1.toArray⟩, .int .i64 m.2]] w fun e w' => e = .returned (.tuple #[]) ∧ ∃ (X : Nat) (S' : Nat → Nat → Value), w.heap.size ≤ X ∧
      CkOn w' base seed c h mb (N + 1) lp (insAt ns (rkM m (ns.map (·.2))) (X, m)) S' (fun m' => if m' = m.1 then some X else g m') (if (g m.1).isSome then sz else sz + 1) ∧ Only (CkF c h mb ns) w w' := by
  obtain ⟨sz2, hsz2⟩ : ∃ s, (if (g m.1).isSome then sz else sz + 1) = s := ⟨_, rfl⟩
  obtain ⟨wb, hwb⟩ : ∃ wb, w.alloc (.cells #[.string ⟨m.1.toArray⟩, .int .i64 m.2] 47) = wb := ⟨_, rfl⟩
  have rb : wb.rowIs w.heap.size 47 2 (fun i => if i = 0 then .string ⟨m.1.toArray⟩ else .int .i64 m.2) := by rw [← hwb]; exact rows2 _ _ _ rfl rfl
  have hb0 : Below w.heap.size w wb := by rw [← hwb]; exact (Below.refl _ _).alloc (Nat.le_refl _) _
  have kb := hk.below hb0
  have hrl : rkM m (ns.map (·.2)) ≤ ns.length := by have := rkM_le m (ns.map (·.2)); rw [List.length_map] at this; exact this
  have HBF := Lib.hid (fun W => before_any m W)
  have HFD : Hid (∀ W B, Below wb.heap.size wb W → W.rowIs B 47 2 (mbF m) → Calls Tryd.prog 70 #[.pointer (some ⟨c, 0, none⟩), .func (.func 75) #[] #[.pointer (some ⟨B, 0, none⟩)]] W fun e w' => (∃ f, e = .returned (aggF 32 f) ∧ ∀ l, l < 16 → TrF (lvS seed) h ns (rkM m (ns.map (·.2))) f l) ∧ Below W.heap.size W w') := fun W B hW hB =>
    find_any W enter_b1 (before_ahead (kb.ch.below hW) rfl ho hB) hrl (by omega) ((kb.below hW).blk.cell (i := 1) (by omega)) (kb.ch.below hW)
  have HLY := Lib.hid (fun (W : World) (f : Nat → Value) (hW : Below wb.heap.size wb W) (hf : ∀ l, l < 16 → TrF (lvS seed) h ns (rkM m (ns.map (·.2))) f l) => lay_any m W (kb.below hW) hf hrl hn hN hm)
  have hBn : ∀ b, CkF c h mb ns b → b ≠ w.heap.size := fun b hb e => by have := hk.lt hb; omega
  have HBN := Lib.hid hBn
  have HS : Hid (∀ X, Below wb.heap.size wb X → X.cell? ⟨w.heap.size, 0, none⟩ = some (.string ⟨m.1.toArray⟩) ∧ X.cell? ⟨w.heap.size, 1, none⟩ = some (.int .i64 m.2)) := fun X hX => by
    have r2 := rb.of_block (hX.block _ rb.lt)
    exact ⟨r2.cell (i := 0) (by omega), r2.cell (i := 1) (by omega)⟩
  have H0 : Hid (Below wb.heap.size wb wb) := Below.refl _ _
  have HB0 := Lib.hid hb0
  have HLT := Lib.hid rb.lt
  have HWB := Lib.hid hwb
  obtain ⟨SM, hSM⟩ : ∃ SM : ByteArray, (⟨m.1.toArray⟩ : ByteArray) = SM := ⟨_, rfl⟩
  obtain ⟨MN, hMN⟩ : ∃ MN, m.2 = MN := ⟨_, rfl⟩
  rw [hSM, hMN] at HS HBF HLY HWB ⊢
  rw [hsz2] at HLY ⊢
  clear hk ho hn hN hm kb hrl rb hb0 hwb hBn hSM hMN hsz2
  go_enter Tryd.func53, Tryd.ntmps53
  go_wp2_with fail
  rw [HWB.out]
  go_region_held3 (fun X => X.cell? ⟨w.heap.size, 0, none⟩ = some (.string SM) ∧ X.cell? ⟨w.heap.size, 1, none⟩ = some (.int .i64 MN))
    (first | exact HC3.out | exact HS.out _ HC2.out | exact HS.out _ HC1.out | exact HS.out _ H0.out.drew | exact HS.out _ H0.out)
    (first
    | (have qq := HC2; clear qq; go_at_call 69; refine Calls.mono (HLY.out _ _ HC2.out HT2.out) ?_; rintro en x3 ⟨f3, X3, S3, rfl, hX3, hk3, _, ho3⟩; have HC3 : Hid (x3.cell? ⟨w.heap.size, 0, none⟩ = some (.string SM) ∧ x3.cell? ⟨w.heap.size, 1, none⟩ = some (.int .i64 MN)) := (by obtain ⟨s1, s2⟩ := HS.out _ HC2.out; exact ⟨ho3.cell s1 (fun e => HBN.out _ e rfl), ho3.cell s2 (fun e => HBN.out _ e rfl)⟩); have HX3 := Lib.hid hX3; have HK3 := Lib.hid hk3; have HO3 := Lib.hid ho3; clear hX3 hk3 ho3)
    | (have qq := HC1; clear qq; go_at_call 70; refine Calls.mono (HFD.out _ _ HC1.out HR1.out) ?_; rintro en x2 ⟨⟨f2, rfl, ht2⟩, hb2⟩; have HC2 : Hid (Below wb.heap.size wb x2) := bup HC1.out hb2; have HT2 := Lib.hid ht2; clear hb2 ht2)
    | (go_at_call 57; refine Calls.mono (HBF.out _) ?_; rintro en x1 ⟨rfl, hr1, hb1⟩; have HC1 : Hid (Below wb.heap.size wb x1) := (by first | exact hb1 | exact (Below.refl _ _).drew.trans hb1); have HR1 := Lib.hid hr1; clear hr1 hb1))
  all_goals
    go_wp2
    go_end0
    exact ⟨rfl, X3, S3, by have := HX3.out; have := HC2.out.size; have := HLT.out; omega, HK3.out, (Only.of_below (HB0.out.trans (HC2.out.mono HB0.out.size))).trans HO3.out⟩

end

section
variable {w : World} {base seed s c h mb N : Nat} {ns : List Nd} {S : Nat → Nat → Value} {g : List UInt8 → Option Nat} {sz : Nat} {L : List Mb}

set_option maxRecDepth 100000 in
set_option maxHeartbeats 4000000 in
theorem lwrite_any (k : LsAt w base seed s c h mb N ns S g sz L) : Calls Tryd.prog 52 #[.pointer (some ⟨s, 0, none⟩)] w fun e w' => e = .returned (.pointer (some ⟨c, 0, none⟩)) ∧ w' = w := by
  have c1 := k.hd.cell (i := 1) (by omega)
  rw [show lsF s c 1 = .pointer (some ⟨c, 0, none⟩) from rfl] at c1
  have c3 := k.ck.blk.cell (i := 3) (by omega)
  rw [show ckF seed h mb 0 3 = .int .i64 0 from rfl] at c3
  clear k
  go_enter Tryd.func52, Tryd.ntmps52
  go_wp2
  go_ret
  exact ⟨rfl, rfl⟩

set_option maxRecDepth 100000 in
set_option maxHeartbeats 4000000 in
theorem lscore_yes (k : LsAt w base seed s c h mb N ns S g sz L) (SM : ByteArray) (hS : SM.size ≤ 9223372036854775807) {j : Nat} (hf : fndM L SM.data.toList = some j) {n : Int} (hj : L[j]? = some (SM.data.toList, n)) :
    Calls Tryd.prog 25 #[.pointer (some ⟨s, 0, none⟩), .string SM] w fun e w' => e = .returned (.tuple #[.int .i64 n, .bool true]) ∧ w' = w := by
  have HR := Lib.hid (lread_any k.hd)
  have c2 := k.ck.blk.cell (i := 2) (by omega)
  rw [show ckF seed h mb 0 2 = .map (some mb) from rfl] at c2
  have HLK := nm_look k.ck.mp SM hS
  obtain ⟨x, n', hx, he, hl, hg⟩ := k.find_some hf
  rw [hg] at HLK
  have HLK' : (Instr.lookup 93 (.map (some mb)) (.string SM) false).run Tryd.prog w = .ok (.pointer (some ⟨x.1, 0, none⟩)) w := HLK
  obtain ⟨y0, y1⟩ := k.ck.ch.cells hx
  have hnn : x.2.2 = n := by
    rw [hl] at hj
    injection hj with hj
    rw [he]
    injection hj
  rw [hnn] at y1
  clear k HLK hf hj hx he hl hg hnn y0
  go_enter Tryd.func25, Tryd.ntmps25
  go_wp2_with fail
  refine HR.out.mono ?_
  rintro e w1 ⟨rfl, rfl⟩
  go_wp2
  go_ret2
  exact ⟨rfl, rfl⟩

set_option maxRecDepth 100000 in
set_option maxHeartbeats 4000000 in
theorem lscore_no (k : LsAt w base seed s c h mb N ns S g sz L) (SM : ByteArray) (hS : SM.size ≤ 9223372036854775807) (hf : fndM L SM.data.toList = none) :
    Calls Tryd.prog 25 #[.pointer (some ⟨s, 0, none⟩), .string SM] w fun e w' => e = .returned (.tuple #[.int .i64 0, .bool false]) ∧ w' = w := by
  have HR := Lib.hid (lread_any k.hd)
  have c2 := k.ck.blk.cell (i := 2) (by omega)
  rw [show ckF seed h mb 0 2 = .map (some mb) from rfl] at c2
  have HLK := nm_look k.ck.mp SM hS
  rw [k.find_none hf] at HLK
  have HLK' : (Instr.lookup 93 (.map (some mb)) (.string SM) false).run Tryd.prog w = .ok (.pointer none) w := HLK
  clear k HLK hf
  go_enter Tryd.func25, Tryd.ntmps25
  go_wp2_with fail
  refine HR.out.mono ?_
  rintro e w1 ⟨rfl, rfl⟩
  go_wp2
  go_ret2
  exact ⟨rfl, rfl⟩

/-- A chain's map, with a node less. -/
theorem MapIs.del {p X : Nat} {m : Mb} (h : MapIs g sz (insAt ns p (X, m))) (hp : p ≤ ns.length) (he : Each ((insAt ns p (X, m)).map (·.2))) : MapIs (fun m' => if m' = m.1 then none else g m') (sz - 1) ns := by
  obtain ⟨h1, h2⟩ := each_ins.1 he
  have hl := insAt_length hp (X, m)
  have hsz := h.eq.1 he
  have hmem : ∀ m', m' ∈ (insAt ns p (X, m)).map (·.2.1) ↔ m' = m.1 ∨ m' ∈ ns.map (·.2.1) := fun m' => by
    rw [((insAt_perm' (L := ns) (p := p) (X, m)).map (·.2.1)).mem_iff, List.map_cons, List.mem_cons]
  refine ⟨fun m' => ?_, fun _ k x hx => ?_, by omega, ⟨fun _ => by omega, fun _ => h2⟩⟩
  · by_cases e : m' = m.1
    · rw [if_pos e, e]
      simp only [Option.isSome_none, Bool.false_eq_true, false_iff]
      exact h1
    · rw [if_neg e, h.has, hmem]
      simp [e]
  · have hne : ¬ x.2.1 = m.1 := fun e => h1 (by rw [← e]; exact List.mem_map.2 ⟨x, List.mem_of_getElem? hx, rfl⟩)
    rw [if_neg hne]
    by_cases hk : k < p
    · exact h.own he k x (by rw [insAt_get hp, if_pos hk]; exact hx)
    · exact h.own he (k + 1) x (by rw [insAt_get hp, if_neg (by omega), if_neg (by omega), Nat.add_sub_cancel]; exact hx)

theorem del_map (L : List Nd) (j : Nat) : (delAt L j).map (·.2) = delAt (L.map (·.2)) j := by
  unfold delAt
  rw [List.map_append, List.map_take, List.map_drop]
theorem ins_map (L : List Nd) (j : Nat) (x : Nd) : (insAt L j x).map (·.2) = insAt (L.map (·.2)) j x.2 := by
  unfold insAt
  rw [List.map_append, List.map_cons, List.map_take, List.map_drop]

/-- The list's own row is none of its chain's. -/
theorem LsAt.snot (k : LsAt w base seed s c h mb N ns S g sz L) : ¬ CkF c h mb ns s := by
  rintro (e | e | e)
  · exact row_clash (e ▸ k.hd) k.ck.blk (by decide)
  · exact k.ck.mp.ne_row k.hd e
  · exact row_clash k.hd (k.ck.ch.row s e) (by decide)

set_option maxRecDepth 100000 in
set_option maxHeartbeats 8000000 in
theorem ldel_yes (k : LsAt w base seed s c h mb N ns S g sz L) (hn : L.length ≤ 800000) (SM : ByteArray) (hS : SM.size ≤ 1000000000) {j : Nat} (hf : fndM L SM.data.toList = some j) :
    Calls Tryd.prog 27 #[.pointer (some ⟨s, 0, none⟩), .string SM] w fun e w' => e = .returned (.bool true) ∧ ∃ ns' S' g' sz', LsAt w' base seed s c h mb N ns' S' g' sz' (delAt L j) ∧ Only (CkF c h mb ns) w w' ∧ (∀ b, CkF c h mb ns' b → CkF c h mb ns b) := by
  obtain ⟨x, n, hx, he, hl, hg⟩ := k.find_some hf
  have HSC := Lib.hid (lscore_yes k SM (by omega) hf hl)
  have HWR := Lib.hid (lwrite_any k)
  have c2 := k.ck.blk.cell (i := 2) (by omega)
  rw [show ckF seed h mb 0 2 = .map (some mb) from rfl] at c2
  have HLK := nm_look k.ck.mp SM (by omega)
  rw [hg] at HLK
  have HLK' : (Instr.lookup 93 (.map (some mb)) (.string SM) false).run Tryd.prog w = .ok (.pointer (some ⟨x.1, 0, none⟩)) w := HLK
  have hjl : j < ns.length := (List.getElem?_eq_some_iff.1 hx).1
  have hns := del_as_ins hx
  have hdl : (delAt ns j).length + 1 = ns.length := by have := delAt_length hjl; omega
  have hpj : j ≤ (delAt ns j).length := by omega
  have hk2 := k.ck
  rw [hns] at hk2
  have hmap : (insAt (delAt ns j) j x).map (·.2) = L := by rw [← hns]; exact k.ls
  have hmi := k.mi
  rw [hns] at hmi
  have hx1 : x.2.1 = SM.data.toList := by rw [he]
  have HD := Lib.hid (del_any (X := x.1) (m := x.2) hk2 hpj (by have := k.len; omega) (by rw [hx1]; have := Lib.size_eq SM; omega) (by rw [hmap]; exact k.ord.1) (by rw [hx1, hg]; rfl))
  have HEND : Hid (∀ w' S', CkOn w' base seed c h mb N 0 (delAt ns j) S' (fun m' => if m' = x.2.1 then none else g m') (sz - 1) → Only (CkF c h mb (delAt ns j)) w w' → ∃ ns' S' g' sz', LsAt w' base seed s c h mb N ns' S' g' sz' (delAt L j) ∧ Only (CkF c h mb ns) w w' ∧ (∀ b, CkF c h mb ns' b → CkF c h mb ns b)) := fun w' S' h1 h2 => by
    have hsub : ∀ b, CkF c h mb (delAt ns j) b → CkF c h mb ns b := fun b hb => by
      rcases hb with e | e | e
      · exact Or.inl e
      · exact Or.inr (Or.inl e)
      · rw [hns]
        exact Or.inr (Or.inr ((ins_mem x).2 (Or.inr e)))
    refine ⟨_, _, _, _, ⟨k.hd.of_block (h2.block s k.hd.lt (fun e => k.snot (hsub s e))), k.los, h1, by rw [del_map, k.ls], MapIs.del hmi hpj (by rw [hmap]; exact k.ord.2), k.ord.del j⟩, h2.mono hsub, hsub⟩
  clear k HLK hf hx he hl hg hjl hns hdl hpj hk2 hmap hmi hx1
  go_enter Tryd.func27, Tryd.ntmps27
  go_wp2_with fail
  refine HSC.out.mono ?_
  rintro e w1 ⟨rfl, hw1⟩
  rw [hw1]
  go_wp2_with fail
  refine HWR.out.mono ?_
  rintro e w2 ⟨rfl, hw2⟩
  rw [hw2]
  clear hw1 hw2
  go_wp2_with fail
  refine HD.out.mono ?_
  rintro e w3 ⟨rfl, S3, hk3, ho3⟩
  have HE := Lib.hid (HEND.out w3 S3 hk3 ho3)
  clear hk3 ho3
  go_wp2
  go_ret
  exact ⟨rfl, HE.out⟩

set_option maxRecDepth 100000 in
set_option maxHeartbeats 4000000 in
theorem ldel_no (k : LsAt w base seed s c h mb N ns S g sz L) (SM : ByteArray) (hS : SM.size ≤ 9223372036854775807) (hf : fndM L SM.data.toList = none) :
    Calls Tryd.prog 27 #[.pointer (some ⟨s, 0, none⟩), .string SM] w fun e w' => e = .returned (.bool false) ∧ w' = w := by
  have HSC := Lib.hid (lscore_no k SM hS hf)
  clear k hf
  go_enter Tryd.func27, Tryd.ntmps27
  go_wp2_with fail
  refine HSC.out.mono ?_
  rintro e w1 ⟨rfl, rfl⟩
  go_wp2
  go_ret
  exact ⟨rfl, rfl⟩

end

theorem str_of_list2 {T : ByteArray} {l : List UInt8} (h : l = T.data.toList) : (⟨l.toArray⟩ : ByteArray) = T := by
  subst h
  apply ByteArray.ext
  simp

/-- What Put leaves: the list's members are those. -/
def PutE (w w' : World) (base seed s c h mb N : Nat) (ns : List Nd) (L' : List Mb) : Prop :=
  ∃ (N' : Nat) (ns' : List Nd) (S' : Nat → Nat → Value) (g' : List UInt8 → Option Nat) (sz' : Nat), N' ≤ N + 1 ∧ LsAt w' base seed s c h mb N' ns' S' g' sz' L' ∧ Only (CkF c h mb ns) w w' ∧ (∀ b, CkF c h mb ns' b → CkF c h mb ns b ∨ w.heap.size ≤ b)

section
variable {w : World} {base seed s c h mb N : Nat} {ns : List Nd} {S : Nat → Nat → Value} {g : List UInt8 → Option Nat} {sz : Nat} {L : List Mb}

theorem putE_of {w2 w6 w7 : World} {ns2 : List Nd} {S6 S7 : Nat → Nat → Value} {g2 : List UInt8 → Option Nat} {sz2 X7 : Nat} {L2 : List Mb} {m : Mb} (hf : fndM L2 m.1 = none) (h2 : Only (CkF c h mb ns) w w2) (hsub : ∀ b, CkF c h mb ns2 b → CkF c h mb ns b)
    (hb6 : Below w2.heap.size w2 w6) (k6 : LsAt w6 base seed s c h mb N ns2 S6 g2 sz2 L2) (hX7 : w6.heap.size ≤ X7)
    (hk7 : CkOn w7 base seed c h mb (N + 1) 0 (insAt ns2 (rkM m (ns2.map (·.2))) (X7, m)) S7 (fun m' => if m' = m.1 then some X7 else g2 m') (if (g2 m.1).isSome then sz2 else sz2 + 1)) (ho7 : Only (CkF c h mb ns2) w6 w7) :
    PutE w w7 base seed s c h mb N ns (insAt L2 (rkM m L2) m) := by
  have hp : rkM m (ns2.map (·.2)) ≤ ns2.length := by have := rkM_le m (ns2.map (·.2)); rw [List.length_map] at this; exact this
  refine ⟨N + 1, _, S7, _, _, Nat.le_refl _, ⟨k6.hd.of_block (ho7.block s k6.hd.lt k6.snot), k6.los, hk7, by rw [ins_map, k6.ls], k6.mi.ins hp, k6.ord.ins m.2 hf⟩, (h2.trans (Only.of_below hb6)).trans (ho7.mono hsub), fun b hb => ?_⟩
  rcases hb with e | e | e
  · exact Or.inl (hsub b (Or.inl e))
  · exact Or.inl (hsub b (Or.inr (Or.inl e)))
  · rcases (ins_mem (X7, m)).1 e with e | e
    · exact Or.inr (by rw [e]; have q1 := h2.size; have q2 := hb6.size; exact Nat.le_trans q1 (Nat.le_trans q2 hX7))
    · exact Or.inl (hsub b (Or.inr (Or.inr e)))

set_option maxRecDepth 100000 in
set_option maxHeartbeats 16000000 in
theorem lput_any (k : LsAt w base seed s c h mb N ns S g sz L) (hn : L.length ≤ 800000) (hN : N ≤ 1000000) (SM : ByteArray) (hS : SM.size ≤ 1000000000) (z : Int) :
    Calls Tryd.prog 21 #[.pointer (some ⟨s, 0, none⟩), .string SM, .int .i64 z] w fun e w' => e = .returned (.bool (fndM L SM.data.toList).isNone) ∧ PutE w w' base seed s c h mb N ns (putM L SM.data.toList z) := by
  have HIM := Lib.hid (isMade_any k.hd)
  have HCP := Lib.hid (fun W => copied_any SM z W (by omega))
  rcases hf : fndM L SM.data.toList with _ | j
  · rw [Option.isNone_none]
    have HSC := Lib.hid (lscore_no k SM (by omega) hf)
    have HDL := Lib.hid (ldel_no k SM (by omega) hf)
    have K2 := Lib.hid k
    have HL2 := Lib.hid hn
    have HEND : Hid (∀ w6 w7 X7 S7, Below w.heap.size w w6 → LsAt w6 base seed s c h mb N ns S g sz L → w6.heap.size ≤ X7 → CkOn w7 base seed c h mb (N + 1) 0 (insAt ns (rkM (SM.data.toList, z) (ns.map (·.2))) (X7, (SM.data.toList, z))) S7 (fun m' => if m' = SM.data.toList then some X7 else g m') (if (g SM.data.toList).isSome then sz else sz + 1) → Only (CkF c h mb ns) w6 w7 → PutE w w7 base seed s c h mb N ns (putM L SM.data.toList z)) := fun w6 w7 X7 S7 hb6 k6 hX7 hk7 ho7 => by
      have q := putE_of (m := (SM.data.toList, z)) hf (Only.refl _ _) (fun b hb => hb) hb6 k6 hX7 hk7 ho7
      unfold putM
      rw [hf]
      exact q
    obtain ⟨R, hR⟩ : ∃ R, putM L SM.data.toList z = R := ⟨_, rfl⟩
    rw [hR] at HEND ⊢
    clear k hf hR
    go_enter Tryd.func21, Tryd.ntmps21
    go_wp2_with fail
    refine HIM.out.mono ?_
    rintro e w1 ⟨rfl, hw1⟩
    rw [hw1]
    clear hw1
    go_wp2_with fail
    refine HSC.out.mono ?_
    rintro e w2 ⟨rfl, hw2⟩
    rw [hw2]
    clear hw2
    go_wp2_with fail
    refine HDL.out.mono ?_
    rintro e w3 ⟨rfl, hw3⟩
    rw [hw3]
    clear hw3
    go_wp2_with fail
    have HWR := Lib.hid (lwrite_any K2.out)
    refine HWR.out.mono ?_
    rintro e w5 ⟨rfl, hw5⟩
    rw [hw5]
    clear hw5
    go_wp2_with fail
    refine (HCP.out _).mono ?_
    rintro e w6 ⟨rfl, hb6⟩
    have K6 := Lib.hid (K2.out.below hb6)
    have HB6 := Lib.hid hb6
    have hpu := cput_any (m := (SM.data.toList, z)) K6.out.ck (by rw [K6.out.ls]; exact K6.out.ord.1) (by have := K6.out.len; have := HL2.out; omega) (by omega) (by have := Lib.size_eq SM; show SM.data.toList.length ≤ _; omega)
    rw [show (⟨((SM.data.toList, z) : Mb).1.toArray⟩ : ByteArray) = SM from str_of_list2 rfl] at hpu
    have HPU := Lib.hid hpu
    clear hb6 hpu
    go_wp2_with fail
    refine HPU.out.mono ?_
    rintro e w7 ⟨rfl, X7, S7, hX7, hk7, ho7⟩
    have HE := Lib.hid (HEND.out w6 w7 X7 S7 HB6.out K6.out hX7 hk7 ho7)
    clear hX7 hk7 ho7
    go_wp2
    go_ret
    exact ⟨rfl, HE.out⟩
  · rw [Option.isNone_some]
    obtain ⟨n, hj, _⟩ := fndM_some hf
    have HSC := Lib.hid (lscore_yes k SM (by omega) hf hj)
    by_cases hz : n = z
    · subst hz
      have HE : Hid (PutE w w base seed s c h mb N ns (putM L SM.data.toList n)) := by
        unfold Hid
        rw [k.ord.put_same hj]
        exact ⟨N, ns, S, g, sz, by omega, k, Only.refl _ _, fun b hb => Or.inl hb⟩
      obtain ⟨R, hR⟩ : ∃ R, putM L SM.data.toList n = R := ⟨_, rfl⟩
      rw [hR] at HE ⊢
      clear k hf hj hR
      go_enter Tryd.func21, Tryd.ntmps21
      go_wp2_with fail
      refine HIM.out.mono ?_
      rintro e w1 ⟨rfl, hw1⟩
      rw [hw1]
      clear hw1
      go_wp2_with fail
      refine HSC.out.mono ?_
      rintro e w2 ⟨rfl, hw2⟩
      rw [hw2]
      clear hw2
      go_wp2
      go_ret
      exact ⟨rfl, HE.out⟩
    · have HDL := Lib.hid (ldel_yes k (by omega) SM hS hf)
      have HKK := Lib.hid k
      have HF := Lib.hid hf
      have HJL : Hid (j < L.length) := (fndM_some hf).choose_spec.2
      obtain ⟨R, hR⟩ : ∃ R, putM L SM.data.toList z = R := ⟨_, rfl⟩
      have HRR := Lib.hid hR
      rw [hR]
      clear k hf hj hR
      go_enter Tryd.func21, Tryd.ntmps21
      go_wp2_with fail
      refine HIM.out.mono ?_
      rintro e w1 ⟨rfl, hw1⟩
      rw [hw1]
      clear hw1
      go_wp2_with fail
      refine HSC.out.mono ?_
      rintro e w2 ⟨rfl, hw2⟩
      rw [hw2]
      clear hw2
      go_wp2_with fail
      refine HDL.out.mono ?_
      rintro e w3 ⟨rfl, ns2, S2, g2, sz2, hk3, ho3, hs3⟩
      have K2 := Lib.hid hk3
      have HL2 : Hid ((delAt L j).length ≤ 800000) := by unfold Hid; rw [delAt_length HJL.out]; omega
      have HEND : Hid (∀ w6 w7 X7 S7, Below w3.heap.size w3 w6 → LsAt w6 base seed s c h mb N ns2 S2 g2 sz2 (delAt L j) → w6.heap.size ≤ X7 → CkOn w7 base seed c h mb (N + 1) 0 (insAt ns2 (rkM (SM.data.toList, z) (ns2.map (·.2))) (X7, (SM.data.toList, z))) S7 (fun m' => if m' = SM.data.toList then some X7 else g2 m') (if (g2 SM.data.toList).isSome then sz2 else sz2 + 1) → Only (CkF c h mb ns2) w6 w7 → PutE w w7 base seed s c h mb N ns R) := fun w6 w7 X7 S7 hb6 k6 hX7 hk7 ho7 => by
        have q := putE_of (m := (SM.data.toList, z)) (HKK.out.ord.2.find_del HF.out) ho3 hs3 hb6 k6 hX7 hk7 ho7
        have e : putM L SM.data.toList z = insAt (delAt L j) (rkM (SM.data.toList, z) (delAt L j)) (SM.data.toList, z) := by unfold putM; rw [HF.out]
        rw [← HRR.out, e]
        exact q
      clear hk3 ho3 hs3
      go_wp2_with fail
      have HWR := Lib.hid (lwrite_any K2.out)
      refine HWR.out.mono ?_
      rintro e w5 ⟨rfl, hw5⟩
      rw [hw5]
      clear hw5
      go_wp2_with fail
      refine (HCP.out _).mono ?_
      rintro e w6 ⟨rfl, hb6⟩
      have K6 := Lib.hid (K2.out.below hb6)
      have HB6 := Lib.hid hb6
      have hpu := cput_any (m := (SM.data.toList, z)) K6.out.ck (by rw [K6.out.ls]; exact K6.out.ord.1) (by have := K6.out.len; have := HL2.out; omega) (by omega) (by have := Lib.size_eq SM; show SM.data.toList.length ≤ _; omega)
      rw [show (⟨((SM.data.toList, z) : Mb).1.toArray⟩ : ByteArray) = SM from str_of_list2 rfl] at hpu
      have HPU := Lib.hid hpu
      clear hb6 hpu
      go_wp2_with fail
      refine HPU.out.mono ?_
      rintro e w7 ⟨rfl, X7, S7, hX7, hk7, ho7⟩
      have HE := Lib.hid (HEND.out w6 w7 X7 S7 HB6.out K6.out hX7 hk7 ho7)
      clear hX7 hk7 ho7
      go_wp2
      go_ret
      exact ⟨rfl, HE.out⟩

set_option maxRecDepth 100000 in
set_option maxHeartbeats 8000000 in
theorem lnew_any (seed : Nat) (hsd : seed < 18446744073709551616) (w : World) (hz : TzB w) :
    Calls Tryd.prog 19 #[.int .u64 (seed : Nat)] w fun e w' => ∃ (s c h mb : Nat) (ns : List Nd) (S : Nat → Nat → Value) (g : List UInt8 → Option Nat) (sz : Nat), e = .returned (.pointer (some ⟨s, 0, none⟩)) ∧ LsAt w' w.heap.size seed s c h mb 0 ns S g sz [] ∧ Below w.heap.size w w' := by
  have HC := Lib.hid (chainOf_any seed hsd w (ScAt.nil w) (by omega) (fun x hx => by cases hx) hz.1 hz.2)
  have HLO := Lib.hid (fun c W => listOf_any c W)
  clear hz
  go_enter Tryd.func19, Tryd.ntmps19
  go_wp2_with fail
  refine HC.out.mono ?_
  rintro e w1 ⟨c, h, mb, ns, S, g, sz, rfl, hk, hl, hm, hb⟩
  have HK := Lib.hid hk
  have HB := Lib.hid hb
  have HM := Lib.hid hm
  have HLL := Lib.hid hl
  clear hk hl hm hb
  go_wp2_with fail
  refine (HLO.out _ _).mono ?_
  rintro e w2 ⟨rfl, hr, hb2⟩
  have HE : Hid (LsAt w2 w.heap.size seed w1.heap.size c h mb 0 ns S g sz [] ∧ Below w.heap.size w w2) := ⟨⟨hr, HB.out.size, HK.out.below hb2, HLL.out, HM.out, Ord.nil⟩, HB.out.trans (hb2.mono HB.out.size)⟩
  clear hr hb2
  go_wp2
  go_ret
  exact ⟨_, c, h, mb, ns, S, g, sz, rfl, HE.out.1, HE.out.2⟩

end

end Go.Proofs.YtcbiiioglklpoaaDoor
