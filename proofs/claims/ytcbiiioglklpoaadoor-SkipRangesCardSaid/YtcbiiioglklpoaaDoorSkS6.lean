/-
  Package skip: what From of a list that stands tells to a function that always goes on, from any rank on, either way. Conditions: the list stands.
-/
import Derived.Test.YtcbiiioglklpoaaDoorSkV5
import Derived.Test.YtcbiiioglklpoaaDoorSkS1
namespace Go.Proofs.YtcbiiioglklpoaaDoor
open Go.RowKit

attribute [local go_sem] Oper.semAt_some

section
variable {w : World} {base seed s c h mb N : Nat} {ns : List Nd} {S : Nat → Nat → Value} {g : List UInt8 → Option Nat} {sz : Nat} {L : List Mb}

set_option maxRecDepth 100000 in
set_option maxHeartbeats 4000000 in
theorem from_mk3 (p : Option Addr) (rank : Int) (w : World) : Calls Tryd.prog 54 #[.pointer p, .int .i64 rank, .bool true] w fun e w' =>
    e = .returned (.func (.func 73) #[] #[.pointer (some ⟨w.heap.size, 0, none⟩), .pointer (some ⟨w.heap.size + 1, 0, none⟩), .pointer (some ⟨w.heap.size + 3, 0, none⟩), .pointer (some ⟨w.heap.size + 2, 0, none⟩)]) ∧
      (w'.cell? ⟨w.heap.size, 0, none⟩ = some (.pointer p) ∧ w'.cell? ⟨w.heap.size + 1, 0, none⟩ = some (.int .i64 rank) ∧ w'.cell? ⟨w.heap.size + 2, 0, none⟩ = some (.int .i64 (-1)) ∧ w'.cell? ⟨w.heap.size + 3, 0, none⟩ = some (.func (.func 72) #[] #[])) ∧ Below w.heap.size w w' ∧ w'.heap.size = w.heap.size + 4 := by
  have hmf : ∀ (fn : Fn) (first cap : Array Value) (w : World), (Instr.makeFunc fn first cap).run Tryd.prog w = .ok (.func fn first cap) w := fun _ _ _ _ => rfl
  have hst : ∀ (a : Addr) (X : World), (store a (.func (.func 71) #[] #[])).run Tryd.prog X = stored Tryd.prog X a (.func (.func 71) #[] #[]) .plain := fun a X => run_store Tryd.prog X a _ _ rfl
  have hst2 : ∀ (a : Addr) (X : World), (store a (.func (.func 72) #[] #[])).run Tryd.prog X = stored Tryd.prog X a (.func (.func 72) #[] #[]) .plain := fun a X => run_store Tryd.prog X a _ _ rfl
  go_enter Tryd.func54, Tryd.ntmps54
  go_wp2
  go_ret
  exact ⟨rfl, ⟨by simp [go_sem], by simp [go_sem], by simp [go_sem], by simp [go_sem]⟩, by repeat first | exact Below.refl _ _ | refine Below.setCell ?_ (by first | (simp; omega) | simp) _ | refine Below.alloc ?_ (by first | (simp; omega) | simp) _, by simp⟩

/-- The node ahead of a node. -/
theorem from2_any {X : World} {lv : Mb → Nat} (ch : ChOn lv X h ns S) {i : Nat} {x : Nd} (hx : ns[i]? = some x) :
    Calls Tryd.prog 72 #[.pointer (some ⟨x.1, 0, none⟩)] X fun e w' => e = .returned (nodeAt ns ((i : Int) - 1)) ∧ w' = X := by
  have q5 : X.cell? ⟨x.1, 2, none⟩ = some (nodeAt ns ((i : Int) - 1)) := by
    rw [(ch.row x.1 (BlkAt.succ hx).mem).cell (i := 2) (by omega), ch.back i x hx]
    unfold backOf nodeAt
    by_cases h0 : i = 0
    · rw [if_pos h0, if_neg (by omega)]; rfl
    · rw [if_neg h0, if_pos (by omega), show ((i : Int) - 1).toNat = i - 1 from by omega]
  obtain ⟨V, hV⟩ : ∃ V, nodeAt ns ((i : Int) - 1) = V := ⟨_, rfl⟩
  obtain ⟨p, hp⟩ : ∃ p, V = .pointer p := by rw [← hV]; exact nodeAt_ptr _ _
  rw [hV] at q5 ⊢
  subst hp
  clear ch hV hx
  go_enter Tryd.func72, Tryd.ntmps72
  go_wp2
  go_ret
  exact ⟨rfl, rfl⟩

theorem enter_f1 (args : Array Value) (w : World) : (callFunc 71 args).run Tryd.prog w = .ok (.enter 71 args) w := enters_of Tryd.func71 (by kernel_rfl) rfl args w
theorem enter_f2 (args : Array Value) (w : World) : (callFunc 72 args).run Tryd.prog w = .ok (.enter 72 args) w := enters_of Tryd.func72 (by kernel_rfl) rfl args w
theorem enter_l1 (args : Array Value) (w : World) : (callFunc 60 args).run Tryd.prog w = .ok (.enter 60 args) w := enters_of Tryd.func60 (by kernel_rfl) rfl args w

theorem nodeAt_some {ns : List Nd} {r : Int} {x : Nd} (h0 : 0 ≤ r) (hx : ns[r.toNat]? = some x) : nodeAt ns r = .pointer (some ⟨x.1, 0, none⟩) := by
  unfold nodeAt
  rw [if_pos h0, hx]
  rfl
theorem nodeAt_none {ns : List Nd} {r : Int} (h : ¬ (0 ≤ r ∧ r < ns.length)) : nodeAt ns r = .pointer none := by
  unfold nodeAt
  split
  · rw [List.getElem?_eq_none (by omega)]; rfl
  · rfl

set_option maxRecDepth 100000 in
set_option maxHeartbeats 16000000 in
theorem from3_any {W : World} {b0 b1 b2 b3 T gY fnx : Nat} {lb : Array Value} {rank D : Int} {back : Bool} (k : LsAt W base seed s c h mb N ns S g sz L) (hL : L.length ≤ 900000) (hb : ∀ x ∈ L, x.1.length ≤ 1000000000) (hT : W.heap.size = T)
    (eY : ∀ args w, (callFunc gY args).run Tryd.prog w = .ok (.enter gY args) w) (eN : ∀ args w, (callFunc fnx args).run Tryd.prog w = .ok (.enter fnx args) w)
    (hN : ∀ (X : World) (i : Nat) (x : Nd), ChOn (lvS seed) X h ns S → ns[i]? = some x → Calls Tryd.prog fnx #[.pointer (some ⟨x.1, 0, none⟩)] X fun e w' => e = .returned (nodeAt ns ((i : Int) + D)) ∧ w' = X)
    (hD : D = if back then -1 else 1)
    (h0 : W.cell? ⟨b0, 0, none⟩ = some (.pointer (some ⟨s, 0, none⟩))) (h1 : W.cell? ⟨b1, 0, none⟩ = some (.int .i64 rank)) (h2 : W.cell? ⟨b2, 0, none⟩ = some (.func (.func fnx) #[] #[])) (h3 : W.cell? ⟨b3, 0, none⟩ = some (.int .i64 D))
    (e1 : c < b1) (e2 : c < b2) (e3 : c < b3) (J : Nat → World → Prop) (hJ : ∀ i X X', J i X → X.grownBy X' (some c) → J i X')
    (hY : ∀ (i : Nat) (x : Mb) (X : World), i < cntV L.length rank back → L[(plV rank back i).toNat]? = some x → J i X → T < X.heap.size → Calls Tryd.prog gY (#[.int .i64 (plV rank back i), mbV x] ++ lb) X fun e X' => e = .returned (.bool true) ∧ J (i + 1) X' ∧ (∀ j, KeS c h mb ns T b2 b3 j → X'.heap[j]? = X.heap[j]?) ∧ X.heap.size ≤ X'.heap.size)
    (hJ0 : J 0 W) :
    Calls Tryd.prog 73 #[.func (.func gY) #[] lb, .pointer (some ⟨b0, 0, none⟩), .pointer (some ⟨b1, 0, none⟩), .pointer (some ⟨b2, 0, none⟩), .pointer (some ⟨b3, 0, none⟩)] W fun e W2 => e = .returned (.tuple #[]) ∧ J (cntV L.length rank back) W2 ∧ W2.heap[c]? = W.heap[c]? ∧ W.heap.size ≤ W2.heap.size := by
  have hmf : ∀ (fn : Fn) (first cap : Array Value) (w : World), (Instr.makeFunc fn first cap).run Tryd.prog w = .ok (.func fn first cap) w := fun _ _ _ _ => rfl
  have hlc : c < W.heap.size := k.ck.blk.lt
  have hlb : b1 < W.heap.size := World.block_lt_of_cell? W _ h1
  have hcb : c ≠ b1 := by omega
  have g3 := k.ck.blk.cell (i := 3) (by omega)
  rw [show ckF seed h mb 0 3 = .int .i64 0 from rfl] at g3
  have f3 := k.ck.blk.frozen 3
  obtain ⟨w3, hw3⟩ : ∃ w3, (W.setCell ⟨c, 3, none⟩ (.int .i64 1)).alloc (.cells #[.pointer (some ⟨c, 0, none⟩)] 71) = w3 := ⟨_, rfl⟩
  have s3 : w3.heap.size = T + 1 := by rw [← hw3, World.size_alloc, World.size_setCell, hT]
  have k1 : w3.rowIs c 95 4 (fun j => if j = 3 then .int .i64 1 else ckF seed h mb 0 j) := by rw [← hw3]; exact (k.ck.blk.set 3 (.int .i64 1)).alloc _
  have o3 : ∀ j, j ≠ c → j < T → w3.heap[j]? = W.heap[j]? := fun j hj hlt => by
    rw [← hw3]
    exact (Below.heap_alloc _ _ _ (by rw [World.size_setCell, hT]; exact hlt)).trans (Below.heap_setCell _ _ _ _ hj)
  have k2 : ChOn (lvS seed) w3 h ns S := k.ck.ch.keep (fun b hb => o3 b (fun e => k.ck.nec (e ▸ hb)) (by rw [← hT]; exact k.ck.ch.lt hb))
  have hT3 : w3.cell? ⟨T, 0, none⟩ = some (.pointer (some ⟨c, 0, none⟩)) := by
    rw [← hw3]
    have q := heap_alloc_new (W.setCell ⟨c, 3, none⟩ (.int .i64 1)) (.cells #[.pointer (some ⟨c, 0, none⟩)] 71)
    rw [World.size_setCell, hT] at q
    simp only [World.cell?, q]
    rfl
  have hg3 : W.grownBy w3 (some c) := ⟨by rw [← hw3]; rfl, by rw [← hw3]; rfl, by rw [← hw3]; rfl, by omega, fun j hj hne => o3 j (fun e => hne (by rw [e])) (by omega)⟩
  have hat := at_any rank w3 (lvS_pos seed) (by rw [k.len]; omega) (k1.cell (i := 1) (by omega)) k2
  have HR := Lib.hid (lread_any k.hd)
  have HAT : Hid (Calls Tryd.prog 58 #[.pointer (some ⟨c, 0, none⟩), .int .i64 rank] ((W.setCell ⟨c, 3, none⟩ (.int .i64 1)).alloc (.cells #[.pointer (some ⟨c, 0, none⟩)] 71)) fun e w' => e = .returned (nodeAt ns rank) ∧ Below w3.heap.size w3 w') := by unfold Hid; rw [hw3]; exact hat
  have hc2 : w3.cell? ⟨b2, 0, none⟩ = some (.func (.func fnx) #[] #[]) := (World.cell?_of_block (a := ⟨b2, 0, none⟩) (o3 b2 (by omega) (by have := World.block_lt_of_cell? W _ h2; rw [← hT]; exact this))).trans h2
  have hc3 : w3.cell? ⟨b3, 0, none⟩ = some (.int .i64 D) := (World.cell?_of_block (a := ⟨b3, 0, none⟩) (o3 b3 (by omega) (by have := World.block_lt_of_cell? W _ h3; rw [← hT]; exact this))).trans h3
  have HK := Lib.hid k
  have HK1 := Lib.hid k1
  have HK2 := Lib.hid k2
  have HT3 := Lib.hid hT3
  have HC2 := Lib.hid hc2
  have HC3 := Lib.hid hc3
  have HS3 := Lib.hid s3
  have HO3 := Lib.hid o3
  have HJ := Lib.hid hJ
  have HY := Lib.hid hY
  have HN := Lib.hid hN
  have HD := Lib.hid hD
  have HJ3 := Lib.hid (hJ 0 W w3 hJ0 hg3)
  have HBS := Lib.hid hb
  have HTT := Lib.hid hT
  have HLEN := Lib.hid k.len
  have HLL := Lib.hid hL
  have E2 := Lib.hid e2
  have E3 := Lib.hid e3
  clear hT k k1 k2 hT3 hc2 hc3 s3 o3 hJ hY hJ0 hg3 hat hb h2 h3 e1 e2 e3 hw3 hN hD
  go_enter_defers Tryd.func73, Tryd.ntmps73
  go_wp2_with fail
  refine HR.out.mono ?_
  rintro e w1 ⟨rfl, rfl⟩
  go_wp2_with fail
  refine HAT.out.mono ?_
  rintro e w4 ⟨rfl, hb4⟩
  rw [HTT.out]
  have HB4 := Lib.hid hb4
  have HJ4 := Lib.hid (HJ.out 0 w3 w4 HJ3.out ⟨hb4.os, hb4.tape, hb4.output, hb4.size, fun j hj _ => hb4.block j hj⟩)
  have HS4 : Hid (T < w4.heap.size) := by have q := hb4.size; have := HS3.out; unfold Hid; omega
  have HCH : Hid (∀ X : World, (∀ j, KeS c h mb ns T b2 b3 j → X.heap[j]? = w4.heap[j]?) → ChOn (lvS seed) X h ns S ∧ X.rowIs c 95 4 (fun j => if j = 3 then .int .i64 1 else ckF seed h mb 0 j) ∧ X.cell? ⟨T, 0, none⟩ = some (.pointer (some ⟨c, 0, none⟩)) ∧ X.cell? ⟨b2, 0, none⟩ = some (.func (.func fnx) #[] #[]) ∧ X.cell? ⟨b3, 0, none⟩ = some (.int .i64 D)) := fun X hX =>
    ⟨(HK2.out.below HB4.out).keep (fun b hb => hX b (Or.inr (Or.inr (Or.inr (Or.inr (Or.inr hb)))))), (HK1.out.of_block (HB4.out.block c HK1.out.lt)).of_block (hX c (Or.inr (Or.inr (Or.inr (Or.inl rfl))))),
      (World.cell?_of_block (a := ⟨T, 0, none⟩) ((hX T (Or.inl rfl)).trans (HB4.out.block T (by have := HS3.out; omega)))).trans HT3.out,
      (World.cell?_of_block (a := ⟨b2, 0, none⟩) ((hX b2 (Or.inr (Or.inl rfl))).trans (HB4.out.block b2 (World.block_lt_of_cell? w3 _ HC2.out)))).trans HC2.out,
      (World.cell?_of_block (a := ⟨b3, 0, none⟩) ((hX b3 (Or.inr (Or.inr (Or.inl rfl)))).trans (HB4.out.block b3 (World.block_lt_of_cell? w3 _ HC3.out)))).trans HC3.out⟩
  have HLT : Hid (∀ j, KeS c h mb ns T b2 b3 j → j < w4.heap.size) := fun j hj => by
    have q4 := hb4.size
    have q3 := HS3.out
    rcases hj with rfl | rfl | rfl | hj
    · omega
    · have := World.block_lt_of_cell? w3 _ HC2.out; have : j < w3.heap.size := this; omega
    · have := World.block_lt_of_cell? w3 _ HC3.out; have : j < w3.heap.size := this; omega
    · have := HK.out.ck.lt hj; have := HTT.out; omega
  clear h0 h1 g3 f3 hlc hlb hcb hb4
  go_wp2
  go_loopw [7, 8] (fun a x wr => ∃ i : Nat, i ≤ cntV L.length rank back ∧ a = .int .i64 (plV rank back i) ∧ x = nodeAt ns (plV rank back i) ∧ J i wr ∧ (∀ j, KeS c h mb ns T b2 b3 j → wr.heap[j]? = w4.heap[j]?) ∧ T < wr.heap.size) (fun a _ _ => if back then (intOf a + 1).toNat else ((L.length : Int) - intOf a).toNat)
  case atStart => exact ⟨0, Nat.zero_le _, by rw [plV_zero], by rw [plV_zero], HJ4.out, fun _ _ => rfl, HS4.out⟩
  case round =>
    obtain ⟨i, hi, rfl, rfl, hJi, hKi, hTi⟩ := hrel
    have HJi := Lib.hid hJi
    have HKi := Lib.hid hKi
    have HTi := Lib.hid hTi
    have HPL := Lib.hid (plV_iff hi)
    have HPS := Lib.hid (plV_succ rank back i)
    obtain ⟨p, hp⟩ : ∃ p, plV rank back i = p := ⟨_, rfl⟩
    have HP := Lib.hid hp
    rw [hp] at HPL HPS ⊢
    by_cases hlt : i < cntV L.length rank back
    · obtain ⟨p0, p1⟩ := HPL.out.2 hlt
      obtain ⟨m, hm⟩ : ∃ m, L[p.toNat]? = some m := ⟨_, List.getElem?_eq_getElem (by omega)⟩
      obtain ⟨x, hx, hxm⟩ := HK.out.node hm
      subst hxm
      have hnd : nodeAt ns p = .pointer (some ⟨x.1, 0, none⟩) := nodeAt_some p0 hx
      obtain ⟨ch, _⟩ := HCH.out wr hKi
      obtain ⟨y0, y1⟩ := ch.cells hx
      have HCP := Lib.hid (fun X => copied_any ⟨x.2.1.toArray⟩ x.2.2 X (by have := HBS.out x.2 (List.mem_of_getElem? hm); show x.2.1.toArray.size ≤ _; simp; omega))
      have HYI := Lib.hid (fun X (h1 : J i X) (h2 : T < X.heap.size) => HY.out i x.2 X hlt (by rw [hp]; exact hm) h1 h2)
      unfold mbV at HYI
      rw [hp] at HYI
      have HX := Lib.hid hx
      have HNX := Lib.hid (fun X (hX : ChOn (lvS seed) X h ns S) => HN.out X p.toNat x hX hx)
      rw [show ((p.toNat : Nat) : Int) + D = plV rank back (i + 1) from by have := HPS.out; have := HD.out; rw [this] ; omega] at HNX
      have hwr : IntKind.i64.wrap (p + D) = plV rank back (i + 1) := by
        have q1 := HPS.out
        have q2 := HD.out
        have q3 := HLL.out
        rw [← q2] at q1
        rw [q1, IntWalk.i64_in _ (by rw [q2]; split <;> omega)]
      obtain ⟨TT, hTT⟩ : ∃ T : ByteArray, (⟨x.2.1.toArray⟩ : ByteArray) = T := ⟨_, rfl⟩
      obtain ⟨Z, hZ⟩ : ∃ Z, x.2.2 = Z := ⟨_, rfl⟩
      rw [hTT] at y0 HCP HYI
      rw [hZ] at y1 HCP HYI
      rw [hnd]
      have HLT2 := Lib.hid hlt
      have HP01 := Lib.hid (And.intro p0 p1)
      clear hnd hJi hKi hTi hm hx ch hTT hZ hp hlt p0 p1
      go_wp2_with fail
      refine (HCP.out _).mono ?_
      rintro e w5 ⟨rfl, hb5⟩
      have HJ5 := Lib.hid (HJ.out i wr w5 HJi.out ⟨hb5.os, hb5.tape, hb5.output, hb5.size, fun j hj _ => hb5.block j hj⟩)
      have HB5 := Lib.hid hb5
      have HTL : Hid (T < w5.heap.size) := by have q := HTi.out; have := hb5.size; unfold Hid; omega
      clear hb5
      go_wp2_with fail
      refine (HYI.out w5 HJ5.out HTL.out).mono ?_
      rintro e w6 ⟨rfl, hJ6, hk6, hs6⟩
      have HK6 : Hid (∀ j, KeS c h mb ns T b2 b3 j → w6.heap[j]? = w4.heap[j]?) := fun j hj => (hk6 j hj).trans ((HB5.out.block j (Array.getElem?_eq_some_iff.1 ((HKi.out j hj).trans (Array.getElem?_eq_getElem (HLT.out j hj)))).1).trans (HKi.out j hj))
      have HJ6 := Lib.hid hJ6
      have HS6 : Hid (T < w6.heap.size) := by have q := HTL.out; unfold Hid; omega
      obtain ⟨ch6, _, _, d2, d3⟩ := HCH.out w6 HK6.out
      have HF1 := Lib.hid (HNX.out w6 ch6)
      clear hJ6 hk6 hs6 ch6 y0 y1
      go_wp2_with fail
      refine HF1.out.mono ?_
      rintro e w7 ⟨rfl, hw7⟩
      rw [hw7]
      clear hw7
      go_wp2
      go_roundw
      case rel => exact ⟨i + 1, HLT2.out, rfl, rfl, HJ6.out, HK6.out, HS6.out⟩
      case measure =>
        have q1 := HPS.out
        have q2 := HP01.out
        simp only [intOf]
        rw [q1]
        cases back <;> simp <;> omega
    · have hnd : nodeAt ns p = .pointer none := nodeAt_none (fun e => hlt (HPL.out.1 ⟨e.1, by rw [← HLEN.out]; exact e.2⟩))
      obtain rfl : i = cntV L.length rank back := by omega
      obtain ⟨_, hr1, hT1, _, _⟩ := HCH.out wr hKi
      rw [hnd]
      clear hnd hJi hKi hTi hp hlt
      go_wp2
      refine leaves_cons (f := 74) (args := #[.pointer (some ⟨T, 0, none⟩)]) (by simp) (by simp [go_sem]) ?_
      refine (from31_any wr hT1 (hr1.cell (i := 3) (by omega)) (hr1.frozen 3)).mono ?_
      rintro e u' w'' ⟨rfl, rfl, rfl⟩
      simp [Leaves, settle, results, Tryd.results73, go_sem]
      refine ⟨HJ.out _ _ _ HJi.out ⟨rfl, rfl, rfl, by rw [World.size_setCell]; exact Nat.le_refl _, fun j _ hne => Below.heap_setCell _ _ _ _ (fun e => hne (by rw [e]))⟩, row_same (hr1.set 3 (.int .i64 0)) HK.out.ck.blk (fun j hj => ?_), ?_⟩
      · by_cases e : j = 3
        · rw [if_pos e, e]; rfl
        · rw [if_neg e, if_neg e]
      · have := HTi.out; have := HTT.out; omega

end

end Go.Proofs.YtcbiiioglklpoaaDoor
