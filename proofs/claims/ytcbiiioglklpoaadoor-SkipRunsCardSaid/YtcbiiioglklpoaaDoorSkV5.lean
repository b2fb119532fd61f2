/-
  Package skip: what From of a list that stands tells in a range. Conditions: the list stands. A range over a function whose rounds always go on and lay memory ahead of their body; All of a list that stands. Conditions: as typed. Package skip: All of a list that stands: its walk. Conditions: the list stands.
-/
import Derived.Test.YtcbiiioglklpoaaDoorSkV4
import Derived.RangeFuncRecord
namespace Go.Proofs.YtcbiiioglklpoaaDoor
open Go.RowKit

attribute [local go_sem] Oper.semAt_some

section
variable {w : World} {base seed s c h mb N : Nat} {ns : List Nd} {S : Nat → Nat → Value} {g : List UInt8 → Option Nat} {sz : Nat} {L : List Mb}

set_option maxRecDepth 100000 in
set_option maxHeartbeats 4000000 in
theorem from31_in {n : Nat} {u : FrameMode} {B c : Nat} (w : World) (hB : w.cell? ⟨B, 0, none⟩ = some (.pointer (some ⟨c, 0, none⟩))) (hc : w.cell? ⟨c, 3, none⟩ = some (.int .i64 1)) (hf : w.frozen? ⟨c, 3, none⟩ = false) :
    CallsDIn Fence.wide n Tryd.prog 74 #[.pointer (some ⟨B, 0, none⟩)] u w fun e u' w' => u' = u ∧ (e = .returned (.tuple #[]) ∧ w' = w.setCell ⟨c, 3, none⟩ (.int .i64 0)) := by
  refine callsDIn_of_wp Tryd.func74 rfl trivial ?_ rfl
  simp only [Tryd.ntmps74, List.size_toArray, List.length_cons, List.length_nil, Nat.reduceAdd, Nat.reduceSub, Array.replicate_succ, Array.replicate_zero, List.push_toArray, List.append_toArray, List.nil_append, List.cons_append]
  gi_wp2
  go_end0
  exact ⟨rfl, rfl⟩

theorem row_same {X Y : World} {b n : Nat} {t : TypeId} {f f' : Nat → Value} (h : X.rowIs b t n f) (k : Y.rowIs b t n f') (e : ∀ i, i < n → f i = f' i) : X.heap[b]? = Y.heap[b]? := by
  obtain ⟨c1, h1, n1, g1⟩ := h
  obtain ⟨c2, h2, n2, g2⟩ := k
  have : c1 = c2 := Array.ext (by omega) (fun i l1 l2 => by
    have q1 := g1 i (by omega)
    have q2 := g2 i (by omega)
    rw [Array.getElem?_eq_getElem l1] at q1
    rw [Array.getElem?_eq_getElem l2] at q2
    injection q1 with q1
    injection q2 with q2
    rw [q1, q2, e i (by omega)])
  rw [h1, h2, this]

/-- What a round keeps: the chain, From's own boxes, the closure's own cell. -/
def KeS (c h mb : Nat) (ns : List Nd) (T b2 b3 k : Nat) : Prop := k = T ∨ k = b2 ∨ k = b3 ∨ CkF c h mb ns k

set_option maxRecDepth 100000 in
set_option maxHeartbeats 16000000 in
theorem from3_in (n l : Nat) (hn : 2 ≤ n) {W : World} {b0 b1 b2 b3 T : Nat} (k : LsAt W base seed s c h mb N ns S g sz L) (hL : L.length ≤ 900000) (hb : ∀ x ∈ L, x.1.length ≤ 1000000000) (hT : W.heap.size = T)
    (h0 : W.cell? ⟨b0, 0, none⟩ = some (.pointer (some ⟨s, 0, none⟩))) (h1 : W.cell? ⟨b1, 0, none⟩ = some (.int .i64 0)) (h2 : W.cell? ⟨b2, 0, none⟩ = some (.func (.func 71) #[] #[])) (h3 : W.cell? ⟨b3, 0, none⟩ = some (.int .i64 1))
    (e1 : c < b1) (e2 : c < b2) (e3 : c < b3) (J : Nat → World → Prop) (hJ : ∀ i X X', J i X → X.grownBy X' (some c) → J i X')
    (hY : ∀ (i : Nat) (x : Mb) (X : World), L[i]? = some x → J i X → T < X.heap.size → YieldAt Fence.wide (n - 1) Tryd.prog l #[.int .i64 (i : Nat), mbV x] X fun e X' => e = .returned (.bool true) ∧ J (i + 1) X' ∧ (∀ j, KeS c h mb ns T b2 b3 j → X'.heap[j]? = X.heap[j]?) ∧ X.heap.size ≤ X'.heap.size)
    (hJ0 : J 0 W) :
    CallsIn Fence.wide n Tryd.prog 73 #[.func (.yield l) #[] #[], .pointer (some ⟨b0, 0, none⟩), .pointer (some ⟨b1, 0, none⟩), .pointer (some ⟨b2, 0, none⟩), .pointer (some ⟨b3, 0, none⟩)] W fun e W2 => e = .returned (.tuple #[]) ∧ J L.length W2 ∧ W2.heap[c]? = W.heap[c]? := by
  have hmf : ∀ (fn : Fn) (first cap : Array Value) (w : World), (Instr.makeFunc fn first cap).run Tryd.prog w = .ok (.func fn first cap) w := fun _ _ _ _ => rfl
  have hlc : c < W.heap.size := k.ck.blk.lt
  have hlb : b1 < W.heap.size := World.block_lt_of_cell? W _ h1
  have hcb : c ≠ b1 := by omega
  have g3 := k.ck.blk.cell (i := 3) (by omega)
  rw [show ckF seed h mb 0 3 = .int .i64 0 from rfl] at g3
  have f3 := k.ck.blk.frozen 3
  obtain ⟨w3, hw3⟩ : ∃ w3, (W.setCell ⟨c, 3, none⟩ (.int .i64 1)).alloc (.cells #[.pointer (some ⟨c, 0, none⟩)] 71) = w3 := ⟨_, rfl⟩
  have s3 : w3.heap.size = T + 1 := by rw [← hw3, World.size_alloc, World.size_setCell, hT]
  have k1 : w3.rowIs c 95 4 (fun j => if j = 3 then .int .i64 1 else ckF seed h mb 0 j) := by rw [← hw3]; exact (k.ck.blk.set 3 (.int .i64 1)).alloc _
  have o3 : ∀ j, j ≠ c → j < T → w3.heap[j]? = W.heap[j]? := fun j hj hlt => by
    rw [← hw3]
    exact (Below.heap_alloc _ _ _ (by rw [World.size_setCell, hT]; exact hlt)).trans (Below.heap_setCell _ _ _ _ hj)
  have k2 : ChOn (lvS seed) w3 h ns S := k.ck.ch.keep (fun b hb => o3 b (fun e => k.ck.nec (e ▸ hb)) (by rw [← hT]; exact k.ck.ch.lt hb))
  have hT3 : w3.cell? ⟨T, 0, none⟩ = some (.pointer (some ⟨c, 0, none⟩)) := by
    rw [← hw3]
    have q := heap_alloc_new (W.setCell ⟨c, 3, none⟩ (.int .i64 1)) (.cells #[.pointer (some ⟨c, 0, none⟩)] 71)
    rw [World.size_setCell, hT] at q
    simp only [World.cell?, q]
    rfl
  have hg3 : W.grownBy w3 (some c) := ⟨by rw [← hw3]; rfl, by rw [← hw3]; rfl, by rw [← hw3]; rfl, by omega, fun j hj hne => o3 j (fun e => hne (by rw [e])) (by omega)⟩
  have hat := at_any 0 w3 (lvS_pos seed) (by rw [k.len]; omega) (k1.cell (i := 1) (by omega)) k2
  have HR := Lib.hid (lread_any k.hd)
  have HAT : Hid (Calls Tryd.prog 58 #[.pointer (some ⟨c, 0, none⟩), .int .i64 0] ((W.setCell ⟨c, 3, none⟩ (.int .i64 1)).alloc (.cells #[.pointer (some ⟨c, 0, none⟩)] 71)) fun e w' => e = .returned (nodeAt ns 0) ∧ Below w3.heap.size w3 w') := by unfold Hid; rw [hw3]; exact hat
  have hc2 : w3.cell? ⟨b2, 0, none⟩ = some (.func (.func 71) #[] #[]) := (World.cell?_of_block (a := ⟨b2, 0, none⟩) (o3 b2 (by omega) (by have := World.block_lt_of_cell? W _ h2; rw [← hT]; exact this))).trans h2
  have hc3 : w3.cell? ⟨b3, 0, none⟩ = some (.int .i64 1) := (World.cell?_of_block (a := ⟨b3, 0, none⟩) (o3 b3 (by omega) (by have := World.block_lt_of_cell? W _ h3; rw [← hT]; exact this))).trans h3
  have HK := Lib.hid k
  have HK1 := Lib.hid k1
  have HK2 := Lib.hid k2
  have HT3 := Lib.hid hT3
  have HC2 := Lib.hid hc2
  have HC3 := Lib.hid hc3
  have HS3 := Lib.hid s3
  have HO3 := Lib.hid o3
  have HJ := Lib.hid hJ
  have HY := Lib.hid hY
  have HJ3 := Lib.hid (hJ 0 W w3 hJ0 hg3)
  have HBS := Lib.hid hb
  have HTT := Lib.hid hT
  have HLEN := Lib.hid k.len
  have hn1 : 1 ≤ n := by omega
  have E2 := Lib.hid e2
  have E3 := Lib.hid e3
  clear hT k k1 k2 hT3 hc2 hc3 s3 o3 hJ hY hJ0 hg3 hat hb h2 h3 e1 e2 e3 hw3
  refine callsIn_of_wp_defers Tryd.func73 rfl trivial ?_ rfl
  simp only [Tryd.ntmps73, List.size_toArray, List.length_cons, List.length_nil, Nat.reduceAdd, Nat.reduceSub, Array.replicate_succ, Array.replicate_zero, List.push_toArray, List.append_toArray, List.nil_append, List.cons_append]
  gi_wp2_with (first | (refine ⟨trivial, ?_⟩; gi_at_call 50; refine (callsIn_wide.2 HR.out).mono ?_; rintro e w1 ⟨rfl, rfl⟩) | (refine ⟨trivial, ?_⟩; gi_at_call 58; refine (callsIn_wide.2 HAT.out).mono ?_; rintro e w4 ⟨rfl, hb4⟩))
  rw [HTT.out]
  have HB4 := Lib.hid hb4
  have HJ4 := Lib.hid (HJ.out 0 w3 w4 HJ3.out ⟨hb4.os, hb4.tape, hb4.output, hb4.size, fun j hj _ => hb4.block j hj⟩)
  have HS4 : Hid (T < w4.heap.size) := by have q := hb4.size; have := HS3.out; unfold Hid; omega
  have HCH : Hid (∀ X : World, (∀ j, KeS c h mb ns T b2 b3 j → X.heap[j]? = w4.heap[j]?) → ChOn (lvS seed) X h ns S ∧ X.rowIs c 95 4 (fun j => if j = 3 then .int .i64 1 else ckF seed h mb 0 j) ∧ X.cell? ⟨T, 0, none⟩ = some (.pointer (some ⟨c, 0, none⟩)) ∧ X.cell? ⟨b2, 0, none⟩ = some (.func (.func 71) #[] #[]) ∧ X.cell? ⟨b3, 0, none⟩ = some (.int .i64 1)) := fun X hX =>
    ⟨(HK2.out.below HB4.out).keep (fun b hb => hX b (Or.inr (Or.inr (Or.inr (Or.inr (Or.inr hb)))))), (HK1.out.of_block (HB4.out.block c HK1.out.lt)).of_block (hX c (Or.inr (Or.inr (Or.inr (Or.inl rfl))))),
      (World.cell?_of_block (a := ⟨T, 0, none⟩) ((hX T (Or.inl rfl)).trans (HB4.out.block T (by have := HS3.out; omega)))).trans HT3.out,
      (World.cell?_of_block (a := ⟨b2, 0, none⟩) ((hX b2 (Or.inr (Or.inl rfl))).trans (HB4.out.block b2 (World.block_lt_of_cell? w3 _ HC2.out)))).trans HC2.out,
      (World.cell?_of_block (a := ⟨b3, 0, none⟩) ((hX b3 (Or.inr (Or.inr (Or.inl rfl)))).trans (HB4.out.block b3 (World.block_lt_of_cell? w3 _ HC3.out)))).trans HC3.out⟩
  have HLT : Hid (∀ j, KeS c h mb ns T b2 b3 j → j < w4.heap.size) := fun j hj => by
    have q4 := hb4.size
    have q3 := HS3.out
    rcases hj with rfl | rfl | rfl | hj
    · omega
    · have := World.block_lt_of_cell? w3 _ HC2.out; have : j < w3.heap.size := this; omega
    · have := World.block_lt_of_cell? w3 _ HC3.out; have : j < w3.heap.size := this; omega
    · have := HK.out.ck.lt hj; have := HTT.out; omega
  clear h0 h1 g3 f3 hlc hlb hcb hb4
  gi_loopw [7, 8] (fun a x wr => ∃ i : Nat, i ≤ L.length ∧ a = .int .i64 i ∧ x = nodeAt ns i ∧ J i wr ∧ (∀ j, KeS c h mb ns T b2 b3 j → wr.heap[j]? = w4.heap[j]?) ∧ T < wr.heap.size) (fun a _ _ => L.length - (intOf a).toNat)
  case atStart => exact ⟨0, Nat.zero_le _, rfl, rfl, HJ4.out, fun _ _ => rfl, HS4.out⟩
  case round =>
    obtain ⟨i, hi, rfl, rfl, hJi, hKi, hTi⟩ := hrel
    have HJi := Lib.hid hJi
    have HKi := Lib.hid hKi
    have HTi := Lib.hid hTi
    by_cases hlt : i < L.length
    · obtain ⟨m, hm⟩ : ∃ m, L[i]? = some m := ⟨_, List.getElem?_eq_getElem hlt⟩
      obtain ⟨x, hx, hxm⟩ := HK.out.node hm
      subst hxm
      have hnd : nodeAt ns (i : Int) = .pointer (some ⟨x.1, 0, none⟩) := by
        unfold nodeAt
        rw [if_pos (by omega), Int.toNat_natCast, hx]
        rfl
      obtain ⟨ch, _⟩ := HCH.out wr hKi
      obtain ⟨y0, y1⟩ := ch.cells hx
      have HCP := Lib.hid (fun X => copied_any ⟨x.2.1.toArray⟩ x.2.2 X (by have := HBS.out x.2 (List.mem_of_getElem? hm); show x.2.1.toArray.size ≤ _; simp; omega))
      have HYI := Lib.hid (fun X (h1 : J i X) (h2 : T < X.heap.size) => HY.out i x.2 X hm h1 h2)
      unfold mbV at HYI
      have HX := Lib.hid hx
      obtain ⟨TT, hTT⟩ : ∃ T : ByteArray, (⟨x.2.1.toArray⟩ : ByteArray) = T := ⟨_, rfl⟩
      obtain ⟨Z, hZ⟩ : ∃ Z, x.2.2 = Z := ⟨_, rfl⟩
      rw [hTT] at y0 HCP HYI
      rw [hZ] at y1 HCP HYI
      rw [hnd]
      clear hnd hJi hKi hTi hm hx ch hTT hZ
      gi_wp2_with (refine ⟨trivial, ?_⟩; gi_at_call 45; refine (callsIn_wide.2 (HCP.out _)).mono ?_; rintro e w5 ⟨rfl, hb5⟩; have HJ5 := Lib.hid (HJ.out i wr w5 HJi.out ⟨hb5.os, hb5.tape, hb5.output, hb5.size, fun j hj _ => hb5.block j hj⟩); have HB5 := Lib.hid hb5; obtain ⟨fn, tmps, assign, body, hy, hR⟩ := HYI.out w5 HJ5.out (by have q := HTi.out; have := hb5.size; omega); have HR := Lib.hid hR; clear hR hb5)
      refine HR.out.mono ?_
      rintro e w6 ⟨rfl, hJ6, hk6, hs6⟩
      have HK6 : Hid (∀ j, KeS c h mb ns T b2 b3 j → w6.heap[j]? = w4.heap[j]?) := fun j hj => (hk6 j hj).trans ((HB5.out.block j (Array.getElem?_eq_some_iff.1 ((HKi.out j hj).trans (Array.getElem?_eq_getElem (HLT.out j hj)))).1).trans (HKi.out j hj))
      have HJ6 := Lib.hid hJ6
      have HS6 : Hid (T < w6.heap.size) := by have q := HTi.out; have := HB5.out.size; unfold Hid; omega
      obtain ⟨ch6, _, _, d2, d3⟩ := HCH.out w6 HK6.out
      have HF1 := Lib.hid (from1_any ch6 (lvS_pos seed) HX.out)
      clear hJ6 hk6 hs6 ch6 y0 y1
      gi_wp2_with (refine ⟨trivial, ?_⟩; gi_at_call 71; refine (callsIn_wide.2 HF1.out).mono ?_; rintro e w7 ⟨rfl, hw7⟩; rw [hw7]; clear hw7)
      go_roundw
      case rel => exact ⟨i + 1, hlt, by go_num, rfl, HJ6.out, HK6.out, HS6.out⟩
      case measure => simp only [intOf]; omega
    · obtain rfl : i = L.length := by omega
      have hnd : nodeAt ns (L.length : Int) = .pointer none := by
        unfold nodeAt
        rw [if_pos (by omega), Int.toNat_natCast, List.getElem?_eq_none (by rw [HLEN.out]; exact Nat.le_refl _)]
        rfl
      obtain ⟨_, hr1, hT1, _, _⟩ := HCH.out wr hKi
      rw [hnd]
      clear hnd hJi hKi hTi
      gi_wp2_with (first | refine ⟨trivial, ?_⟩ | refine ⟨fun _ _ => trivial, ?_⟩)
      refine leavesIn_cons (f := 74) (args := #[.pointer (some ⟨T, 0, none⟩)]) (by simp) (fun _ => hn1) (by simp [go_sem]) (fun _ _ => trivial) ?_
      refine (from31_in wr hT1 (hr1.cell (i := 3) (by omega)) (hr1.frozen 3)).mono ?_
      rintro e u' w'' ⟨rfl, rfl, rfl⟩
      simp [LeavesIn, settle, results, Tryd.results73, go_sem]
      refine ⟨HJ.out _ _ _ HJi.out ⟨rfl, rfl, rfl, by rw [World.size_setCell]; exact Nat.le_refl _, fun j _ hne => Below.heap_setCell _ _ _ _ (fun e => hne (by rw [e]))⟩, row_same (hr1.set 3 (.int .i64 0)) HK.out.ck.blk (fun j hj => ?_)⟩
      by_cases e : j = 3
      · rw [if_pos e, e]; rfl
      · rw [if_neg e, if_neg e]

end

attribute [local go_sem] Oper.semAt_some

theorem range_on2 {P : Program} {n : Nat} {g : Operand} {ps : Array Tmp} {assign body : Code} {Q : Exit → Act → World → Prop} {a : Act} {w : World} {gf : Nat} {lb : Array Value}
    (hg : a.eval g = .func (.func gf) #[] lb) (eg : ∀ args w, (callFunc gf args).run P w = .ok (.enter gf args) w)
    (h : ∀ (rec : LoopState → Loop) (W1 : World), (∀ st, (rec st).state = st ∧ (rec st).pending = none) → W1.heap.size = w.heap.size + 2 → Below w.heap.size w W1 →
      W1.heap[w.heap.size]? = some (.deferred (some [])) → W1.heap[w.heap.size + 1]? = some (.loop (rec .ready)) →
      (∀ (m : Nat) (args : Array Value) (W W' : World) (R : Ending → World → Prop) (a₁ : Act), args.size = ps.size → W.heap[w.heap.size + 1]? = some (.loop (rec .ready)) → W'.heap[w.heap.size + 1]? = some (.loop (rec .ready)) →
        (∀ K : Act → World → Prop, K a₁ W' → assign.wpIn (Fence.wide.inRound (w.heap.size + 1)) m P (Exit.then K (fun _ _ _ => False)) { tmps := (ps.zip args).foldl (fun t (p, v) => t.setIfInBounds p v) a.tmps, defers := [] } W) →
        body.wpIn (Fence.wide.inRound (w.heap.size + 1)) m P (fun e _ W3 => e = .normal ∧ W3.heap[w.heap.size + 1]? = some (.loop (rec .busy)) ∧ R (.returned (.bool true)) (W3.putObj (w.heap.size + 1) (.loop (rec .ready)))) a₁ (W'.putObj (w.heap.size + 1) (.loop (rec .busy))) →
        YieldAt Fence.wide m P (w.heap.size + 1) args W R) →
      CallsIn Fence.wide n P gf (#[.func (.yield (w.heap.size + 1)) #[] #[]] ++ lb) W1 fun e W2 =>
        (∃ v, e = .returned v ∧ W2.heap[w.heap.size + 1]? = some (.loop (rec .ready)) ∧ Q .normal { a with defers := { target := .collected w.heap.size, args := #[] } :: a.defers } (W2.putObj (w.heap.size + 1) (.loop (rec .exhausted))))) :
    (Code.rangeFunc g ps assign body).wp P Q a w := by
  refine (wpIn_wide (n := n + 1)).1 (wpIn_rangeFunc ?_)
  intro fn _
  obtain ⟨rec, hrec⟩ : ∃ rec : LoopState → Loop, rec = fun st => { state := st, pending := none, fn, tmps := a.tmps, params := ps, assign, body, defers := w.heap.size } := ⟨_, rfl⟩
  obtain ⟨W1, hW1⟩ : ∃ W1, (w.alloc (.deferred (some []))).alloc (.loop (rec .ready)) = W1 := ⟨_, rfl⟩
  have hL : W1.heap[w.heap.size + 1]? = some (.loop (rec .ready)) := by
    rw [← hW1]
    have := World.alloc_heap_new (w.alloc (.deferred (some []))) (.loop (rec .ready))
    rwa [World.size_alloc] at this
  have hD : W1.heap[w.heap.size]? = some (.deferred (some [])) := by
    rw [← hW1]
    exact (Below.heap_alloc _ _ _ (by simp)).trans (World.alloc_heap_new w _)
  have hb : Below w.heap.size w W1 := by
    rw [← hW1]
    exact ((Below.refl _ w).alloc (Nat.le_refl _) _).alloc (by simp) _
  have hz : W1.heap.size = w.heap.size + 2 := by rw [← hW1]; simp
  refine ⟨w.heap.size + 1, [{ target := .collected w.heap.size, args := #[] }], W1, { target := .fn (.func gf) lb, args := #[.func (.yield (w.heap.size + 1)) #[] #[]] }, W1, gf,
    #[.func (.yield (w.heap.size + 1)) #[] #[]] ++ lb, W1, ?_, ?_, fun _ _ => trivial, ?_, fun _ => by omega, ?_⟩
  · rw [← hW1, hrec]
    exact run_enterLoop_outer _ _ _ _ _
  · simp only [resolve, hg]
    simp [go_sem]
  · simp [invoke, go_sem, eg]
  · rw [Nat.add_sub_cancel]
    refine (h rec W1 (fun st => by rw [hrec]; exact ⟨rfl, rfl⟩) hz hb hD hL ?_).mono ?_
    · intro m args W W' R a₁ hs hl hl' hassign hbody
      have hy := run_yield (P := P) (args := args) hl (by rw [hrec]; exact hs)
      rw [hrec] at hy
      refine ⟨fn, _, assign, body, hy, roundIn_of_wpIn trivial (hassign _ ⟨_, run_beginRound hl' (by rw [hrec]), ?_⟩)⟩
      have e1 : ({ rec .ready with state := .busy } : Loop) = rec .busy := by rw [hrec]
      rw [e1]
      refine wpIn_mono hbody ?_
      rintro e a3 W3 ⟨rfl, hl3, hR⟩
      have he := run_endRound (P := P) none hl3
      have e2 : ({ rec .busy with state := .ready, pending := none } : Loop) = rec .ready := by rw [hrec]
      refine ⟨_, _, he, ?_⟩
      simp only [Option.isNone_none, if_true]
      rw [e2]
      exact hR
    · rintro e W2 ⟨v, rfl, hl2, hq⟩
      have he := run_endLoop (P := P) hl2 (by rw [hrec]; simp)
      have e3 : ({ rec .ready with state := .exhausted } : Loop) = rec .exhausted := by rw [hrec]
      rw [e3] at he
      exact ⟨none, _, by rw [hrec] at he ⊢; exact he, hq⟩

section
variable {P : Program} {F : Fence} {nF : Nat} {w : World}
theorem wpListIn_append_own2 {ops : Array Oper} {rest : List Oper} {o : Oper} {a : Act} {Q : Exit → Act → World → Prop} (hgd : o.guard = none) (s x : Operand) (t : TypeId)
    (ho : o.op = .call { callee := .builtin .append, args := #[s, x], argTypes := #[t, t] })
    (base : Nat) (e : TypeId) (i : TypeInfo) (z : Value) (size bytes : Nat) (ht : P.underlying t = some (.slice e)) (hi : P.info? e = some i) (hz : i.zero = some z) (hsize : i.size = size) (hby : i.bytes = bytes) (hzs : z.cells.size = size) (hsz : 0 < size)
    (v : Value) (n : Nat) (xs : List Value) (hs : a.eval s = v) (hown : w.ownsRow base e size v n xs) (ad : Addr) (m c : Nat) (news : List Value) (hx : a.eval x = .slice (some ad) m c) (hl : news.length = m * size) (hnews : ∀ j u, news[j]? = some u → w.cell? (ad.add j) = some u) (h1 : ∀ u ∈ news, u.oneCell' = true)
    (h63 : n + m ≤ maxLen) (hbytes : (n + m) * bytes ≤ 140737488355328) (hbase : base ≤ w.heap.size)
    (h : ∀ v' w', w'.ownsRow base e size v' (n + m) (xs ++ news) → w.grownBy w' v.ownBlock → (v'.ownBlock = v.ownBlock ∨ v'.ownBlock = some w.heap.size) → wpListIn F nF P ops Q rest (a.put o.dst v') w') :
    wpListIn F nF P ops Q (o :: rest) a w := by
  refine wpListIn_plain hgd fun K hK => ?_
  obtain ⟨v', w', hr, h2, h3, _, h5⟩ := run_append_own_at (P := P) w base t o.type e i z size bytes ht hi hz hsize hby hzs hsz v n xs hown ad m c news hl hnews h1 h63 hbytes hbase
  unfold Oper.wpIn
  refine ⟨by simp [Oper.about, ho, resolve, Target.leads, Sem.run_pure], ?_⟩
  rw [Oper.semAt_plain F _ _ (by rw [ho]; intro c hc'; cases hc')]
  simp [execOp, ho, resolve, invoke, builtin, hs, hx, hr, Result.andThen]
  exact hK _ _ (h v' w' h2 h3 h5)
end

theorem grown_trans {a b c : World} {r : Option Nat} (h : a.grownBy b r) (k : b.grownBy c r) : a.grownBy c r :=
  ⟨k.os.trans h.os, k.tape.trans h.tape, k.output.trans h.output, Nat.le_trans h.size k.size, fun j hj hne => (k.block j (Nat.lt_of_lt_of_le hj h.size) hne).trans (h.block j hj hne)⟩
theorem grown_of_below {a b : World} {r : Option Nat} (h : Below a.heap.size a b) : a.grownBy b r := ⟨h.os, h.tape, h.output, h.size, fun j hj _ => h.block j hj⟩

theorem own_block {w w' : World} {base : Nat} {e : TypeId} {size n : Nat} {v : Value} {xs : List Value} (h : w.ownsRow base e size v n xs) (hb : ∀ b, v.ownBlock = some b → w'.heap[b]? = w.heap[b]?) : w'.ownsRow base e size v n xs := by
  refine ⟨h.1, ?_⟩
  rcases h.2 with q | ⟨g, cap, cur, rfl, h1, h2, h3⟩
  · exact Or.inl q
  · exact Or.inr ⟨g, cap, cur, rfl, h1, (hb g rfl).trans h2, h3⟩

theorem make_scored0 {n : Nat} (hn : n ≤ 900000) (w : World) : (Instr.makeSlice 35 (.int .i64 0) (.int .i64 (n : Int))).run Tryd.prog w = .ok (.slice (some ⟨w.heap.size, 0, none⟩) 0 n) (w.alloc (.cells (madeCells #[.string ⟨#[]⟩, .int .i64 0] (n * 2)) 47)) := by
  obtain ⟨i, hi, hz⟩ := Option.map_eq_some_iff.1 info_scored
  simp only [Prod.mk.injEq] at hz
  obtain ⟨z1, z2, z3⟩ := hz
  have q := run_make (P := Tryd.prog) w 35 47 i (.agg #[.string ⟨#[]⟩, .int .i64 0]) Tryd.underlying35 hi z1 .i64 .i64 (0 : Int) (n : Int) (by omega) (by omega) (by rw [z3]; omega) (by omega)
  rw [z2, show (Value.agg #[.string ⟨#[]⟩, .int .i64 0]).cells = #[.string ⟨#[]⟩, .int .i64 0] from rfl] at q
  simpa using q

/-- How All's memory stands between two rounds. -/
def JA (w : World) (c : Nat) (L : List Mb) (r : Loop) (i : Nat) (X : World) : Prop :=
  (∃ v, Boxed X (w.heap.size + 1) 35 v ∧ X.ownsRow w.heap.size 47 2 v i (mcells (L.take i)) ∧ (∀ b, v.ownBlock = some b → b = w.heap.size ∨ w.heap.size + 8 < b)) ∧
  X.heap[w.heap.size + 6]? = some (.deferred (some [])) ∧ X.heap[w.heap.size + 7]? = some (.loop r) ∧ w.grownBy X (some c)

theorem JA.step {w X X' : World} {c i : Nat} {L : List Mb} {r : Loop} (h : JA w c L r i X) (hc : c < w.heap.size) (k : X.grownBy X' (some c)) : JA w c L r i X' := by
  obtain ⟨⟨v, h1, h2, h3⟩, h4, h5, h6⟩ := h
  refine ⟨⟨v, h1.kept k (fun e => by injection e with e; omega), own_block h2 (fun b hb => k.block b (h2.lt b hb).2 (fun e => by injection e with e; rcases h3 b hb with q | q <;> omega)), h3⟩, ?_, ?_, grown_trans h6 k⟩
  · exact (k.block _ (Array.getElem?_eq_some_iff.1 h4).1 (fun e => by injection e with e; omega)).trans h4
  · exact (k.block _ (Array.getElem?_eq_some_iff.1 h5).1 (fun e => by injection e with e; omega)).trans h5

attribute [local go_sem] Oper.semAt_some

section
variable {w : World} {base seed s c h mb N : Nat} {ns : List Nd} {S : Nat → Nat → Value} {g : List UInt8 → Option Nat} {sz : Nat} {L : List Mb}

set_option maxRecDepth 100000 in
set_option maxHeartbeats 32000000 in
theorem lall_any (k : LsAt w base seed s c h mb N ns S g sz L) (hL : L.length ≤ 900000) (hb : ∀ x ∈ L, x.1.length ≤ 1000000000) :
    Calls Tryd.prog 23 #[.pointer (some ⟨s, 0, none⟩)] w fun e w' => ∃ A cp, e = .returned (.slice A L.length cp) ∧ ScAt w' A L.length cp L ∧ Below w.heap.size w w' := by
  have hmf : ∀ (fn : Fn) (first cap : Array Value) (w : World), (Instr.makeFunc fn first cap).run Tryd.prog w = .ok (.func fn first cap) w := fun _ _ _ _ => rfl
  have HLEN := Lib.hid (len_any k)
  have hmk : ∀ W : World, (Instr.makeSlice 35 (.int .i64 0) (.int .i64 (L.length : Int))).run Tryd.prog W = .ok (.slice (some ⟨W.heap.size, 0, none⟩) 0 L.length) (W.alloc (.cells (madeCells #[.string ⟨#[]⟩, .int .i64 0] (L.length * 2)) 47)) := fun W => make_scored0 hL W
  have HFR := Lib.hid (fun X => from_mk2 (some ⟨s, 0, none⟩) 0 X)
  have HK := Lib.hid k
  have HBS := Lib.hid hb
  have HLL := Lib.hid hL
  clear k hb
  refine (callsIn_wide (n := 11)).1 ?_
  refine callsIn_of_wp_marks Tryd.func23 rfl trivial ?_
  refine wpIn_wide.2 ?_
  simp only [Tryd.ntmps23, List.size_toArray, List.length_cons, List.length_nil, Nat.reduceAdd, Nat.reduceSub, Array.replicate_succ, Array.replicate_zero, List.push_toArray, List.append_toArray, List.nil_append, List.cons_append]
  go_wp2_with (first | (go_at_call 20; refine HLEN.out.mono ?_; rintro e w1 ⟨rfl, rfl⟩) | (go_at_call 54; refine (HFR.out _).mono ?_; rintro e w2 ⟨rfl, hfc, hb2, hs2⟩))
  generalize hX1 : World.alloc (World.alloc w1 _) _ = X1 at hfc hb2 hs2
  have sX : X1.heap.size = w1.heap.size + 2 := by rw [← hX1]; simp
  have bX : Below w1.heap.size w1 X1 := by rw [← hX1]; exact ((Below.refl _ _).alloc (Nat.le_refl _) _).alloc (by simp) _
  have vX : Boxed X1 (w1.heap.size + 1) 35 (.slice (some ⟨w1.heap.size, 0, none⟩) 0 L.length) := by
    rw [← hX1]
    have q := Boxed.new (w1.alloc (.cells (madeCells #[.string ⟨#[]⟩, .int .i64 0] (L.length * 2)) 47)) 35 (.slice (some ⟨w1.heap.size, 0, none⟩) 0 L.length)
    rw [World.size_alloc] at q
    exact q
  have oX : X1.ownsRow w1.heap.size 47 2 (.slice (some ⟨w1.heap.size, 0, none⟩) 0 L.length) 0 (mcells (L.take 0)) := by
    rw [← hX1]
    refine ⟨rfl, .inr ⟨w1.heap.size, L.length, _, rfl, Nat.le_refl _, (Below.heap_alloc _ _ _ (by simp)).trans (World.alloc_heap_new w1 _), Nat.zero_le _, by unfold maxLen; omega, by rw [size_madeCells], by simp [mcells]⟩⟩
  rw [sX] at hfc hs2
  obtain ⟨f0, f1, f3, f2⟩ := hfc
  have hb2' : Below X1.heap.size X1 w2 := by rw [sX]; rw [sX] at hb2; exact hb2
  have v2 : Boxed w2 (w1.heap.size + 1) 35 (.slice (some ⟨w1.heap.size, 0, none⟩) 0 L.length) := vX.kept (grown_of_below (r := none) hb2') (fun e => by cases e)
  have o2 := own_block (w' := w2) oX (fun b hb => hb2'.block b (oX.lt b hb).2)
  have B2 : Below w1.heap.size w1 w2 := bX.trans (hb2'.mono (by omega))
  have HF := Lib.hid (And.intro f0 (And.intro f1 (And.intro f2 f3)))
  have HV2 := Lib.hid v2
  have HO2 := Lib.hid o2
  have HB2 := Lib.hid B2
  have hs2' : w2.heap.size = w1.heap.size + 6 := hs2
  clear hX1 sX bX vX oX hb2 hb2' hs2 f0 f1 f2 f3 v2 o2 B2 HFR HLEN
  refine range_on2 (n := 10) (gf := 73) (lb := #[.pointer (some ⟨w1.heap.size + 2, 0, none⟩), .pointer (some ⟨w1.heap.size + 3, 0, none⟩), .pointer (some ⟨w1.heap.size + 5, 0, none⟩), .pointer (some ⟨w1.heap.size + 4, 0, none⟩)]) rfl (enters_of Tryd.func73 (by kernel_rfl) rfl) ?_
  rw [hs2']
  intro rec W1 hrec hz1 hb1 hD hLo hYm
  have hb1' : Below w2.heap.size w2 W1 := by rw [hs2']; exact hb1
  have hlt : ∀ (j : Nat) (v : Value), w2.cell? ⟨j, 0, none⟩ = some v → W1.cell? ⟨j, 0, none⟩ = some v := fun j v hv => (hb1'.cell (p := ⟨j, 0, none⟩) (World.block_lt_of_cell? w2 _ hv)).trans hv
  have BW : Below w1.heap.size w1 W1 := HB2.out.trans (hb1'.mono (by omega))
  have hc : c < w1.heap.size := HK.out.ck.blk.lt
  have hJ0 : JA w1 c L (rec .ready) 0 W1 := ⟨⟨_, HV2.out.kept (grown_of_below (r := none) hb1') (fun e => by cases e), own_block HO2.out (fun b hb => hb1'.block b (HO2.out.lt b hb).2), fun b hb => Or.inl (by injection hb with hb; exact hb.symm)⟩, hD, hLo, grown_of_below BW⟩
  have HIT := from3_in 10 (w1.heap.size + 7) (by omega) (T := w1.heap.size + 8) (HK.out.below BW) hL HBS.out hz1 (hlt _ _ HF.out.1) (hlt _ _ HF.out.2.1) (hlt _ _ HF.out.2.2.1) (hlt _ _ HF.out.2.2.2) (by omega) (by omega) (by omega) (JA w1 c L (rec .ready)) (fun i X X' hJ hg => hJ.step hc hg) ?hY hJ0
  case hY =>
    intro i x X hx hJ hT
    obtain ⟨⟨v, hv, hown, hvb⟩, hd, hl, hg⟩ := hJ
    obtain ⟨X1, hX1⟩ : ∃ X1, X.alloc (.cells #[.string ⟨x.1.toArray⟩, .int .i64 x.2] 47) = X1 := ⟨_, rfl⟩
    have s1 : X1.heap.size = X.heap.size + 1 := by rw [← hX1]; simp
    have b1 : ∀ j, j < X.heap.size → X1.heap[j]? = X.heap[j]? := fun j hj => by rw [← hX1]; exact Below.heap_alloc _ _ _ hj
    have n1 := two_news X 47 (.string ⟨x.1.toArray⟩) (.int .i64 x.2) rfl
    rw [hX1] at n1
    have lt7 : w1.heap.size + 7 < X.heap.size := (Array.getElem?_eq_some_iff.1 hl).1
    have hl1 : X1.heap[w1.heap.size + 7]? = some (.loop (rec .ready)) := (b1 _ lt7).trans hl
    refine hYm 9 #[.int .i64 (i : Nat), mbV x] X X1 _ { tmps := #[.pointer (some ⟨s, 0, none⟩), undef, .slice none 0 0, .pointer (some ⟨w1.heap.size + 1, 0, none⟩), undef, .pointer (some ⟨X.heap.size, 0, none⟩), .pointer (some ⟨s, 0, none⟩), .int .i64 L.length, .slice (some ⟨w1.heap.size, 0, none⟩) 0 L.length, .pointer (some ⟨s, 0, none⟩), .func (.func 73) #[] #[.pointer (some ⟨w1.heap.size + 1 + 1, 0, none⟩), .pointer (some ⟨w1.heap.size + 1 + 1 + 1, 0, none⟩), .pointer (some ⟨w1.heap.size + 1 + 1 + 3, 0, none⟩), .pointer (some ⟨w1.heap.size + 1 + 1 + 2, 0, none⟩)], .int .i64 (i : Nat), mbV x, undef, undef, undef, undef, undef], defers := [] } rfl hl hl1 ?_ ?_
    · intro K hK
      unfold mbV at hK ⊢
      gi_wp2
      exact hK
    · obtain ⟨Y, hY⟩ : ∃ Y, X1.putObj (w1.heap.size + 6 + 1) (.loop (rec .busy)) = Y := ⟨_, rfl⟩
      rw [hY]
      have sY : Y.heap.size = X.heap.size + 1 := by rw [← hY]; simp [s1]
      have oY : ∀ j, j < X.heap.size → j ≠ w1.heap.size + 7 → Y.heap[j]? = X.heap[j]? := fun j hj hne => by rw [← hY]; exact (World.putObj_heap_other hne).trans (b1 j hj)
      have lY : Y.heap[w1.heap.size + 7]? = some (.loop (rec .busy)) := by rw [← hY]; exact World.putObj_heap_same (by omega)
      have gY : X.os = Y.os ∧ X.tape = Y.tape ∧ X.output = Y.output := by rw [← hY, ← hX1]; exact ⟨rfl, rfl, rfl⟩
      have rY : Y.rowIs X.heap.size 47 2 (fun i => if i = 0 then .string ⟨x.1.toArray⟩ else .int .i64 x.2) := by
        have r := rows2 (w := X) (t := 47) (.string ⟨x.1.toArray⟩) (.int .i64 x.2) (fun i => if i = 0 then .string ⟨x.1.toArray⟩ else .int .i64 x.2) rfl rfl
        rw [hX1] at r
        rw [← hY]
        exact r.of_block (World.putObj_heap_other (by omega))
      have y0 := rY.cell (i := 0) (by omega)
      have y1 := rY.cell (i := 1) (by omega)
      have vY : Boxed Y (w1.heap.size + 1) 35 v := (oY _ (by omega) (by omega)).trans hv
      have wY : Y.ownsRow w1.heap.size 47 2 v i (mcells (L.take i)) := own_block hown (fun b hb => oY b (hown.lt b hb).2 (by have := hvb b hb; omega))
      have hiL : i < L.length := (List.getElem?_eq_some_iff.1 hx).1
      have hmc : mcells (L.take i) ++ [.string ⟨x.1.toArray⟩, .int .i64 x.2] = mcells (L.take (i + 1)) := by
        rw [List.take_add_one, hx, mcells_append]
        rfl
      obtain ⟨ip, hip, hyp⟩ := Option.map_eq_some_iff.1 info_scored
      simp only [Prod.mk.injEq] at hyp
      have HIP := Lib.hid hyp
      have HIQ := Lib.hid hip
      have hcell := vY.cell
      have hfz := vY.frozen
      have wY1 := wY.alloc (.cells #[.string ⟨x.1.toArray⟩, .int .i64 x.2] 47)
      have HWY := Lib.hid wY1
      have HNW := Lib.hid (two_news Y 47 (.string ⟨x.1.toArray⟩) (.int .i64 x.2) rfl)
      have HVY := Lib.hid vY
      have HMC := Lib.hid hmc
      have HLY := Lib.hid lY
      have HOY := Lib.hid oY
      have HGY := Lib.hid gY
      have HSY := Lib.hid sY
      have HVB := Lib.hid hvb
      have HD := Lib.hid hd
      have HG := Lib.hid hg
      have HWW := Lib.hid wY
      have HT := Lib.hid hT
      have HCC := Lib.hid hc
      have HKK := Lib.hid (HK.out.below BW)
      have hlX : X.heap.size < Y.heap.size := by omega
      have hlB : w1.heap.size + 1 < Y.heap.size := by omega
      have hnB : w1.heap.size + 1 ≠ X.heap.size := by omega
      have hMY : w1.heap.size ≤ Y.heap.size := by omega
      clear sY s1 hip hyp vY wY wY1 hmc lY oY gY hvb hd hg rY hY hX1 n1 b1 hl hl1 hv hown hx hJ0 BW hYm hlt hb1 hb1' hD hLo
      gi_wp2_with (gi_at_builtin; refine wpListIn_append_own2 rfl _ _ 35 rfl w1.heap.size 47 ip _ 2 24 Tryd.underlying35 HIQ.out HIP.out.1 HIP.out.2.1 HIP.out.2.2 rfl (by omega) v i _ rfl HWY.out ⟨Y.heap.size, 0, none⟩ 1 1 [.string ⟨x.1.toArray⟩, .int .i64 x.2] rfl rfl HNW.out (by intro u hu; simp at hu; rcases hu with rfl | rfl <;> rfl) (by unfold maxLen; omega) (by omega) (by simp; omega) ?_; intro v' w5 hown5 hgr5 hor5; obtain ⟨A5, c5, rfl⟩ := own_slice hown5; have hv5 := (HVY.out.alloc (.cells #[.string ⟨x.1.toArray⟩, .int .i64 x.2] 47)).kept hgr5 (HVY.out.not_row (by decide) HWW.out); have hc5 := hv5.cell; have hf5 := hv5.frozen)
      have hT := HT.out
      have sY := HSY.out
      have zz : (Y.alloc (.cells #[.string ⟨x.1.toArray⟩, .int .i64 x.2] 47)).heap.size = Y.heap.size + 1 := by simp
      have same5 : ∀ j, j < Y.heap.size → some j ≠ v.ownBlock → w5.heap[j]? = Y.heap[j]? := fun j hj hne => (hgr5.block j (by omega) hne).trans (Below.heap_alloc _ _ _ hj)
      have hno : ∀ j, j ≠ w1.heap.size → j ≤ w1.heap.size + 8 → some j ≠ v.ownBlock := fun j h1 h2 e => by have := HVB.out j e.symm; omega
      have hb5 : ∀ b, (Value.slice A5 (i + 1) c5).ownBlock = some b → b = w1.heap.size ∨ w1.heap.size + 8 < b := fun b hb => by
        rcases hor5 with q | q
        · exact HVB.out b (q.symm.trans hb)
        · rw [q, zz] at hb
          injection hb with hb
          omega
      have z5 : Y.heap.size < w5.heap.size := by have := hgr5.size; omega
      obtain ⟨W3, hW3⟩ : ∃ W3, w5.setCell ⟨w1.heap.size + 1, 0, none⟩ (.slice A5 (i + 1) c5) = W3 := ⟨_, rfl⟩
      have o3 : ∀ j, j ≠ w1.heap.size + 1 → W3.heap[j]? = w5.heap[j]? := fun j hj => by rw [← hW3]; exact Below.heap_setCell _ _ _ _ hj
      have v3 := hv5.set (.slice A5 (i + 1) c5)
      rw [hW3] at v3
      have t3 : W3.os = w5.os ∧ W3.tape = w5.tape ∧ W3.output = w5.output := by rw [← hW3]; exact ⟨rfl, rfl, rfl⟩
      have s3 : W3.heap.size = w5.heap.size := by rw [← hW3, World.size_setCell]
      rw [hW3]
      obtain ⟨Z, hZ⟩ : ∃ Z, W3.putObj (w1.heap.size + 6 + 1) (.loop (rec .ready)) = Z := ⟨_, rfl⟩
      have oz : ∀ j, j ≠ w1.heap.size + 7 → Z.heap[j]? = W3.heap[j]? := fun j hj => by rw [← hZ]; exact World.putObj_heap_other hj
      have lz : Z.heap[w1.heap.size + 7]? = some (.loop (rec .ready)) := by rw [← hZ]; exact World.putObj_heap_same (by omega)
      have sz' : Z.heap.size = w5.heap.size := by rw [← hZ, World.putObj_size, s3]
      have tz : Z.os = X.os ∧ Z.tape = X.tape ∧ Z.output = X.output := by
        obtain ⟨q1, q2, q3⟩ := HGY.out
        obtain ⟨p1, p2, p3⟩ := t3
        rw [← hZ]
        exact ⟨p1.trans (hgr5.os.trans q1.symm), p2.trans (hgr5.tape.trans q2.symm), p3.trans (hgr5.output.trans q3.symm)⟩
      have zs : ∀ j, j < X.heap.size → j ≠ w1.heap.size + 1 → j ≠ w1.heap.size + 7 → some j ≠ v.ownBlock → Z.heap[j]? = X.heap[j]? := fun j h1 h2 h3 h4 =>
        (oz j h3).trans ((o3 j h2).trans ((same5 j (by omega) h4).trans (HOY.out j h1 h3)))
      rw [hZ]
      refine ⟨(o3 _ (by omega)).trans ((same5 _ (by omega) (hno _ (by omega) (by omega))).trans HLY.out), ⟨⟨_, (oz _ (by omega)).trans v3, ?_, hb5⟩, (zs _ (by omega) (by omega) (by omega) (hno _ (by omega) (by omega))).trans HD.out, lz, ?_⟩, fun j hj => ?_, by omega⟩
      · rw [← HMC.out]
        exact own_block hown5 (fun b hb => by have := hb5 b hb; exact (oz b (by omega)).trans (o3 b (by omega)))
      · obtain ⟨t1, t2, t4⟩ := tz
        exact ⟨t1.trans HG.out.os, t2.trans HG.out.tape, t4.trans HG.out.output, by have := HG.out.size; omega, fun j hj hne => (zs j (by omega) (by omega) (by omega) (hno j (by omega) (by omega))).trans (HG.out.block j hj hne)⟩
      · rcases hj with rfl | rfl | rfl | hj
        · exact zs _ (by omega) (by omega) (by omega) (hno _ (by omega) (by omega))
        · exact zs _ (by omega) (by omega) (by omega) (hno _ (by omega) (by omega))
        · exact zs _ (by omega) (by omega) (by omega) (hno _ (by omega) (by omega))
        · have hlj := HK.out.ck.lt hj
          exact zs _ (by omega) (by omega) (by omega) (hno _ (by omega) (by omega))
  refine HIT.mono ?_
  rintro e W2 ⟨rfl, hJ2, hcc⟩
  obtain ⟨⟨v, hv, hown, hvb⟩, hd, hl, hg⟩ := hJ2
  refine ⟨_, rfl, hl, ?_⟩
  obtain ⟨Z, hZ⟩ : ∃ Z, W2.putObj (w1.heap.size + 6 + 1) (.loop (rec .exhausted)) = Z := ⟨_, rfl⟩
  rw [hZ]
  have sZ : Z.heap.size = W2.heap.size := by rw [← hZ]; simp
  have oZ : ∀ j, j ≠ w1.heap.size + 7 → Z.heap[j]? = W2.heap[j]? := fun j hj => by rw [← hZ]; exact World.putObj_heap_other hj
  have vZ : Boxed Z (w1.heap.size + 1) 35 v := (oZ _ (by omega)).trans hv
  have hcell := vZ.cell
  have hK : Z.heap[w1.heap.size + 6]? = some (.deferred (some [])) := (oZ _ (by omega)).trans hd
  have tZ : Z.os = w1.os ∧ Z.tape = w1.tape ∧ Z.output = w1.output := by rw [← hZ]; exact ⟨hg.os, hg.tape, hg.output⟩
  have sW : w1.heap.size ≤ W2.heap.size := hg.size
  have HTL : Hid (∃ A cp, v = .slice A L.length cp ∧ ScAt (Z.putObj (w1.heap.size + 6) (.deferred none)) A L.length cp L ∧ Below w1.heap.size w1 (Z.putObj (w1.heap.size + 6) (.deferred none))) := by
    have o4 : (Z.putObj (w1.heap.size + 6) (.deferred none)).ownsRow w1.heap.size 47 2 v L.length (mcells L) := by
      rw [show L.take L.length = L from List.take_of_length_le (Nat.le_refl _)] at hown
      exact own_block hown (fun b hb => by
        have q := hvb b hb
        exact (World.putObj_heap_other (by omega)).trans (oZ b (by omega)))
    obtain ⟨A, cp, h1, h2⟩ := sc_of_own o4
    refine ⟨A, cp, h1, h2, tZ.1, tZ.2.1, tZ.2.2, by rw [World.putObj_size, sZ]; exact sW, fun j hj => ?_⟩
    refine (World.putObj_heap_other (by omega)).trans ((oZ j (by omega)).trans ?_)
    by_cases e : j = c
    · rw [e]; exact hcc.trans (BW.block c hc)
    · exact hg.block j hj (fun q => e (by injection q))
  clear hZ sZ oZ vZ tZ sW hv hown hvb hd hl hg hcc HIT hJ0 BW hb1' hlt hD hLo hYm hb1
  go_wp2
  refine ⟨by simp, .inl ⟨_, _, rfl, run_takeDeferred hK, ?_⟩⟩
  obtain ⟨A, cp, h1, h2, h3⟩ := HTL.out
  exact ⟨_, results_tmp rfl _ _ _, A, cp, by rw [← h1]; rfl, h2, h3⟩

end

end Go.Proofs.YtcbiiioglklpoaaDoor
