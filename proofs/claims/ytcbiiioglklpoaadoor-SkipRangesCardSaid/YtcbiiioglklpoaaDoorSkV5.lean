/-
  Package skip: what From of a list that stands tells in a range. Conditions: the list stands.
-/
import Derived.Test.YtcbiiioglklpoaaDoorSkV4
namespace Go.Proofs.YtcbiiioglklpoaaDoor
open Go.RowKit

attribute [local go_sem] Oper.semAt_some

section
variable {w : World} {base seed s c h mb N : Nat} {ns : List Nd} {S : Nat → Nat → Value} {g : List UInt8 → Option Nat} {sz : Nat} {L : List Mb}

set_option maxRecDepth 100000 in
set_option maxHeartbeats 4000000 in
theorem from31_in {n : Nat} {u : FrameMode} {B c : Nat} (w : World) (hB : w.cell? ⟨B, 0, none⟩ = some (.pointer (some ⟨c, 0, none⟩))) (hc : w.cell? ⟨c, 3, none⟩ = some (.int .i64 1)) (hf : w.frozen? ⟨c, 3, none⟩ = false) :
    CallsDIn Fence.wide n Tryd.prog 74 #[.pointer (some ⟨B, 0, none⟩)] u w fun e u' w' => u' = u ∧ (e = .returned (.tuple #[]) ∧ w' = w.setCell ⟨c, 3, none⟩ (.int .i64 0)) := by
  refine callsDIn_of_wp Tryd.func74 rfl trivial ?_ rfl
  simp only [Tryd.ntmps74, List.size_toArray, List.length_cons, List.length_nil, Nat.reduceAdd, Nat.reduceSub, Array.replicate_succ, Array.replicate_zero, List.push_toArray, List.append_toArray, List.nil_append, List.cons_append]
  gi_wp2
  go_end0
  exact ⟨rfl, rfl⟩

theorem row_same {X Y : World} {b n : Nat} {t : TypeId} {f f' : Nat → Value} (h : X.rowIs b t n f) (k : Y.rowIs b t n f') (e : ∀ i, i < n → f i = f' i) : X.heap[b]? = Y.heap[b]? := by
  obtain ⟨c1, h1, n1, g1⟩ := h
  obtain ⟨c2, h2, n2, g2⟩ := k
  have : c1 = c2 := Array.ext (by omega) (fun i l1 l2 => by
    have q1 := g1 i (by omega)
    have q2 := g2 i (by omega)
    rw [Array.getElem?_eq_getElem l1] at q1
    rw [Array.getElem?_eq_getElem l2] at q2
    injection q1 with q1
    injection q2 with q2
    rw [q1, q2, e i (by omega)])
  rw [h1, h2, this]

/-- What a round keeps: the chain, From's own boxes, the closure's own cell. -/
def KeS (c h mb : Nat) (ns : List Nd) (T b2 b3 k : Nat) : Prop := k = T ∨ k = b2 ∨ k = b3 ∨ CkF c h mb ns k

set_option maxRecDepth 100000 in
set_option maxHeartbeats 16000000 in
theorem from3_in (n l : Nat) (hn : 2 ≤ n) {W : World} {b0 b1 b2 b3 T : Nat} (k : LsAt W base seed s c h mb N ns S g sz L) (hL : L.length ≤ 900000) (hb : ∀ x ∈ L, x.1.length ≤ 1000000000) (hT : W.heap.size = T)
    (h0 : W.cell? ⟨b0, 0, none⟩ = some (.pointer (some ⟨s, 0, none⟩))) (h1 : W.cell? ⟨b1, 0, none⟩ = some (.int .i64 0)) (h2 : W.cell? ⟨b2, 0, none⟩ = some (.func (.func 71) #[] #[])) (h3 : W.cell? ⟨b3, 0, none⟩ = some (.int .i64 1))
    (e1 : c < b1) (e2 : c < b2) (e3 : c < b3) (J : Nat → World → Prop) (hJ : ∀ i X X', J i X → X.grownBy X' (some c) → J i X')
    (hY : ∀ (i : Nat) (x : Mb) (X : World), L[i]? = some x → J i X → T < X.heap.size → YieldAt Fence.wide (n - 1) Tryd.prog l #[.int .i64 (i : Nat), mbV x] X fun e X' => e = .returned (.bool true) ∧ J (i + 1) X' ∧ (∀ j, KeS c h mb ns T b2 b3 j → X'.heap[j]? = X.heap[j]?) ∧ X.heap.size ≤ X'.heap.size)
    (hJ0 : J 0 W) :
    CallsIn Fence.wide n Tryd.prog 73 #[.func (.yield l) #[] #[], .pointer (some ⟨b0, 0, none⟩), .pointer (some ⟨b1, 0, none⟩), .pointer (some ⟨b2, 0, none⟩), .pointer (some ⟨b3, 0, none⟩)] W fun e W2 => e = .returned (.tuple #[]) ∧ J L.length W2 ∧ W2.heap[c]? = W.heap[c]? := by
  have hmf : ∀ (fn : Fn) (first cap : Array Value) (w : World), (Instr.makeFunc fn first cap).run Tryd.prog w = .ok (.func fn first cap) w := fun _ _ _ _ => rfl
  have hlc : c < W.heap.size := k.ck.blk.lt
  have hlb : b1 < W.heap.size := World.block_lt_of_cell? W _ h1
  have hcb : c ≠ b1 := by omega
  have g3 := k.ck.blk.cell (i := 3) (by omega)
  rw [show ckF seed h mb 0 3 = .int .i64 0 from rfl] at g3
  have f3 := k.ck.blk.frozen 3
  obtain ⟨w3, hw3⟩ : ∃ w3, (W.setCell ⟨c, 3, none⟩ (.int .i64 1)).alloc (.cells #[.pointer (some ⟨c, 0, none⟩)] 71) = w3 := ⟨_, rfl⟩
  have s3 : w3.heap.size = T + 1 := by rw [← hw3, World.size_alloc, World.size_setCell, hT]
  have k1 : w3.rowIs c 95 4 (fun j => if j = 3 then .int .i64 1 else ckF seed h mb 0 j) := by rw [← hw3]; exact (k.ck.blk.set 3 (.int .i64 1)).alloc _
  have o3 : ∀ j, j ≠ c → j < T → w3.heap[j]? = W.heap[j]? := fun j hj hlt => by
    rw [← hw3]
    exact (Below.heap_alloc _ _ _ (by rw [World.size_setCell, hT]; exact hlt)).trans (Below.heap_setCell _ _ _ _ hj)
  have k2 : ChOn (lvS seed) w3 h ns S := k.ck.ch.keep (fun b hb => o3 b (fun e => k.ck.nec (e ▸ hb)) (by rw [← hT]; exact k.ck.ch.lt hb))
  have hT3 : w3.cell? ⟨T, 0, none⟩ = some (.pointer (some ⟨c, 0, none⟩)) := by
    rw [← hw3]
    have q := heap_alloc_new (W.setCell ⟨c, 3, none⟩ (.int .i64 1)) (.cells #[.pointer (some ⟨c, 0, none⟩)] 71)
    rw [World.size_setCell, hT] at q
    simp only [World.cell?, q]
    rfl
  have hg3 : W.grownBy w3 (some c) := ⟨by rw [← hw3]; rfl, by rw [← hw3]; rfl, by rw [← hw3]; rfl, by omega, fun j hj hne => o3 j (fun e => hne (by rw [e])) (by omega)⟩
  have hat := at_any 0 w3 (lvS_pos seed) (by rw [k.len]; omega) (k1.cell (i := 1) (by omega)) k2
  have HR := Lib.hid (lread_any k.hd)
  have HAT : Hid (Calls Tryd.prog 58 #[.pointer (some ⟨c, 0, none⟩), .int .i64 0] ((W.setCell ⟨c, 3, none⟩ (.int .i64 1)).alloc (.cells #[.pointer (some ⟨c, 0, none⟩)] 71)) fun e w' => e = .returned (nodeAt ns 0) ∧ Below w3.heap.size w3 w') := by unfold Hid; rw [hw3]; exact hat
  have hc2 : w3.cell? ⟨b2, 0, none⟩ = some (.func (.func 71) #[] #[]) := (World.cell?_of_block (a := ⟨b2, 0, none⟩) (o3 b2 (by omega) (by have := World.block_lt_of_cell? W _ h2; rw [← hT]; exact this))).trans h2
  have hc3 : w3.cell? ⟨b3, 0, none⟩ = some (.int .i64 1) := (World.cell?_of_block (a := ⟨b3, 0, none⟩) (o3 b3 (by omega) (by have := World.block_lt_of_cell? W _ h3; rw [← hT]; exact this))).trans h3
  have HK := Lib.hid k
  have HK1 := Lib.hid k1
  have HK2 := Lib.hid k2
  have HT3 := Lib.hid hT3
  have HC2 := Lib.hid hc2
  have HC3 := Lib.hid hc3
  have HS3 := Lib.hid s3
  have HO3 := Lib.hid o3
  have HJ := Lib.hid hJ
  have HY := Lib.hid hY
  have HJ3 := Lib.hid (hJ 0 W w3 hJ0 hg3)
  have HBS := Lib.hid hb
  have HTT := Lib.hid hT
  have HLEN := Lib.hid k.len
  have hn1 : 1 ≤ n := by omega
  have E2 := Lib.hid e2
  have E3 := Lib.hid e3
  clear hT k k1 k2 hT3 hc2 hc3 s3 o3 hJ hY hJ0 hg3 hat hb h2 h3 e1 e2 e3 hw3
  refine callsIn_of_wp_defers Tryd.func73 rfl trivial ?_ rfl
  simp only [Tryd.ntmps73, List.size_toArray, List.length_cons, List.length_nil, Nat.reduceAdd, Nat.reduceSub, Array.replicate_succ, Array.replicate_zero, List.push_toArray, List.append_toArray, List.nil_append, List.cons_append]
  gi_wp2_with (first | (refine ⟨trivial, ?_⟩; gi_at_call 50; refine (callsIn_wide.2 HR.out).mono ?_; rintro e w1 ⟨rfl, rfl⟩) | (refine ⟨trivial, ?_⟩; gi_at_call 58; refine (callsIn_wide.2 HAT.out).mono ?_; rintro e w4 ⟨rfl, hb4⟩))
  rw [HTT.out]
  have HB4 := Lib.hid hb4
  have HJ4 := Lib.hid (HJ.out 0 w3 w4 HJ3.out ⟨hb4.os, hb4.tape, hb4.output, hb4.size, fun j hj _ => hb4.block j hj⟩)
  have HS4 : Hid (T < w4.heap.size) := by have q := hb4.size; have := HS3.out; unfold Hid; omega
  have HCH : Hid (∀ X : World, (∀ j, KeS c h mb ns T b2 b3 j → X.heap[j]? = w4.heap[j]?) → ChOn (lvS seed) X h ns S ∧ X.rowIs c 95 4 (fun j => if j = 3 then .int .i64 1 else ckF seed h mb 0 j) ∧ X.cell? ⟨T, 0, none⟩ = some (.pointer (some ⟨c, 0, none⟩)) ∧ X.cell? ⟨b2, 0, none⟩ = some (.func (.func 71) #[] #[]) ∧ X.cell? ⟨b3, 0, none⟩ = some (.int .i64 1)) := fun X hX =>
    ⟨(HK2.out.below HB4.out).keep (fun b hb => hX b (Or.inr (Or.inr (Or.inr (Or.inr (Or.inr hb)))))), (HK1.out.of_block (HB4.out.block c HK1.out.lt)).of_block (hX c (Or.inr (Or.inr (Or.inr (Or.inl rfl))))),
      (World.cell?_of_block (a := ⟨T, 0, none⟩) ((hX T (Or.inl rfl)).trans (HB4.out.block T (by have := HS3.out; omega)))).trans HT3.out,
      (World.cell?_of_block (a := ⟨b2, 0, none⟩) ((hX b2 (Or.inr (Or.inl rfl))).trans (HB4.out.block b2 (World.block_lt_of_cell? w3 _ HC2.out)))).trans HC2.out,
      (World.cell?_of_block (a := ⟨b3, 0, none⟩) ((hX b3 (Or.inr (Or.inr (Or.inl rfl)))).trans (HB4.out.block b3 (World.block_lt_of_cell? w3 _ HC3.out)))).trans HC3.out⟩
  have HLT : Hid (∀ j, KeS c h mb ns T b2 b3 j → j < w4.heap.size) := fun j hj => by
    have q4 := hb4.size
    have q3 := HS3.out
    rcases hj with rfl | rfl | rfl | hj
    · omega
    · have := World.block_lt_of_cell? w3 _ HC2.out; have : j < w3.heap.size := this; omega
    · have := World.block_lt_of_cell? w3 _ HC3.out; have : j < w3.heap.size := this; omega
    · have := HK.out.ck.lt hj; have := HTT.out; omega
  clear h0 h1 g3 f3 hlc hlb hcb hb4
  gi_loopw [7, 8] (fun a x wr => ∃ i : Nat, i ≤ L.length ∧ a = .int .i64 i ∧ x = nodeAt ns i ∧ J i wr ∧ (∀ j, KeS c h mb ns T b2 b3 j → wr.heap[j]? = w4.heap[j]?) ∧ T < wr.heap.size) (fun a _ _ => L.length - (intOf a).toNat)
  case atStart => exact ⟨0, Nat.zero_le _, rfl, rfl, HJ4.out, fun _ _ => rfl, HS4.out⟩
  case round =>
    obtain ⟨i, hi, rfl, rfl, hJi, hKi, hTi⟩ := hrel
    have HJi := Lib.hid hJi
    have HKi := Lib.hid hKi
    have HTi := Lib.hid hTi
    by_cases hlt : i < L.length
    · obtain ⟨m, hm⟩ : ∃ m, L[i]? = some m := ⟨_, List.getElem?_eq_getElem hlt⟩
      obtain ⟨x, hx, hxm⟩ := HK.out.node hm
      subst hxm
      have hnd : nodeAt ns (i : Int) = .pointer (some ⟨x.1, 0, none⟩) := by
        unfold nodeAt
        rw [if_pos (by omega), Int.toNat_natCast, hx]
        rfl
      obtain ⟨ch, _⟩ := HCH.out wr hKi
      obtain ⟨y0, y1⟩ := ch.cells hx
      have HCP := Lib.hid (fun X => copied_any ⟨x.2.1.toArray⟩ x.2.2 X (by have := HBS.out x.2 (List.mem_of_getElem? hm); show x.2.1.toArray.size ≤ _; simp; omega))
      have HYI := Lib.hid (fun X (h1 : J i X) (h2 : T < X.heap.size) => HY.out i x.2 X hm h1 h2)
      unfold mbV at HYI
      have HX := Lib.hid hx
      obtain ⟨TT, hTT⟩ : ∃ T : ByteArray, (⟨x.2.1.toArray⟩ : ByteArray) = T := ⟨_, rfl⟩
      obtain ⟨Z, hZ⟩ : ∃ Z, x.2.2 = Z := ⟨_, rfl⟩
      rw [hTT] at y0 HCP HYI
      rw [hZ] at y1 HCP HYI
      rw [hnd]
      clear hnd hJi hKi hTi hm hx ch hTT hZ
      gi_wp2_with (refine ⟨trivial, ?_⟩; gi_at_call 45; refine (callsIn_wide.2 (HCP.out _)).mono ?_; rintro e w5 ⟨rfl, hb5⟩; have HJ5 := Lib.hid (HJ.out i wr w5 HJi.out ⟨hb5.os, hb5.tape, hb5.output, hb5.size, fun j hj _ => hb5.block j hj⟩); have HB5 := Lib.hid hb5; obtain ⟨fn, tmps, assign, body, hy, hR⟩ := HYI.out w5 HJ5.out (by have q := HTi.out; have := hb5.size; omega); have HR := Lib.hid hR; clear hR hb5)
      refine HR.out.mono ?_
      rintro e w6 ⟨rfl, hJ6, hk6, hs6⟩
      have HK6 : Hid (∀ j, KeS c h mb ns T b2 b3 j → w6.heap[j]? = w4.heap[j]?) := fun j hj => (hk6 j hj).trans ((HB5.out.block j (Array.getElem?_eq_some_iff.1 ((HKi.out j hj).trans (Array.getElem?_eq_getElem (HLT.out j hj)))).1).trans (HKi.out j hj))
      have HJ6 := Lib.hid hJ6
      have HS6 : Hid (T < w6.heap.size) := by have q := HTi.out; have := HB5.out.size; unfold Hid; omega
      obtain ⟨ch6, _, _, d2, d3⟩ := HCH.out w6 HK6.out
      have HF1 := Lib.hid (from1_any ch6 (lvS_pos seed) HX.out)
      clear hJ6 hk6 hs6 ch6 y0 y1
      gi_wp2_with (refine ⟨trivial, ?_⟩; gi_at_call 71; refine (callsIn_wide.2 HF1.out).mono ?_; rintro e w7 ⟨rfl, hw7⟩; rw [hw7]; clear hw7)
      go_roundw
      case rel => exact ⟨i + 1, hlt, by go_num, rfl, HJ6.out, HK6.out, HS6.out⟩
      case measure => simp only [intOf]; omega
    · obtain rfl : i = L.length := by omega
      have hnd : nodeAt ns (L.length : Int) = .pointer none := by
        unfold nodeAt
        rw [if_pos (by omega), Int.toNat_natCast, List.getElem?_eq_none (by rw [HLEN.out]; exact Nat.le_refl _)]
        rfl
      obtain ⟨_, hr1, hT1, _, _⟩ := HCH.out wr hKi
      rw [hnd]
      clear hnd hJi hKi hTi
      gi_wp2_with (first | refine ⟨trivial, ?_⟩ | refine ⟨fun _ _ => trivial, ?_⟩)
      refine leavesIn_cons (f := 74) (args := #[.pointer (some ⟨T, 0, none⟩)]) (by simp) (fun _ => hn1) (by simp [go_sem]) (fun _ _ => trivial) ?_
      refine (from31_in wr hT1 (hr1.cell (i := 3) (by omega)) (hr1.frozen 3)).mono ?_
      rintro e u' w'' ⟨rfl, rfl, rfl⟩
      simp [LeavesIn, settle, results, Tryd.results73, go_sem]
      refine ⟨HJ.out _ _ _ HJi.out ⟨rfl, rfl, rfl, by rw [World.size_setCell]; exact Nat.le_refl _, fun j _ hne => Below.heap_setCell _ _ _ _ (fun e => hne (by rw [e]))⟩, row_same (hr1.set 3 (.int .i64 0)) HK.out.ck.blk (fun j hj => ?_)⟩
      by_cases e : j = 3
      · rw [if_pos e, e]; rfl
      · rw [if_neg e, if_neg e]

end

end Go.Proofs.YtcbiiioglklpoaaDoor
