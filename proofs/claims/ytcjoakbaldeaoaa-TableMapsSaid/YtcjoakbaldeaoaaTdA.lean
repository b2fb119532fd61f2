/-
  What acts make of a table of texts, its keys beside those of a table of numbers. The statements' closure that holds keys against a row (TableAny$1). Conditions: its boxes lie in memory as typed. All's closure of a table of texts with TableAny$1: every key stands where the row has it. The walk of TableAny at any seed and any script.
-/
import Derived.Test.YtcjoakbaldeaoaaTcN
import Derived.Test.YtcjoakbaldeaoaaTcS
import Derived.Test.YtcjoakbaldeaoaaGTxS
import Derived.Test.YtcjoakbaldeaoaaGTpS
import Derived.Test.YtcjoakbaldeaoaaGTqS
namespace Go.Proofs.Ytcjoakbaldeaoaa
open Go.RowKit

/-- What an act makes of a table of texts. -/
def actU (seed : Nat) (t : Tb (List UInt8)) (kind : Int) (k v : List UInt8) : Tb (List UInt8) :=
  if kind = 1 then putS (hashT seed) (stepT (hashT seed) t) k v
  else if kind = 2 then stepT (hashT seed) t
  else if kind = 3 then delS (hashT seed) (stepT (hashT seed) t) k
  else if kind = 5 then stepT (hashT seed) t
  else t

theorem good_actU {seed m : Nat} {t : Tb (List UInt8)} (g : Good (hashT seed) m t) (kind : Int) (k v : List UInt8) : Good (hashT seed) (m + 1) (actU seed t kind k v) := by
  unfold actU
  split
  · exact good_put (good_step g) k v
  · split
    · exact (good_step g).mono (by omega)
    · split
      · exact (good_del (good_step g) k).mono (by omega)
      · split
        · exact (good_step g).mono (by omega)
        · exact g.mono (by omega)

theorem keys_actU {seed : Nat} {p : List UInt8 → Prop} {t : Tb (List UInt8)} (hs : KeysT p t) (kind : Int) (k : List UInt8) (hp : p k) (v : List UInt8) : KeysT p (actU seed t kind k v) := by
  unfold actU
  split
  · exact keys_putS (keys_step hs) k hp v
  · split
    · exact keys_step hs
    · split
      · exact keys_delS (keys_step hs) k
      · split
        · exact keys_step hs
        · exact hs

/-- A table's shape and keys. -/
def unT {α : Type} (t : Tb α) : Tb Unit := mapT (fun _ => ()) t

theorem un_act {seed : Nat} {t : Tb Int} {u : Tb (List UInt8)} (h : unT t = unT u) (kind : Int) (k : List UInt8) (v : Int) (s : List UInt8) : unT (actT seed t kind k v) = unT (actU seed u kind k s) := by
  have hstep : unT (stepT (hashT seed) t) = unT (stepT (hashT seed) u) := by
    unfold unT at h ⊢
    rw [← step_map, ← step_map, h]
  have hput : unT (putS (hashT seed) (stepT (hashT seed) t) k v) = unT (putS (hashT seed) (stepT (hashT seed) u) k s) := by
    unfold unT at hstep ⊢
    rw [← put_map, ← put_map, hstep]
  have hdel : unT (delS (hashT seed) (stepT (hashT seed) t) k) = unT (delS (hashT seed) (stepT (hashT seed) u) k) := by
    unfold unT at hstep ⊢
    rw [← del_map, ← del_map, hstep]
  unfold actT actU
  split
  · exact hput
  · split
    · exact hstep
    · split
      · exact hdel
      · split
        · exact hstep
        · exact h

def tabU (seed : Nat) (L : List Op4) : Tb (List UInt8) := L.foldl (fun t o => actU seed t o.kind (cutK o.key).data.toList o.key.data.toList) newT

theorem tabU_snoc (seed : Nat) (L : List Op4) (o : Op4) : tabU seed (L ++ [o]) = actU seed (tabU seed L) o.kind (cutK o.key).data.toList o.key.data.toList := by
  unfold tabU
  rw [List.foldl_append]
  rfl

theorem tabU_good (seed : Nat) (L : List Op4) : ∀ n, n ≤ L.length → Good (hashT seed) n (tabU seed (L.take n)) ∧ KeysT (fun k => k.length ≤ 1000) (tabU seed (L.take n)) ∧ unT (tabT seed (L.take n)) = unT (tabU seed (L.take n)) := by
  intro n
  induction n with
  | zero => intro _; exact ⟨good_new _, keys_new _, rfl⟩
  | succ n ih =>
    intro hn
    obtain ⟨h1, h2, h3⟩ := ih (by omega)
    have hx : L[n]? = some (L[n]'(by omega)) := List.getElem?_eq_getElem _
    rw [List.take_add_one, hx, Option.toList_some, tabU_snoc, tabT_snoc]
    exact ⟨good_actU h1 _ _ _, keys_actU h2 _ _ (cut_len _) _, un_act h3 _ _ _ _⟩

theorem un_sizes {α β : Type} {t : Tb α} {u : Tb β} (h : unT t = unT u) : t.A.length = u.A.length ∧ t.B.length = u.B.length ∧ t.moved = u.moved := by
  unfold unT mapT at h
  injection h with h1 h2 h3 _
  refine ⟨?_, ?_, h3⟩
  · have := congrArg List.length h1
    rwa [mapR_length, mapR_length] at this
  · have := congrArg List.length h2
    rwa [mapR_length, mapR_length] at this

theorem un_keys {α β : Type} {t : Tb α} {u : Tb β} (h : unT t = unT u) : (allT t).map (·.1) = (allT u).map (·.1) := by
  have q : allT (unT t) = allT (unT u) := by rw [h]
  unfold unT at q
  rw [all_map, all_map] at q
  have q2 := congrArg (List.map (·.1)) q
  unfold mapL at q2
  rw [List.map_map, List.map_map] at q2
  exact q2

/-- The closure's boxes: want, n, right. -/
structure AnyAt (w : World) (Bw Bn Br : Nat) (A : Option Addr) (c : Nat) (l : List (List UInt8 × Int)) (j : Nat) : Prop where
  want : Boxed w Bw 42 (.slice A l.length c)
  n : Boxed w Bn 3 (.int .i64 j)
  right : Boxed w Br 4 (.bool true)
  row : ∃ b, w.ownsRow b 53 2 (.slice A l.length c) l.length (itemCells l)

theorem box_same {w w' : World} {B : Nat} {t : TypeId} {v : Value} (h : Boxed w B t v) (e : w'.heap[B]? = w.heap[B]?) : Boxed w' B t v := e.trans h

theorem AnyAt.below {w w' : World} {Bw Bn Br : Nat} {A : Option Addr} {c : Nat} {l : List (List UInt8 × Int)} {j : Nat} (h : AnyAt w Bw Bn Br A c l j) (hb : Below w.heap.size w w') : AnyAt w' Bw Bn Br A c l j := by
  obtain ⟨b, hr⟩ := h.row
  exact ⟨box_same h.want (hb.block _ h.want.lt), box_same h.n (hb.block _ h.n.lt), box_same h.right (hb.block _ h.right.lt), ⟨b, ownsRow_of_block hr (fun k hk => hb.block k (hr.lt k hk).2)⟩⟩

set_option maxRecDepth 100000 in
set_option maxHeartbeats 8000000 in
theorem any1_any {w : World} {Bw Bn Br c j : Nat} {A : Option Addr} {l : List (List UInt8 × Int)} {x : List UInt8 × Int} (h : AnyAt w Bw Bn Br A c l j) (hl : l.length ≤ 100000) (hx : l[j]? = some x) (K V : ByteArray) (hK : K.data.toList = x.1) :
    Calls Try.prog 35 #[.string K, .string V, .pointer (some ⟨Br, 0, none⟩), .pointer (some ⟨Bn, 0, none⟩), .pointer (some ⟨Bw, 0, none⟩)] w fun e w' => e = .returned (.bool true) ∧ AnyAt w' Bw Bn Br A c l (j + 1) ∧ Below 0 w w' ∧ ∀ k, k ≠ Bn → k ≠ Br → w'.heap[k]? = w.heap[k]? := by
  have hj := (List.getElem?_eq_some_iff.1 hx).1
  obtain ⟨b, hr⟩ := h.row
  obtain ⟨g, rfl⟩ : ∃ g, A = some ⟨g, 0, none⟩ := by
    rcases hr.2 with ⟨q, q2⟩ | ⟨g, cap, cur, q, _⟩
    · omega
    · injection q with q
      exact ⟨g, q⟩
  have e0 := (World.ownsRow.cellAt hr (j * 2) (by omega)).trans (encIt_get KR.enc l j _ hx).1
  have hKK : (⟨x.1.toArray⟩ : ByteArray) = K := by rw [← hK]
  rw [hKK] at e0
  have hgl := World.block_lt_of_cell? w _ e0
  have hnr : Bn ≠ Br := fun e => by
    have h1 := h.n
    have h2 := h.right
    rw [e] at h1
    unfold Boxed at h1 h2
    rw [h1] at h2
    simp at h2
  have hnw : Bn ≠ Bw := fun e => by
    have h1 := h.n
    have h2 := h.want
    rw [e] at h1
    unfold Boxed at h1 h2
    rw [h1] at h2
    simp at h2
  have hrw : Br ≠ Bw := fun e => by
    have h1 := h.right
    have h2 := h.want
    rw [e] at h1
    unfold Boxed at h1 h2
    rw [h1] at h2
    simp at h2
  have hng : g ≠ Bn := fun e => h.n.not_row (by decide) hr (by rw [← e]; rfl)
  have hrg : g ≠ Br := fun e => h.right.not_row (by decide) hr (by rw [← e]; rfl)
  have ew := h.want.cell
  have en := h.n.cell
  have er := h.right.cell
  have fn := h.n.frozen
  have fr := h.right.frozen
  have HFIN : Hid (AnyAt ((w.setCell ⟨Br, 0, none⟩ (.bool true)).setCell ⟨Bn, 0, none⟩ (.int .i64 ((j + 1 : Nat) : Int))) Bw Bn Br (some ⟨g, 0, none⟩) c l (j + 1) ∧ Below 0 w ((w.setCell ⟨Br, 0, none⟩ (.bool true)).setCell ⟨Bn, 0, none⟩ (.int .i64 ((j + 1 : Nat) : Int))) ∧ ∀ k, k ≠ Bn → k ≠ Br → ((w.setCell ⟨Br, 0, none⟩ (.bool true)).setCell ⟨Bn, 0, none⟩ (.int .i64 ((j + 1 : Nat) : Int))).heap[k]? = w.heap[k]?) := by
    have keep : ∀ k, k ≠ Bn → k ≠ Br → ((w.setCell ⟨Br, 0, none⟩ (.bool true)).setCell ⟨Bn, 0, none⟩ (.int .i64 ((j + 1 : Nat) : Int))).heap[k]? = w.heap[k]? := fun k h1 h2 =>
      (Below.heap_setCell _ _ _ _ (show k ≠ Bn from h1)).trans (Below.heap_setCell _ _ _ _ (show k ≠ Br from h2))
    refine ⟨⟨box_same h.want (keep Bw hnw.symm hrw.symm), ?_, ?_, ⟨b, ownsRow_of_block hr (fun k hk => by
        injection hk with hk
        subst hk
        exact keep g hng hrg)⟩⟩, ((Below.refl 0 w).setCell (p := ⟨Br, 0, none⟩) (Nat.zero_le _) _).setCell (p := ⟨Bn, 0, none⟩) (Nat.zero_le _) _, keep⟩
    · exact (box_same h.n (Below.heap_setCell _ _ _ _ (show Bn ≠ Br from hnr))).set _
    · exact box_same (h.right.set (.bool true)) (Below.heap_setCell _ _ _ _ (show Br ≠ Bn from hnr.symm))
  have hjl : (j : Int) < (l.length : Int) := by omega
  have hwj : IntKind.i64.wrap ((j : Int) + 1) = ((j + 1 : Nat) : Int) := by rw [IntWalk.i64_in _ (by omega)]; omega
  obtain ⟨N, hN⟩ : ∃ N, l.length = N := ⟨_, rfl⟩
  rw [hN] at ew hjl hl
  have hjn : decide (j < N) = true := by simp; omega
  clear h hr hN hKK hx hK
  go_enter Try.func35, Try.ntmps35
  go_wp2
  go_ret
  exact ⟨rfl, HFIN.out⟩

set_option maxRecDepth 100000 in
set_option maxHeartbeats 8000000 in
theorem all1_keys {w : World} {base Q A n0 seed m Bw Bn Br c : Nat} {ow : Own} {A' : Option Addr} {t : Tb (List UInt8)} {l0 : List (List UInt8 × Int)} {gA gB : Nat} {sA sB : Nat → Value} (h : PT KS w base ow Q 86 seed t gA sA gB sB) (hg : Good (hashT seed) m t) (hm : m ≤ 4000) (hks : KeysT (fun k => k.length ≤ 1000) t) (hkl : ∀ x ∈ l0, x.1.length ≤ 1000) (hkk : l0.map (·.1) = (allT t).map (·.1))
    (hA : w.cell? ⟨A, 0, none⟩ = some (.pointer (some ⟨Q, 0, none⟩))) (hx : AnyAt w Bw Bn Br A' c l0 0) (hn : n0 ≤ Bn) (hr : n0 ≤ Br) (hn0 : n0 ≤ w.heap.size) :
    Calls Try.prog 57 #[.func (.func 35) #[] #[.pointer (some ⟨Br, 0, none⟩), .pointer (some ⟨Bn, 0, none⟩), .pointer (some ⟨Bw, 0, none⟩)], .pointer (some ⟨A, 0, none⟩)] w fun e w' => e = .returned (.tuple #[]) ∧ AnyAt w' Bw Bn Br A' c l0 l0.length ∧ Below n0 w w' := by
  have HP := Lib.hid (pairsS_any w h hg (by omega) hks)
  have hlen : (allT t).length < 5000 := by have := all_length hg.cnt; have := hg.n; omega
  have hl0 : l0.length = (allT t).length := by have := congrArg List.length hkk; simpa using this
  have HBX := Lib.hid hx
  have hbl : Bw < w.heap.size ∧ Bn < w.heap.size ∧ Br < w.heap.size := ⟨hx.want.lt, hx.n.lt, hx.right.lt⟩
  have HL0 := Lib.hid hl0
  obtain ⟨l, hl⟩ : ∃ l, allT t = l := ⟨_, rfl⟩
  rw [hl] at HP hlen hkk HL0
  have HKK := Lib.hid hkk
  have HKL := Lib.hid hkl
  obtain ⟨N, hN⟩ : ∃ N, l.length = N := ⟨_, rfl⟩
  have HN := Lib.hid hN
  clear h hg hks hx hl hkl hkk hl0
  go_enter Try.func57, Try.ntmps57
  go_wp2_with fail
  refine HP.out.mono ?_
  rintro e w2 ⟨vp, rfl, hrow, hb2⟩
  obtain ⟨Ap, cp, rfl⟩ := own_form hrow
  have HROW := Lib.hid hrow
  have HB2 := Lib.hid hb2
  have HBX2 := Lib.hid (HBX.out.below hb2)
  rw [hN] at HROW hlen ⊢
  clear hrow hb2 hN
  go_wp2_with fail
  go_loopw [8] (fun iv wr => ∃ (j : Nat), iv = .int .i64 j ∧ j ≤ N ∧ AnyAt wr Bw Bn Br A' c l0 j ∧ Below n0 w wr ∧ wr.ownsRow w.heap.size 90 2 (.slice Ap N cp) N (encIt KS.enc l) ∧ w2.heap.size ≤ wr.heap.size) (fun iv _ => N - (intOf iv).toNat)
  case atStart => exact ⟨0, rfl, by omega, HBX2.out, HB2.out.mono (by omega), HROW.out, Nat.le_refl _⟩
  case round =>
    obtain ⟨j, rfl, hj, hbxr, hbr, hpr, hsr⟩ := hrel
    by_cases hlt : j < N
    · obtain ⟨⟨k, n⟩, hx⟩ : ∃ x, l[j]? = some x := ⟨_, List.getElem?_eq_getElem (by rw [HN.out]; exact hlt)⟩
      obtain ⟨y, hy⟩ : ∃ y, l0[j]? = some y := ⟨_, List.getElem?_eq_getElem (by rw [HL0.out, HN.out]; exact hlt)⟩
      have hyk : y.1 = k := by
        have q := congrArg (fun z => z[j]?) HKK.out
        simp only [List.getElem?_map, hy, hx, Option.map_some, Option.some.injEq] at q
        exact q
      have hk : k.length ≤ 1000 := by rw [← hyk]; exact HKL.out y (List.mem_of_getElem? hy)
      obtain ⟨g, rfl⟩ : ∃ g, Ap = some ⟨g, 0, none⟩ := by
        rcases hpr.2 with ⟨q, q2⟩ | ⟨g, cap, cur, q, _⟩
        · omega
        · injection q with q
          exact ⟨g, q⟩
      have e0 := (World.ownsRow.cellAt hpr (j * 2) (by omega)).trans (encIt_get KS.enc l j _ hx).1
      have e1 := (World.ownsRow.cellAt hpr (j * 2 + 1) (by omega)).trans (encIt_get KS.enc l j _ hx).2
      obtain ⟨K, hK⟩ : ∃ K : ByteArray, (⟨k.toArray⟩ : ByteArray) = K := ⟨_, rfl⟩
      have hKd : K.data.toList = k := by rw [← hK]
      obtain ⟨V, hV⟩ : ∃ V : ByteArray, (⟨n.toArray⟩ : ByteArray) = V := ⟨_, rfl⟩
      dsimp only at e0
      replace e1 : wr.cell? ⟨g, j * 2 + 1, none⟩ = some (.string ⟨n.toArray⟩) := e1
      rw [hK] at e0
      rw [hV] at e1
      have hKs : K.size ≤ 1000 := by rw [← hK]; simpa [ByteArray.size] using hk
      have HCL := Lib.hid (fun X => clone_any K X (by omega))
      obtain ⟨wb, hwb⟩ : ∃ wb, wr.alloc (.cells #[.string K, .string V] 90) = wb := ⟨_, rfl⟩
      have hqb := heap_alloc_new wr (.cells #[.string K, .string V] 90)
      have hbb : Below wr.heap.size wr wb := by rw [← hwb]; exact (Below.refl _ _).alloc (Nat.le_refl _) _
      have hsb : wb.heap.size = wr.heap.size + 1 := by rw [← hwb]; simp
      rw [hwb] at hqb
      have hgl := World.block_lt_of_cell? wr _ e0
      have hgn : g ≠ Bn := fun e => hbxr.n.not_row (by decide) hpr (by rw [← e]; rfl)
      have hgr : g ≠ Br := fun e => hbxr.right.not_row (by decide) hpr (by rw [← e]; rfl)
      have hz0 := hbr.size
      have HST : Hid (∀ X, Below wb.heap.size wb X → X.cell? ⟨wr.heap.size, 0, none⟩ = some (.string K) ∧ X.cell? ⟨wr.heap.size, 1, none⟩ = some (.string V)) := fun X hX => by
        have hq := (hX.block wr.heap.size (by omega)).trans hqb
        exact ⟨by simp [World.cell?, hq], by simp [World.cell?, hq]⟩
      have HIT : Hid (∀ X, Below wb.heap.size wb X → Calls Try.prog 35 #[.string K, .string V, .pointer (some ⟨Br, 0, none⟩), .pointer (some ⟨Bn, 0, none⟩), .pointer (some ⟨Bw, 0, none⟩)] X fun e W' => e = .returned (.bool true) ∧ AnyAt W' Bw Bn Br A' c l0 (j + 1) ∧ Below n0 w W' ∧ W'.ownsRow w.heap.size 90 2 (.slice (some ⟨g, 0, none⟩) N cp) N (encIt KS.enc l) ∧ w2.heap.size ≤ W'.heap.size) := fun X hX => by
        have hX2 : Below wr.heap.size wr X := hbb.trans (hX.mono (by omega))
        refine (any1_any (hbxr.below hX2) (by have := HL0.out; have := HN.out; omega) hy K V (by rw [hKd, hyk])).mono ?_
        rintro e W' ⟨rfl, q1, q2, q3⟩
        have hXs := hX2.size
        refine ⟨rfl, q1, ⟨q2.os.trans (hX2.os.trans hbr.os), q2.tape.trans (hX2.tape.trans hbr.tape), q2.output.trans (hX2.output.trans hbr.output), Nat.le_trans hbr.size (Nat.le_trans hXs q2.size), fun i hi => (q3 i (by omega) (by omega)).trans ((hX2.block i (by omega)).trans (hbr.block i hi))⟩, ownsRow_of_block hpr (fun b hb => ?_), Nat.le_trans hsr (Nat.le_trans hXs q2.size)⟩
        injection hb with hb
        subst hb
        exact (q3 g hgn hgr).trans (hX2.block g hgl)
      have HWB := Lib.hid hwb
      obtain ⟨M, hM⟩ : ∃ M, wr.heap.size = M := ⟨_, rfl⟩
      rw [hM] at HST
      have HM := Lib.hid hM
      obtain ⟨y0, y1⟩ := HST.out wb (Below.refl _ _)
      have hcp : N ≤ 9223372036854775807 := by omega
      clear hqb hbb hsb hbxr hbr hpr hx hy hk hK hKd hV hyk hwb hM HN HROW HBX2 hsr hz0 hgn hgr
      go_wp2_with fail
      rw [HWB.out, HM.out]
      apply by_w (F := fun W' => AnyAt W' Bw Bn Br A' c l0 (j + 1) ∧ Below n0 w W' ∧ W'.ownsRow w.heap.size 90 2 (.slice (some ⟨g, 0, none⟩) N cp) N (encIt KS.enc l) ∧ w2.heap.size ≤ W'.heap.size)
      case h1 =>
        intro HFIN
        go_region_law (first
          | (have qq := HX4; go_simp; go_at_call 35; refine (HIT.out _ (by first | exact HX4.out | exact HX4.out.drew)).mono ?_; rintro en w5 ⟨rfl, hv5⟩; have HV5 := Lib.hid hv5; clear hv5)
          | (go_simp; go_at_call 59; refine (HCL.out _).mono ?_; rintro en w4 ⟨rfl, hb4⟩; have HX4 : Hid (Below wb.heap.size wb w4) := (by first | exact hb4 | exact (Below.refl wb.heap.size wb).drew.trans hb4); obtain ⟨x0, x1⟩ := HST.out w4 HX4.out; clear hb4))
        all_goals
          exact HFIN.out w5 HV5.out
      case h2 =>
        intro wf hround
        have HR := Lib.hid hround
        clear hround y0 y1 e0 e1
        go_wp2
        go_roundw
        case rel =>
          obtain ⟨q1, q2, q3, q4⟩ := HR.out
          exact ⟨j + 1, by go_num, by omega, q1, q2, q3, q4⟩
        case measure => simp only [intOf]; omega
    · obtain rfl : j = N := by omega
      have HE : Hid (l0.length = j) := by unfold Hid; rw [HL0.out, HN.out]
      have HQ := Lib.hid hbxr
      have HQ3 := Lib.hid hbr
      clear hbxr hbr hpr
      go_wp2_with fail
      go_end0
      rw [HE.out]
      exact ⟨rfl, HQ.out, HQ3.out⟩

set_option maxRecDepth 100000 in
set_option maxHeartbeats 8000000 in
theorem allS_any (p : Option Addr) (w : World) :
    Calls Try.prog 25 #[.pointer p] w fun e w' => e = .returned (.func (.func 57) #[] #[.pointer (some ⟨w.heap.size, 0, none⟩)]) ∧ w' = w.alloc (.cells #[.pointer p] 46) := by
  have hmf : ∀ (fn : Fn) (first cap : Array Value) (w : World), (Instr.makeFunc fn first cap).run Try.prog w = .ok (.func fn first cap) w := fun _ _ _ _ => rfl
  go_enter Try.func25, Try.ntmps25
  go_wp2
  go_ret
  exact ⟨rfl, rfl⟩

/-- A table of numbers and one of texts that share nothing. -/
structure AnyOn (W w : World) (b1 b2 : Nat) (o3 o4 : Own) (Q Q2 seed : Nat) (t : Tb Int) (u : Tb (List UInt8)) : Prop where
  t : ∃ gA sA gB sB, PT KI w b1 o3 Q 67 seed t gA sA gB sB
  u : ∃ gA sA gB sB, PT KS w b2 o4 Q2 86 seed u gA sA gB sB
  no : ∀ k, o3 k ≠ none → o4 k = none
  l1 : W.heap.size ≤ b1
  l2 : W.heap.size ≤ b2
  bel : Below W.heap.size W w

section
variable {W w w' : World} {b1 b2 Q Q2 seed : Nat} {o3 o4 o' : Own} {t t' : Tb Int} {u u' : Tb (List UInt8)}

theorem AnyOn.below (h : AnyOn W w b1 b2 o3 o4 Q Q2 seed t u) (hb : Below w.heap.size w w') : AnyOn W w' b1 b2 o3 o4 Q Q2 seed t u := by
  obtain ⟨gA, sA, gB, sB, ht⟩ := h.t
  obtain ⟨gA', sA', gB', sB', hu⟩ := h.u
  exact ⟨⟨_, _, _, _, ht.below' hb⟩, ⟨_, _, _, _, hu.below' hb⟩, h.no, h.l1, h.l2, h.bel.trans (hb.mono h.bel.size)⟩

theorem AnyOn.tstep (h : AnyOn W w b1 b2 o3 o4 Q Q2 seed t u) (h1 : ∃ gA sA gB sB, PT KI w' b1 o' Q 67 seed t' gA sA gB sB) (h2 : Turns o3 o' w w') : AnyOn W w' b1 b2 o' o4 Q Q2 seed t' u := by
  obtain ⟨gA, sA, gB, sB, ht⟩ := h.t
  obtain ⟨gA', sA', gB', sB', hu⟩ := h.u
  have hno : ∀ k, o4 k ≠ none → o3 k = none := fun k hk => by
    cases hq : o3 k with
    | none => rfl
    | some x => exact absurd (h.no k (by rw [hq]; exact fun e => by cases e)) hk
  refine ⟨h1, ⟨_, _, _, _, TbOn.beside hu h2 hno⟩, fun k hk => ?_, h.l1, h.l2, h.bel.trans (h2.below h.bel.size (fun k hk => Nat.le_trans h.l1 (TbOn.dom ht k hk).1))⟩
  cases hq : o4 k with
  | none => rfl
  | some x =>
    have hk4 : o4 k ≠ none := by rw [hq]; exact fun e => by cases e
    have := h2.same k (TbOn.dom hu k hk4).2
    rw [this] at hk
    exact absurd (hno k hk4) hk

theorem AnyOn.ustep (h : AnyOn W w b1 b2 o3 o4 Q Q2 seed t u) (h1 : ∃ gA sA gB sB, PT KS w' b2 o' Q2 86 seed u' gA sA gB sB) (h2 : Turns o4 o' w w') : AnyOn W w' b1 b2 o3 o' Q Q2 seed t u' := by
  obtain ⟨gA, sA, gB, sB, ht⟩ := h.t
  obtain ⟨gA', sA', gB', sB', hu⟩ := h.u
  refine ⟨⟨_, _, _, _, TbOn.beside ht h2 h.no⟩, h1, fun k hk => ?_, h.l1, h.l2, h.bel.trans (h2.below h.bel.size (fun k hk => Nat.le_trans h.l2 (TbOn.dom hu k hk).1))⟩
  rw [h2.same k (TbOn.dom ht k hk).2]
  exact h.no k hk
end

set_option maxRecDepth 100000 in
set_option maxHeartbeats 32000000 in
theorem tableAny_any (x : Int) (hlo : 0 ≤ x) (hhi : x ≤ 18446744073709551615) {A : Option Addr} {len cap g o : Nat} {L : List Op4} (W : World) (hL : ScrAt W A len cap g o L) :
    Calls Try.prog 8 #[.int .u64 x, .slice A len cap] W fun e W' => e = .returned (.bool true) ∧ Below W.heap.size W W' := by
  obtain ⟨seed, rfl⟩ : ∃ n : Nat, x = (n : Int) := ⟨x.toNat, by omega⟩
  have hseed : seed < 18446744073709551616 := by omega
  have HLL := Lib.hid hL
  have hle := hL.le
  have hmax := hL.max
  have HNEW := Lib.hid (newI_any seed W)
  have HNES := Lib.hid (fun X => newS_any seed X)
  have HRN := Lib.hid (fun X => rnew_any seed X)
  clear hL hlo hhi
  go_enter Try.func8, Try.ntmps8
  go_wp2_with fail
  refine HNEW.out.mono ?_
  rintro e w1 ⟨Q, o1, gA, sA, gB, sB, rfl, hp, hb⟩
  have HB1 := Lib.hid hb
  have HP1 := Lib.hid hp
  clear hp hb
  go_wp2_with fail
  refine (HNES.out w1).mono ?_
  rintro e w2 ⟨Q2, o2, gA2, sA2, gB2, sB2, rfl, hu, hb2⟩
  have HON : Hid (AnyOn W w2 W.heap.size w1.heap.size o1 o2 Q Q2 seed newT newT) := ⟨⟨gA, sA, gB, sB, HP1.out.below' hb2⟩, ⟨gA2, sA2, gB2, sB2, hu⟩, fun k hk => by
    cases hq : o2 k with
    | none => rfl
    | some y => exact absurd (TbOn.dom hu k (by rw [hq]; exact fun e => by cases e)).1 (by have := (TbOn.dom HP1.out k hk).2; omega), Nat.le_refl _, HB1.out.size, HB1.out.trans (hb2.mono HB1.out.size)⟩
  clear hu hb2
  obtain ⟨b2, hb2⟩ : ∃ b, w1.heap.size = b := ⟨_, rfl⟩
  rw [hb2] at HON
  clear hb2
  go_wp2_with fail
  go_loopw [7] (fun iv wr => ∃ (i : Nat) (o3 o4 : Own), iv = .int .i64 i ∧ i ≤ len ∧ i ≤ 200 ∧ AnyOn W wr W.heap.size b2 o3 o4 Q Q2 seed (tabT seed (L.take i)) (tabU seed (L.take i))) (fun iv _ => len - (intOf iv).toNat)
  case atStart => exact ⟨0, o1, o2, rfl, by omega, by omega, by rw [List.take_zero]; exact HON.out⟩
  case round =>
    obtain ⟨i, o3, o4, rfl, hi, hi2, hon⟩ := hrel
    obtain ⟨t, ht⟩ : ∃ t, tabT seed (L.take i) = t := ⟨_, rfl⟩
    obtain ⟨u, hu⟩ : ∃ u, tabU seed (L.take i) = u := ⟨_, rfl⟩
    have HT := Lib.hid ht
    have HU := Lib.hid hu
    rw [ht, hu] at hon
    have HO := Lib.hid hon
    have HGD : Hid (Good (hashT seed) i t ∧ KeysT (fun k => k.length ≤ 1000) t) := by
      unfold Hid
      have q := tab_good seed (L.take i)
      rw [ht] at q
      exact ⟨q.1.mono (by rw [List.length_take]; omega), q.2⟩
    have HGU : Hid (Good (hashT seed) i u ∧ KeysT (fun k => k.length ≤ 1000) u ∧ unT t = unT u) := by
      unfold Hid
      have q := tabU_good seed L i (by rw [HLL.out.len]; exact hi)
      rw [ht, hu] at q
      exact q
    clear hon ht hu
    by_cases hgo : i < len ∧ i < 200
    · obtain ⟨hlt, h200⟩ := hgo
      obtain ⟨op, hop⟩ : ∃ op, L[i]? = some op := ⟨_, List.getElem?_eq_getElem (by rw [HLL.out.len]; exact hlt)⟩
      obtain ⟨rfl, hg⟩ := HLL.out.at_ (by omega)
      obtain ⟨k0, k1, k2, k3⟩ := HLL.out.cells i op hop
      have HFIT := Lib.hid (HLL.out.fits op (List.mem_of_getElem? hop))
      have HTK : Hid (tabT seed (L.take (i + 1)) = actT seed t op.kind (cutK op.key).data.toList op.v) := by
        unfold Hid
        rw [List.take_add_one, hop, Option.toList_some, tabT_snoc, HT.out]
      have HUK : Hid (tabU seed (L.take (i + 1)) = actU seed u op.kind (cutK op.key).data.toList op.key.data.toList) := by
        unfold Hid
        rw [List.take_add_one, hop, Option.toList_some, tabU_snoc, HU.out]
      obtain ⟨okd, okey, ov, odr⟩ := op
      dsimp only at k0 k1 k2 k3 HFIT HTK HUK
      have e0 := (HO.out.bel.cell (p := ⟨g, o + i * 4, none⟩) hg).trans k0
      have e1 := (HO.out.bel.cell (p := ⟨g, o + i * 4 + 1, none⟩) hg).trans k1
      have e2 := (HO.out.bel.cell (p := ⟨g, o + i * 4 + 2, none⟩) hg).trans k2
      have e3 := (HO.out.bel.cell (p := ⟨g, o + i * 4 + 3, none⟩) hg).trans k3
      have hcc : cap ≤ 9223372036854775807 := hmax
      have hcl : len ≤ cap := hle
      clear k0 k1 k2 k3 hop
      have h200i : (i : Int) < 200 := by omega
      have h200b : decide ((i : Int) < 200) = true := by simpa using h200i
      obtain ⟨gA3, sA3, gB3, sB3, hp3⟩ := HO.out.t
      obtain ⟨gA4, sA4, gB4, sB4, hu4⟩ := HO.out.u
      go_wp2_with fail
      obtain ⟨wB, hwB⟩ : ∃ wB, wr.alloc (.cells #[.int .i64 okd, .string okey, .int .i64 ov, .int .u64 odr] 34) = wB := ⟨_, rfl⟩
      rw [hwB]
      have hbB : Below wr.heap.size wr wB := by rw [← hwB]; exact (Below.refl _ _).alloc (Nat.le_refl _) _
      have hblk : wB.heap[wr.heap.size]? = some (.cells #[.int .i64 okd, .string okey, .int .i64 ov, .int .u64 odr] 34 (0, 0)) := by rw [← hwB]; exact heap_alloc_new wr _
      have hsz : wB.heap.size = wr.heap.size + 1 := by rw [← hwB]; simp
      have hno : o3 wr.heap.size = none := by
        cases hq : o3 wr.heap.size with
        | none => rfl
        | some x => exact absurd (TbOn.dom hp3 wr.heap.size (by rw [hq]; exact fun e => by cases e)).2 (Nat.lt_irrefl _)
      have hno4 : o4 wr.heap.size = none := by
        cases hq : o4 wr.heap.size with
        | none => rfl
        | some x => exact absurd (TbOn.dom hu4 wr.heap.size (by rw [hq]; exact fun e => by cases e)).2 (Nat.lt_irrefl _)
      have HOB := Lib.hid (HO.out.below hbB)
      have HPB := Lib.hid (hp3.below' hbB)
      have HBOX : Hid (∀ (X : World), X.heap[wr.heap.size]? = wB.heap[wr.heap.size]? → X.cell? ⟨wr.heap.size, 0, none⟩ = some (.int .i64 okd) ∧ X.cell? ⟨wr.heap.size, 1, none⟩ = some (.string okey) ∧ X.cell? ⟨wr.heap.size, 2, none⟩ = some (.int .i64 ov) ∧ X.cell? ⟨wr.heap.size, 3, none⟩ = some (.int .u64 odr)) := fun X hX => by
        have hq := hX.trans hblk
        exact ⟨by simp [World.cell?, hq], by simp [World.cell?, hq], by simp [World.cell?, hq], by simp [World.cell?, hq]⟩
      have HKE2 := Lib.hid (fun X (hX : Below wB.heap.size wB X) => HBOX.out X (hX.block wr.heap.size (by omega)))
      have HKT2 := Lib.hid (fun X o' (hX : Turns o3 o' wB X) => hX.block wr.heap.size (by omega) hno)
      have HKT4 : Hid (∀ X Y o' (_ : wB.heap.size ≤ X.heap.size) (hX : Turns o4 o' X Y), Y.heap[wr.heap.size]? = X.heap[wr.heap.size]?) := fun X Y o' hs hX => hX.block wr.heap.size (by omega) hno4
      obtain ⟨N, hN⟩ : ∃ N, wr.heap.size = N := ⟨_, rfl⟩
      rw [hN] at HBOX HKE2 HKT2 HKT4
      rw [hN]
      obtain ⟨c0, c1, c2, c3⟩ := HKE2.out wB (Below.refl _ _)
      have HACT := Lib.hid (fun (X : World) (Q2 : Nat) (o2 : Own) (gA2 : Nat) (sA2 : Nat → Value) (gB2 : Nat) (sB2 : Nat → Value) (hX : Below wB.heap.size wB X) (hr : RT X wB.heap.size o2 Q2 seed newT gA2 sA2 gB2 sB2) => act_fresh hseed HPB.out hX hr HGD.out.1 (by omega) HGD.out.2 okd ov okey HFIT.out.1 odr HFIT.out.2)
      clear e0 e1 e2 e3 hwB hbB hblk hsz hno hno4 hN hp3 hu4
      apply by_two (F := fun _ v X => (∃ b : Bool, v = .bool b) ∧ ∃ o1' gA' sA' gB' sB', PT KI X W.heap.size o1' Q 67 seed (actT seed t okd (cutK okey).data.toList ov) gA' sA' gB' sB' ∧ Turns o3 o1' wB X)
      case h1 =>
        intro HFIN
        go_region_law (first
          | (have qq := HQ2; go_simp; go_at_call 16; refine (HACT.out _ _ _ _ _ _ _ (by first | exact HX2.out | exact HX2.out.drew) (by first | exact HQ2.out | exact HQ2.out.below' (Below.refl _ _).drew)).mono ?_; rintro en w5 ⟨bb, rfl, o5, gA5, sA5, gB5, sB5, hT5, hu5⟩; have HT5 := Lib.hid hT5; have HU5 := Lib.hid hu5; clear hT5 hu5)
          | (go_simp; go_at_call 15; refine (HRN.out _).mono ?_; rintro en w4 ⟨Q9, o9, gA9, sA9, gB9, sB9, rfl, hr2, hb2⟩; have HQ2 := Lib.hid hr2; have HX2 : Hid (Below wB.heap.size wB w4) := (by first | exact hb2 | exact (Below.refl wB.heap.size wB).drew.trans hb2); obtain ⟨y0, y1, y2, y3⟩ := HKE2.out w4 HX2.out; clear hr2 hb2))
        all_goals
          have HROUND := (⟨⟨_, rfl⟩, _, _, _, _, _, HT5.out, HU5.out⟩ : (∃ b : Bool, Value.bool bb = .bool b) ∧ ∃ o1' gA' sA' gB' sB', PT KI w5 W.heap.size o1' Q 67 seed (actT seed t okd (cutK okey).data.toList ov) gA' sA' gB' sB' ∧ Turns o3 o1' wB w5)
          obtain ⟨v9, hv9⟩ : ∃ v9, Value.bool bb = v9 := ⟨_, rfl⟩
          rw [hv9] at HROUND ⊢
          obtain ⟨v8, hv8⟩ : ∃ v8, Value.pointer (some ⟨Q9, 0, none⟩) = v8 := ⟨_, rfl⟩
          rw [hv8]
          exact HFIN.out v8 v9 w5 HROUND
      case h2 =>
        intro v8 v9 wf hround
        obtain ⟨⟨bb, rfl⟩, o5, gA5, sA5, gB5, sB5, hp5, hu5⟩ := hround
        have HKF : Hid (wf.heap[N]? = wB.heap[N]?) := HKT2.out wf _ hu5
        have hsf : wB.heap.size ≤ wf.heap.size := hu5.size
        have HON5 := Lib.hid (HOB.out.tstep ⟨_, _, _, _, hp5⟩ hu5)
        obtain ⟨y0, y1, y2, y3⟩ := HBOX.out wf HKF.out
        clear hp5 hu5 c0 c1 c2 c3 y2 y3
        have HKEY := Lib.hid (fun w => key_any okey w HFIT.out.1)
        have hck := cutK_size okey
        obtain ⟨C, hC⟩ : ∃ C, cutK okey = C := ⟨_, rfl⟩
        rw [hC] at HKEY hck HON5 HTK HUK
        clear hC
        obtain ⟨gA6, sA6, gB6, sB6, hu6⟩ := HON5.out.u
        have HU6 := Lib.hid (fun X hX => PT.below' (w' := X) hu6 hX)
        clear hu6
        have HUP : Hid (∀ (X Y : World) (o6 : Own) (u' : Tb (List UInt8)), Below wf.heap.size wf X → (∃ gA sA gB sB, PT KS Y b2 o6 Q2 86 seed u' gA sA gB sB) → Turns o4 o6 X Y → AnyOn W Y W.heap.size b2 o5 o6 Q Q2 seed (actT seed t okd C.data.toList ov) u') := fun X Y o6 u' hX h1 h2 => (HON5.out.below hX).ustep h1 h2
        have hB0 := Below.refl wf.heap.size wf
        have hm50 : i ≤ 50000 := by omega
        have hC0 : C.size ≤ 1000 := by omega
        have hNL := World.block_lt_of_cell? wf _ y1
        by_cases k1 : okd = 1
        · subst k1
          have HUK1 : Hid (tabU seed (L.take (i + 1)) = putS (hashT seed) (stepT (hashT seed) u) C.data.toList okey.data.toList) := by
            unfold Hid
            rw [HUK.out]
            rfl
          have HPUT : Hid (∀ X, Below wf.heap.size wf X → Calls Try.prog 31 #[.pointer (some ⟨Q2, 0, none⟩), .string C, .string okey] X fun e w' => ∃ (b : Bool) (o6 : Own), e = .returned (.bool b) ∧ w'.cell? ⟨N, 1, none⟩ = some (.string okey) ∧ AnyOn W w' W.heap.size b2 o5 o6 Q Q2 seed (actT seed t 1 C.data.toList ov) (putS (hashT seed) (stepT (hashT seed) u) C.data.toList okey.data.toList)) := fun X hX => by
            refine Calls.mono (putS_any hseed C.data.toList C rfl hC0 okey.data.toList X (HU6.out X hX) HGU.out.1 hm50 HGU.out.2.1) ?_
            rintro e w' ⟨rfl, o6, gA7, sA7, gB7, sB7, h7, ht7⟩
            exact ⟨_, o6, rfl, (HBOX.out w' ((HKT4.out X w' o6 (Nat.le_trans hsf hX.size) ht7).trans ((hX.block N hNL).trans HKF.out))).2.1, HUP.out X w' o6 _ hX ⟨_, _, _, _, h7⟩ ht7⟩
          go_wp2_with fail
          go_region_held3 (fun X => X.cell? ⟨N, 1, none⟩ = some (.string okey)) (first | exact HC7.out | exact y1) (first
            | (go_at_call 31; refine Calls.mono (HPUT.out _ (by first | exact hB0 | exact hB0.drew | exact hB0.drew.drew)) ?_; rintro en w7 ⟨b7, o6, rfl, hc7, hon7⟩; have HC7 := Lib.hid hc7; have HON7 := Lib.hid hon7; clear hon7 hc7)
            | (go_at_call 10; refine Calls.mono (HKEY.out _) ?_; rintro en w8 ⟨rfl, rfl⟩))
          all_goals
            go_wp2
            go_roundw
            case rel => exact ⟨i + 1, o5, o6, by go_num, by omega, by omega, by rw [HTK.out, HUK1.out]; exact HON7.out⟩
            case measure => simp only [intOf]; omega
        · have g1 : (okd == 1) = false := by simpa using k1
          by_cases k2 : okd = 2
          · subst k2
            have HUK1 : Hid (tabU seed (L.take (i + 1)) = stepT (hashT seed) u) := by
              unfold Hid
              rw [HUK.out]
              rfl
            have HGET : Hid (∀ X, Below wf.heap.size wf X → Calls Try.prog 32 #[.pointer (some ⟨Q2, 0, none⟩), .string C] X fun e w' => ∃ (v b : Value) (o6 : Own), e = .returned (.tuple #[v, b]) ∧ AnyOn W w' W.heap.size b2 o5 o6 Q Q2 seed (actT seed t 2 C.data.toList ov) (stepT (hashT seed) u)) := fun X hX => by
              refine Calls.mono (getS_any hseed C.data.toList C rfl hC0 X (HU6.out X hX) HGU.out.1 hm50 HGU.out.2.1) ?_
              rintro e w' ⟨rfl, o6, gA7, sA7, gB7, sB7, h7, ht7⟩
              exact ⟨_, _, o6, rfl, HUP.out X w' o6 _ hX ⟨_, _, _, _, h7⟩ ht7⟩
            go_wp2_with fail
            refine (HKEY.out _).mono ?_
            rintro e w8 ⟨rfl, rfl⟩
            go_wp2_with fail
            refine (HGET.out _ hB0).mono ?_
            rintro e w7 ⟨v7, b7, o6, rfl, hon7⟩
            have HON7 := Lib.hid hon7
            clear hon7
            go_wp2
            go_roundw
            case rel => exact ⟨i + 1, o5, o6, by go_num, by omega, by omega, by rw [HTK.out, HUK1.out]; exact HON7.out⟩
            case measure => simp only [intOf]; omega
          · have g2 : (okd == 2) = false := by simpa using k2
            by_cases k3 : okd = 3
            · subst k3
              have HUK1 : Hid (tabU seed (L.take (i + 1)) = delS (hashT seed) (stepT (hashT seed) u) C.data.toList) := by
                unfold Hid
                rw [HUK.out]
                rfl
              have HDEL : Hid (∀ X, Below wf.heap.size wf X → Calls Try.prog 33 #[.pointer (some ⟨Q2, 0, none⟩), .string C] X fun e w' => ∃ (b : Bool) (o6 : Own), e = .returned (.bool b) ∧ AnyOn W w' W.heap.size b2 o5 o6 Q Q2 seed (actT seed t 3 C.data.toList ov) (delS (hashT seed) (stepT (hashT seed) u) C.data.toList)) := fun X hX => by
                refine Calls.mono (delS_any hseed C.data.toList C rfl hC0 X (HU6.out X hX) HGU.out.1 hm50 HGU.out.2.1) ?_
                rintro e w' ⟨rfl, o6, gA7, sA7, gB7, sB7, h7, ht7⟩
                exact ⟨_, o6, rfl, HUP.out X w' o6 _ hX ⟨_, _, _, _, h7⟩ ht7⟩
              go_wp2_with fail
              refine (HKEY.out _).mono ?_
              rintro e w8 ⟨rfl, rfl⟩
              go_wp2_with fail
              refine (HDEL.out _ hB0).mono ?_
              rintro e w7 ⟨b7, o6, rfl, hon7⟩
              have HON7 := Lib.hid hon7
              clear hon7
              go_wp2
              go_roundw
              case rel => exact ⟨i + 1, o5, o6, by go_num, by omega, by omega, by rw [HTK.out, HUK1.out]; exact HON7.out⟩
              case measure => simp only [intOf]; omega
            · have g3 : (okd == 3) = false := by simpa using k3
              by_cases k5 : okd = 5
              · subst k5
                have HUK1 : Hid (tabU seed (L.take (i + 1)) = stepT (hashT seed) u) := by
                  unfold Hid
                  rw [HUK.out]
                  rfl
                have HSTP : Hid (∀ X, Below wf.heap.size wf X → Calls Try.prog 34 #[.pointer (some ⟨Q2, 0, none⟩)] X fun e w' => ∃ (b : Bool) (o6 : Own), e = .returned (.bool b) ∧ AnyOn W w' W.heap.size b2 o5 o6 Q Q2 seed (actT seed t 5 C.data.toList ov) (stepT (hashT seed) u)) := fun X hX => by
                  refine Calls.mono (stepS_any hseed X (HU6.out X hX) HGU.out.1 hm50 HGU.out.2.1) ?_
                  rintro e w' ⟨rfl, o6, gA7, sA7, gB7, sB7, h7, ht7⟩
                  exact ⟨_, o6, rfl, HUP.out X w' o6 _ hX ⟨_, _, _, _, h7⟩ ht7⟩
                go_wp2_with fail
                refine (HSTP.out _ hB0).mono ?_
                rintro e w7 ⟨b7, o6, rfl, hon7⟩
                have HON7 := Lib.hid hon7
                clear hon7
                go_wp2
                go_roundw
                case rel => exact ⟨i + 1, o5, o6, by go_num, by omega, by omega, by rw [HTK.out, HUK1.out]; exact HON7.out⟩
                case measure => simp only [intOf]; omega
              · have g5 : (okd == 5) = false := by simpa using k5
                have HUK1 : Hid (tabU seed (L.take (i + 1)) = u) := by
                  unfold Hid
                  rw [HUK.out]
                  unfold actU
                  rw [if_neg k1, if_neg k2, if_neg k3, if_neg k5]
                go_wp2_with fail
                go_roundw
                case rel => exact ⟨i + 1, o5, o4, by go_num, by omega, by omega, by rw [HTK.out, HUK1.out]; exact HON5.out⟩
                case measure => simp only [intOf]; omega
    · have hx : (i < len ∧ ¬ i < 200) ∨ ¬ i < len := by omega
      obtain ⟨gA3, sA3, gB3, sB3, hp3⟩ := HO.out.t
      obtain ⟨gA4, sA4, gB4, sB4, hu4⟩ := HO.out.u
      have HIT := Lib.hid (items_any hp3 HGD.out.1 (by omega) HGD.out.2)
      clear hgo
      rcases hx with ⟨hlt, h200⟩ | hlt
      all_goals first
        | have h200n : ¬ (i : Int) < 200 := by omega
          have h200b : decide ((i : Int) < 200) = false := by simpa using h200n
          have hin : (i : Int) < len := by omega
          go_wp2_with fail
        | have hin : ¬ (i : Int) < len := by omega
          go_wp2_with fail
      all_goals
        refine HIT.out.mono ?_
        rintro e w5 ⟨vi, rfl, hri, hb5⟩
        obtain ⟨Ai, ci, rfl⟩ := own_form hri
        have HKL := Lib.hid (keys_all HGD.out.2)
        have hm40 : i ≤ 4000 := by omega
        go_wp2_with fail
        obtain ⟨wA, hwA⟩ : ∃ wA, w5.alloc (.cells #[.slice Ai (allT t).length ci] 42) = wA := ⟨_, rfl⟩
        obtain ⟨wB, hwB⟩ : ∃ wB, wA.alloc (.cells #[.int .i64 0] 3) = wB := ⟨_, rfl⟩
        obtain ⟨wC, hwC⟩ : ∃ wC, wB.alloc (.cells #[.bool true] 4) = wC := ⟨_, rfl⟩
        have zA : wA.heap.size = w5.heap.size + 1 := by rw [← hwA]; simp
        have zB : wB.heap.size = w5.heap.size + 1 + 1 := by rw [← hwB]; simp [zA]
        have zC : wC.heap.size = w5.heap.size + 1 + 1 + 1 := by rw [← hwC]; simp [zB]
        have bA : Boxed wA w5.heap.size 42 (.slice Ai (allT t).length ci) := by rw [← hwA]; exact Boxed.new w5 _ _
        have bB : Boxed wB (w5.heap.size + 1) 3 (.int .i64 0) := by rw [← hwB, ← zA]; exact Boxed.new wA _ _
        have bC : Boxed wC (w5.heap.size + 1 + 1) 4 (.bool true) := by rw [← hwC, ← zB]; exact Boxed.new wB _ _
        have bB2 : Boxed wC (w5.heap.size + 1) 3 (.int .i64 0) := by rw [← hwC]; exact bB.alloc _
        have bA2 : Boxed wC w5.heap.size 42 (.slice Ai (allT t).length ci) := by rw [← hwC, ← hwB]; exact (bA.alloc _).alloc _
        have uA : Below w5.heap.size w5 wA := by rw [← hwA]; exact (Below.refl _ _).alloc (Nat.le_refl _) _
        have uB : Below w5.heap.size w5 wB := by rw [← hwB]; exact uA.alloc (by omega) _
        have uC : Below w5.heap.size w5 wC := by rw [← hwC]; exact uB.alloc (by omega) _
        have hAN : AnyAt wC w5.heap.size (w5.heap.size + 1) (w5.heap.size + 1 + 1) Ai ci (allT t) 0 := ⟨bA2, bB2, bC, ⟨_, ownsRow_of_block hri (fun b hb => uC.block b (hri.lt b hb).2)⟩⟩
        rw [hwA, hwB, hwC]
        have z5 := hb5.size
        have HBC := Lib.hid (hb5.trans (uC.mono z5))
        have HWC := Lib.hid (HO.out.bel.trans (HBC.out.mono HO.out.bel.size))
        have HAS := Lib.hid (allS_any (some ⟨Q2, 0, none⟩) wC)
        obtain ⟨B5, hB5⟩ : ∃ B, w5.heap.size = B := ⟨_, rfl⟩
        rw [hB5] at hAN zC z5
        rw [hB5]
        have HAN := Lib.hid hAN
        have HUKK := Lib.hid (un_keys HGU.out.2.2)
        obtain ⟨us1, us2, us3⟩ := un_sizes HGU.out.2.2
        have HS1 := Lib.hid (fun X (hX : Below wr.heap.size wr X) => sizesI_any X (hp3.below' hX) HGD.out.1.kept.pos)
        have HS2 := Lib.hid (fun X (hX : Below wr.heap.size wr X) => sizesS_any X (hu4.below' hX) HGU.out.1.kept.pos)
        have HUX := Lib.hid (fun X (hX : Below wr.heap.size wr X) => hu4.below' hX)
        have HALV := Lib.hid (fun X => alive_any X)
        obtain ⟨l, hl⟩ : ∃ l, allT t = l := ⟨_, rfl⟩
        rw [hl] at HAN HKL HUKK
        have HALL := Lib.hid (fun X A (hX : Below wr.heap.size wr X) (hA : X.cell? ⟨A, 0, none⟩ = some (.pointer (some ⟨Q2, 0, none⟩))) (hx : AnyAt X B5 (B5 + 1) (B5 + 1 + 1) Ai ci l 0) (hz : B5 ≤ X.heap.size) => all1_keys (n0 := B5) (HUX.out X hX) HGU.out.1 hm40 HGU.out.2.1 HKL.out HUKK.out hA hx (by omega) (by omega) hz)
        rw [← us1, ← us2, ← us3] at HS2
        obtain ⟨na, hna⟩ : ∃ n, t.A.length = n := ⟨_, rfl⟩
        obtain ⟨nb, hnb⟩ : ∃ n, t.B.length = n := ⟨_, rfl⟩
        obtain ⟨nm, hnm⟩ : ∃ n, t.moved = n := ⟨_, rfl⟩
        rw [hna, hnb, hnm] at HS1 HS2
        obtain ⟨N, hN⟩ : ∃ N, l.length = N := ⟨_, rfl⟩
        have HN := Lib.hid hN
        have hz5 : wr.heap.size ≤ B5 := z5
        have hzC : B5 ≤ wC.heap.size := by omega
        have hmf : ∀ (fn : Fn) (first cap : Array Value) (w : World), (Instr.makeFunc fn first cap).run Try.prog w = .ok (.func fn first cap) w := fun _ _ _ _ => rfl
        have hng : ∀ (W : World) (f : Fn) (a b : Array Value), (binOp .eql 50 (.func f a b) .nilFunc).run Try.prog W = .ok (.bool false) W := fun _ _ _ _ => by first | rfl | kernel_rfl
        clear hwA hwB hwC zA zB bA bB bC bB2 bA2 uA uB uC hAN hri hb5 hB5 us1 us2 us3 hl hna hnb hnm hN hp3 hu4 zC z5
        refine HAS.out.mono ?_
        rintro e w7 ⟨rfl, hw7⟩
        have hb7 : Below wC.heap.size wC w7 := by rw [hw7]; exact (Below.refl _ _).alloc (Nat.le_refl _) _
        have hc7 : w7.cell? ⟨wC.heap.size, 0, none⟩ = some (.pointer (some ⟨Q2, 0, none⟩)) := by
          have q := heap_alloc_new wC (.cells #[.pointer (some ⟨Q2, 0, none⟩)] 46)
          rw [← hw7] at q
          simp [World.cell?, q]
        have HB7 := Lib.hid (HBC.out.trans (hb7.mono HBC.out.size))
        have HCALL := Lib.hid (HALL.out w7 _ HB7.out hc7 (HAN.out.below hb7) (Nat.le_trans hzC hb7.size))
        clear hw7 hb7 hc7
        go_wp2_with fail
        refine HCALL.out.mono ?_
        rintro e w8 ⟨rfl, q1, q2⟩
        have HAN8 := Lib.hid q1
        have HB8 := Lib.hid (HB7.out.trans (q2.mono hz5))
        clear q1 q2
        go_wp2_with fail
        refine (HS1.out w8 HB8.out).mono ?_
        rintro e w9 ⟨rfl, hb9⟩
        have HAN9 := Lib.hid (HAN8.out.below hb9)
        have HB9 := Lib.hid (HB8.out.trans (hb9.mono HB8.out.size))
        clear hb9
        go_wp2_with fail
        refine (HS2.out w9 HB9.out).mono ?_
        rintro e w10 ⟨rfl, hb10⟩
        have HAN10 := Lib.hid (HAN9.out.below hb10)
        have HB10 := Lib.hid (HB9.out.trans (hb10.mono HB9.out.size))
        clear hb10
        have c1 := HAN10.out.right.cell
        have c2 := HAN10.out.n.cell
        have c3 := HAN10.out.want.cell
        rw [HN.out] at c2 c3
        go_wp2_with fail
        refine (HALV.out w10).mono ?_
        rintro e w11 ⟨rfl, hb11⟩
        have HB11 := Lib.hid (HB10.out.trans (hb11.mono HB10.out.size))
        clear hb11
        go_wp2
        go_ret
        exact ⟨rfl, HO.out.bel.trans (HB11.out.mono HO.out.bel.size)⟩

end Go.Proofs.Ytcjoakbaldeaoaa
