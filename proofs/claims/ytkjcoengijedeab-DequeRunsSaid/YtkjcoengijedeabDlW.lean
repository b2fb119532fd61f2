/-
  The statements' closure that collects what is ranged over (walked$1). Conditions: its boxes lie in memory as typed.
-/
import Derived.Test.YtkjcoengijedeabGQmS
import Derived.Test.YtkjcoengijedeabDlA
import Derived.RangeFuncBox
namespace Go.Proofs.Ytkjcoengijedeab
open Go.RowKit

/-- The boxes of walked: back, most, l, ok, at, one behind the other; the row's own box; what has been collected. -/
structure WkAt (w : World) (n0 B Bn : Nat) (pd : Option Addr) (back : Bool) (most at_ : Int) (xs : List Value) : Prop where
  low : n0 ≤ B
  bn : B + 4 < Bn
  bk : Boxed w B 4 (.bool back)
  mo : Boxed w (B + 1) 3 (.int .i64 most)
  l : ∃ v, Boxed w (B + 2) 22 v ∧ w.ownsRow n0 9 1 v xs.length xs
  ok : Boxed w (B + 3) 4 (.bool true)
  at_ : Boxed w (B + 4) 3 (.int .i64 at_)
  d : Boxed w Bn 25 (.pointer pd)

theorem box_same {w w' : World} {B : Nat} {t : TypeId} {v : Value} (h : Boxed w B t v) (e : w'.heap[B]? = w.heap[B]?) : Boxed w' B t v := e.trans h

theorem WkAt.below {w w' : World} {n0 B Bn : Nat} {pd : Option Addr} {back : Bool} {most a : Int} {xs : List Value} (h : WkAt w n0 B Bn pd back most a xs) (hb : Below w.heap.size w w') : WkAt w' n0 B Bn pd back most a xs := by
  obtain ⟨v, h1, h2⟩ := h.l
  exact ⟨h.low, h.bn, box_same h.bk (hb.block _ h.bk.lt), box_same h.mo (hb.block _ h.mo.lt), ⟨v, box_same h1 (hb.block _ h1.lt), ownsRow_of_block1 h2 (fun b q => hb.block b (h2.lt b q).2)⟩, box_same h.ok (hb.block _ h.ok.lt), box_same h.at_ (hb.block _ h.at_.lt), box_same h.d (hb.block _ h.d.lt)⟩

set_option maxRecDepth 100000 in
set_option maxHeartbeats 8000000 in
theorem walked1_any {n0 B Bn : Nat} {pd : Option Addr} {back : Bool} {most : Int} {a : Int} {xs : List Value} (w : World) (h : WkAt w n0 B Bn pd back most a xs) (s : ByteArray) (hn0 : n0 ≤ w.heap.size) (hx : xs.length ≤ 1000000) (ha : -1000000 ≤ a) (ha2 : a ≤ 1000000) :
    Calls Try.prog 41 #[.int .i64 a, .string s, .pointer (some ⟨B + 3, 0, none⟩), .pointer (some ⟨B + 4, 0, none⟩), .pointer (some ⟨B + 2, 0, none⟩), .pointer (some ⟨B, 0, none⟩), .pointer (some ⟨B + 1, 0, none⟩)] w fun e w' => e = .returned (.bool (decide (((xs.length + 1 : Nat) : Int) < most))) ∧ WkAt w' n0 B Bn pd back most (if back then a - 1 else a + 1) (xs ++ [.string s]) ∧ Below n0 w w' := by
  obtain ⟨ip, hip, hyp⟩ := Option.map_eq_some_iff.1 info_eltS
  simp only [Prod.mk.injEq] at hyp
  have HIP := Lib.hid hyp
  have HIQ := Lib.hid hip
  have H := Lib.hid h
  obtain ⟨v, hv, hrow⟩ := h.l
  have HROW := Lib.hid hrow
  have HV := Lib.hid hv
  have eok := h.ok.cell
  have fok := h.ok.frozen
  have eat := h.at_.cell
  have fat := h.at_.frozen
  have ebk := h.bk.cell
  have emo := h.mo.cell
  have el := hv.cell
  have fl := hv.frozen
  have kbk := h.bk.lt
  have kat := h.at_.lt
  have kbn := h.bn
  clear hyp hip
  have hset : ∀ k, k ≠ B + 3 → (w.setCell ⟨B + 3, 0, none⟩ (.bool true)).heap[k]? = w.heap[k]? := fun k hk => Below.heap_setCell _ _ _ _ hk
  have hno3 : ∀ b, v.ownBlock = some b → b ≠ B + 3 := fun b hb e => h.ok.not_row (by decide) hrow (by rw [← e, hb])
  have hno2 : ∀ b, v.ownBlock = some b → b ≠ B + 2 := fun b hb e => hv.not_row (by decide) hrow (by rw [← e, hb])
  have hno4 : ∀ b, v.ownBlock = some b → b ≠ B + 4 := fun b hb e => h.at_.not_row (by decide) hrow (by rw [← e, hb])
  have hno1 : ∀ b, v.ownBlock = some b → b ≠ B + 1 := fun b hb e => h.mo.not_row (by decide) hrow (by rw [← e, hb])
  have hno0 : ∀ b, v.ownBlock = some b → b ≠ B := fun b hb e => h.bk.not_row (by decide) hrow (by rw [← e, hb])
  have hnod : ∀ b, v.ownBlock = some b → b ≠ Bn := fun b hb e => h.d.not_row (by decide) hrow (by rw [← e, hb])
  have HROW1 := Lib.hid ((ownsRow_of_block1 (w' := w.setCell ⟨B + 3, 0, none⟩ (.bool true)) hrow (fun b hb => hset b (hno3 b hb))).alloc (.cells #[.string s] 9))
  have HSL := Lib.hid (SlAt.one (w.setCell ⟨B + 3, 0, none⟩ (.bool true)) 9 (.string s))
  have hzs : (w.setCell ⟨B + 3, 0, none⟩ (.bool true)).heap.size = w.heap.size := by simp [World.setCell]
  obtain ⟨wx, hwx⟩ : ∃ wx, (w.setCell ⟨B + 3, 0, none⟩ (.bool true)).alloc (.cells #[.string s] 9) = wx := ⟨_, rfl⟩
  have hzx : wx.heap.size = w.heap.size + 1 := by rw [← hwx]; simp [hzs]
  have hxs : ∀ k, k < w.heap.size → k ≠ B + 3 → wx.heap[k]? = w.heap[k]? := fun k hk hk3 => by
    rw [← hwx]
    exact (Below.heap_alloc _ _ _ (by rw [hzs]; exact hk)).trans (hset k hk3)
  have hxok : Boxed wx (B + 3) 4 (.bool true) := by
    rw [← hwx]
    exact (h.ok.set _).alloc _
  have HBX : Hid (Below n0 w wx) := by
    unfold Hid
    rw [← hwx]
    exact ((Below.refl _ _).setCell (p := ⟨B + 3, 0, none⟩) (by show n0 ≤ B + 3; have := h.low; omega) _).alloc (by rw [hzs]; exact hn0) _
  rw [hwx] at HROW1 HSL
  rw [hzs] at HSL
  have HAFTER : Hid (∀ w5 A5 c5, w5.ownsRow n0 9 1 (.slice A5 (xs.length + 1) c5) (xs.length + 1) (xs ++ [.string s]) → wx.grownBy w5 v.ownBlock → ((Value.slice A5 (xs.length + 1) c5).ownBlock = v.ownBlock ∨ (Value.slice A5 (xs.length + 1) c5).ownBlock = some wx.heap.size) →
      Boxed w5 (B + 4) 3 (.int .i64 a) ∧ Boxed w5 (B + 1) 3 (.int .i64 most) ∧ Boxed w5 B 4 (.bool back) ∧ Boxed w5 (B + 2) 22 v ∧
      ∀ a', WkAt ((w5.setCell ⟨B + 2, 0, none⟩ (.slice A5 (xs.length + 1) c5)).setCell ⟨B + 4, 0, none⟩ (.int .i64 a')) n0 B Bn pd back most a' (xs ++ [.string s]) ∧ Below n0 w ((w5.setCell ⟨B + 2, 0, none⟩ (.slice A5 (xs.length + 1) c5)).setCell ⟨B + 4, 0, none⟩ (.int .i64 a'))) := by
    intro w5 A5 c5 h1 h2 h3
    have kbl := hv.lt
    have kdl := h.d.lt
    have hge : ∀ b, v.ownBlock = some b → n0 ≤ b := fun b hb => (hrow.lt b hb).1
    have keep : ∀ k, k < w.heap.size → k ≠ B + 3 → (∀ b, v.ownBlock = some b → b ≠ k) → w5.heap[k]? = w.heap[k]? := fun k hk hk3 hk4 =>
      (h2.block k (by omega) (fun e => hk4 k e.symm rfl)).trans (hxs k hk hk3)
    have q4 := box_same h.at_ (keep (B + 4) (by omega) (by omega) hno4)
    have q1 := box_same h.mo (keep (B + 1) (by omega) (by omega) hno1)
    have q0 := box_same h.bk (keep B (by omega) (by omega) hno0)
    have q2 := box_same hv (keep (B + 2) (by omega) (by omega) hno2)
    have qd := box_same h.d (keep Bn kdl (by omega) hnod)
    have q3 : Boxed w5 (B + 3) 4 (.bool true) := hxok.kept h2 (fun e => hno3 _ e.symm rfl)
    refine ⟨q4, q1, q0, q2, fun a' => ⟨?_, ?_⟩⟩
    · have hk : ∀ k, k ≠ B + 2 → k ≠ B + 4 → ((w5.setCell ⟨B + 2, 0, none⟩ (.slice A5 (xs.length + 1) c5)).setCell ⟨B + 4, 0, none⟩ (.int .i64 a')).heap[k]? = w5.heap[k]? := fun k e1 e2 =>
        (Below.heap_setCell _ _ _ _ (show k ≠ B + 4 from e2)).trans (Below.heap_setCell _ _ _ _ (show k ≠ B + 2 from e1))
      have hnw : ∀ b, (Value.slice A5 (xs.length + 1) c5).ownBlock = some b → b ≠ B + 2 ∧ b ≠ B + 4 := fun b hb => by
        rcases h3 with q | q
        · exact ⟨hno2 b (q.symm.trans hb), hno4 b (q.symm.trans hb)⟩
        · rw [q] at hb
          injection hb with hb
          omega
      refine ⟨h.low, h.bn, box_same q0 (hk B (by omega) (by omega)), box_same q1 (hk (B + 1) (by omega) (by omega)), ⟨_, box_same (q2.set _) (Below.heap_setCell _ _ _ _ (show B + 2 ≠ B + 4 by omega)), ?_⟩, box_same q3 (hk (B + 3) (by omega) (by omega)), ?_, box_same qd (hk Bn (by omega) (by omega))⟩
      · rw [List.length_append]
        exact ownsRow_of_block1 h1 (fun b hb => hk b (hnw b hb).1 (hnw b hb).2)
      · exact (box_same q4 (Below.heap_setCell _ _ _ _ (show B + 4 ≠ B + 2 by omega))).set _
    · have hl := h.low
      exact ((HBX.out.grown h2 (by omega) hge).setCell (p := ⟨B + 2, 0, none⟩) (by show n0 ≤ B + 2; omega) _).setCell (p := ⟨B + 4, 0, none⟩) (by show n0 ≤ B + 4; omega) _
  have HWX := Lib.hid hwx
  have hwa : IntKind.i64.wrap (a - 1) = a - 1 := IntWalk.i64_in _ (by omega)
  have hwb : IntKind.i64.wrap (a + 1) = a + 1 := IntWalk.i64_in _ (by omega)
  obtain ⟨f, hf⟩ : ∃ f, xs.length = f := ⟨_, rfl⟩
  have HFE := Lib.hid hf
  rw [hf] at HROW1 HAFTER hx ⊢
  have hn1 : n0 ≤ wx.heap.size := by omega
  clear h hwx hf hrow hv hset hno0 hno1 hno2 hno3 hno4 hnod hzs hzx hxs hxok
  cases back
  all_goals
    go_enter Try.func41, Try.ntmps41
    go_wp2_with (first | rw [HWX.out] | (at_builtin; refine wpList_append_sl rfl _ _ 22 rfl n0 9 ip _ 16 Try.underlying22 HIQ.out HIP.out.1 HIP.out.2.1 HIP.out.2.2 rfl v f xs rfl HROW1.out (some ⟨w.heap.size, 0, none⟩) 1 1 [.string s] rfl HSL.out (fun u hu => by rw [List.mem_singleton] at hu; rw [hu]; rfl) (by omega) (by omega) hn1 ?_; intro v' w5 hown5 hgr5 hnil5 hor5; obtain ⟨A5, c5, rfl⟩ := own_form1 hown5; have HAF := Lib.hid (HAFTER.out w5 A5 c5 hown5 hgr5 hor5); clear hown5 hgr5 hnil5 hor5; have g4 := HAF.out.1.cell; have g4f := HAF.out.1.frozen; have g1 := HAF.out.2.1.cell; have g0 := HAF.out.2.2.1.cell; have g2 := HAF.out.2.2.2.1.cell; have g2f := HAF.out.2.2.2.1.frozen))
    go_ret
    exact ⟨rfl, (HAF.out.2.2.2.2 _).1, (HAF.out.2.2.2.2 _).2⟩

set_option maxRecDepth 100000 in
set_option maxHeartbeats 8000000 in
theorem all1_wk {n0 B Bn D M base m : Nat} {F : Nat → Prop} {L : List ByteArray} (w : World) (hD : DqOn KDS w base F D M L) (hM : M ≤ 400000) (hL : L.length ≤ 400000) (h : WkAt w n0 B Bn (some ⟨D, 0, none⟩) false (m : Int) 0 []) (hm : 1 ≤ m) (hF : ∀ k, F k → k < n0) (hn0 : n0 ≤ w.heap.size) :
    Calls Try.prog 50 #[.func (.func 41) #[] #[.pointer (some ⟨B + 3, 0, none⟩), .pointer (some ⟨B + 4, 0, none⟩), .pointer (some ⟨B + 2, 0, none⟩), .pointer (some ⟨B, 0, none⟩), .pointer (some ⟨B + 1, 0, none⟩)], .pointer (some ⟨Bn, 0, none⟩)] w fun e w' =>
      e = .returned (.tuple #[]) ∧ (∃ a, WkAt w' n0 B Bn (some ⟨D, 0, none⟩) false (m : Int) a ((L.take m).map Value.string)) ∧ Below n0 w w' := by
  have HD := Lib.hid hD
  have HLEN := Lib.hid (lenS_any w hD)
  have H := Lib.hid h
  have hdc := h.d.cell
  obtain ⟨k, hk⟩ : ∃ k, L.length = k := ⟨_, rfl⟩
  have HK := Lib.hid hk
  rw [hk] at HLEN hL
  have HFF := Lib.hid hF
  clear hD h hk hF
  go_enter Try.func50, Try.ntmps50
  go_wp2_with fail
  refine HLEN.out.mono ?_
  rintro e w1 ⟨rfl, rfl⟩
  go_wp2_with fail
  go_loopw [3, 4, 5, 8, 11] (fun _ _ _ iv _ wr => ∃ i : Nat, iv = .int .i64 i ∧ i ≤ k ∧ (i = 0 ∨ i < m) ∧ WkAt wr n0 B Bn (some ⟨D, 0, none⟩) false (m : Int) (i : Int) ((L.take i).map Value.string) ∧ Below n0 w1 wr) (fun _ _ _ iv _ _ => k - (intOf iv).toNat)
  case atStart => exact ⟨0, rfl, Nat.zero_le _, Or.inl rfl, H.out, Below.refl _ _⟩
  case round =>
    obtain ⟨i, rfl, hi, hi2, hw, hb⟩ := hrel
    have HW := Lib.hid hw
    have HB := Lib.hid hb
    have hdc := hw.d.cell
    clear hw hb
    by_cases hlt : i < k
    · obtain ⟨y, hy⟩ : ∃ y, L[i]? = some y := ⟨_, List.getElem?_eq_getElem (by rw [HK.out]; omega)⟩
      have HAT := Lib.hid (atS_yes (i := i) (v := y) wr (DqOn.blocksS HD.out (fun j hj => HB.out.block j (HFF.out j hj))) hM hy)
      have HTK : Hid (L.take (i + 1) = L.take i ++ [y]) := by
        unfold Hid
        rw [List.take_add_one, hy]
        rfl
      have HLT : Hid (((L.take i).map Value.string).length = i) := by unfold Hid; rw [List.length_map, List.length_take, HK.out]; omega
      have hic : (i : Int) < (k : Int) := by omega
      clear hy
      go_wp2_with fail
      refine HAT.out.mono ?_
      rintro e w2 ⟨rfl, hb2⟩
      have HW2 := Lib.hid (HW.out.below hb2)
      have HB2 := Lib.hid (HB.out.trans (hb2.mono (Nat.le_trans hn0 HB.out.size)))
      have HY := Lib.hid (walked1_any w2 HW2.out y (Nat.le_trans hn0 HB2.out.size) (by rw [HLT.out]; omega) (by omega) (by omega))
      rw [HLT.out] at HY
      clear hb2
      by_cases hmm : i + 1 < m
      · rw [decide_eq_true (show ((i + 1 : Nat) : Int) < (m : Int) by omega)] at HY
        go_wp2_with fail
        refine HY.out.mono ?_
        rintro e w3 ⟨rfl, hw3, hb3⟩
        have HW3 := Lib.hid hw3
        have HB3 := Lib.hid (HB2.out.trans hb3)
        clear hw3 hb3
        go_wp2
        go_roundw
        case rel => exact ⟨i + 1, by go_num, by omega, Or.inr hmm, by rw [HTK.out, List.map_append]; exact HW3.out, HB3.out⟩
        case measure => simp only [intOf]; omega
      · rw [decide_eq_false (show ¬ ((i + 1 : Nat) : Int) < (m : Int) by omega)] at HY
        go_wp2_with fail
        refine HY.out.mono ?_
        rintro e w3 ⟨rfl, hw3, hb3⟩
        have HW3 := Lib.hid hw3
        have HB3 := Lib.hid (HB2.out.trans hb3)
        clear hw3 hb3
        go_wp2
        refine bodyPost_ret (results_none rfl _ _ _) rfl ?_
        obtain rfl : m = i + 1 := by omega
        exact ⟨rfl, ⟨_, by rw [HTK.out, List.map_append]; exact HW3.out⟩, HB3.out⟩
    · obtain rfl : i = k := by omega
      have HTI : Hid (L.take m = L.take i) := by
        unfold Hid
        rw [List.take_of_length_le (by rw [HK.out]; omega), List.take_of_length_le (by rw [HK.out]; exact Nat.le_refl _)]
      go_wp2
      go_end0
      rw [HTI.out]
      exact ⟨rfl, ⟨_, HW.out⟩, HB.out⟩


set_option maxRecDepth 100000 in
set_option maxHeartbeats 8000000 in
theorem back1_wk {n0 B Bn D M base m : Nat} {F : Nat → Prop} {L : List ByteArray} (w : World) (hD : DqOn KDS w base F D M L) (hM : M ≤ 400000) (hL : L.length ≤ 400000) (h : WkAt w n0 B Bn (some ⟨D, 0, none⟩) true (m : Int) ((L.length : Int) - 1) []) (hm : 1 ≤ m) (hF : ∀ k, F k → k < n0) (hn0 : n0 ≤ w.heap.size) :
    Calls Try.prog 51 #[.func (.func 41) #[] #[.pointer (some ⟨B + 3, 0, none⟩), .pointer (some ⟨B + 4, 0, none⟩), .pointer (some ⟨B + 2, 0, none⟩), .pointer (some ⟨B, 0, none⟩), .pointer (some ⟨B + 1, 0, none⟩)], .pointer (some ⟨Bn, 0, none⟩)] w fun e w' =>
      e = .returned (.tuple #[]) ∧ (∃ a, WkAt w' n0 B Bn (some ⟨D, 0, none⟩) true (m : Int) a ((L.reverse.take m).map Value.string)) ∧ Below n0 w w' := by
  have HD := Lib.hid hD
  have HLEN := Lib.hid (lenS_any w hD)
  have H := h
  have hdc := h.d.cell
  obtain ⟨k, hk⟩ : ∃ k, L.length = k := ⟨_, rfl⟩
  have HK := Lib.hid hk
  rw [hk] at HLEN hL H
  have hw0 : IntKind.i64.wrap ((k : Int) - 1) = (k : Int) - 1 := IntWalk.i64_in _ (by omega)
  replace H := Lib.hid H
  have HFF := Lib.hid hF
  clear hD h hk hF
  go_enter Try.func51, Try.ntmps51
  go_wp2_with fail
  refine HLEN.out.mono ?_
  rintro e w1 ⟨rfl, rfl⟩
  go_wp2_with fail
  go_loopw [3, 4, 5, 13] (fun iv _ _ _ wr => ∃ (i : Nat) (z : Int), iv = .int .i64 z ∧ z = (k : Int) - 1 - i ∧ i ≤ k ∧ (i = 0 ∨ i < m) ∧ WkAt wr n0 B Bn (some ⟨D, 0, none⟩) true (m : Int) z ((L.reverse.take i).map Value.string) ∧ Below n0 w1 wr) (fun iv _ _ _ _ => (intOf iv + 1).toNat)
  case atStart => exact ⟨0, _, rfl, by omega, Nat.zero_le _, Or.inl rfl, H.out, Below.refl _ _⟩
  case round =>
    obtain ⟨i, z, rfl, hz, hi, hi2, hw, hb⟩ := hrel
    have HW := Lib.hid hw
    have HB := Lib.hid hb
    have hdc := hw.d.cell
    clear hw hb
    by_cases hlt : i < k
    · obtain ⟨y, hy⟩ : ∃ y, L[k - 1 - i]? = some y := ⟨_, List.getElem?_eq_getElem (by rw [HK.out]; omega)⟩
      have HAT := Lib.hid (atS_yes (i := k - 1 - i) (v := y) wr (DqOn.blocksS HD.out (fun j hj => HB.out.block j (HFF.out j hj))) hM hy)
      have HTK : Hid (L.reverse.take (i + 1) = L.reverse.take i ++ [y]) := by
        unfold Hid
        rw [List.take_add_one, List.getElem?_reverse (by rw [HK.out]; omega), HK.out, hy]
        rfl
      have HLT : Hid (((L.reverse.take i).map Value.string).length = i) := by unfold Hid; rw [List.length_map, List.length_take, List.length_reverse, HK.out]; omega
      obtain ⟨p, hp⟩ : ∃ p, k - 1 - i = p := ⟨_, rfl⟩
      rw [hp] at HAT
      obtain rfl : z = (p : Int) := by omega
      have hwp : IntKind.i64.wrap ((p : Int) - 1) = (p : Int) - 1 := IntWalk.i64_in _ (by omega)
      have HPP := Lib.hid hz
      clear hp hz
      clear hy
      go_wp2_with fail
      refine HAT.out.mono ?_
      rintro e w2 ⟨rfl, hb2⟩
      have HW2 := Lib.hid (HW.out.below hb2)
      have HB2 := Lib.hid (HB.out.trans (hb2.mono (Nat.le_trans hn0 HB.out.size)))
      have HY := Lib.hid (walked1_any w2 HW2.out y (Nat.le_trans hn0 HB2.out.size) (by rw [HLT.out]; omega) (by have := HPP.out; omega) (by have := HPP.out; omega))
      rw [HLT.out] at HY
      clear hb2
      by_cases hmm : i + 1 < m
      · rw [decide_eq_true (show ((i + 1 : Nat) : Int) < (m : Int) by omega)] at HY
        go_wp2_with fail
        refine HY.out.mono ?_
        rintro e w3 ⟨rfl, hw3, hb3⟩
        have HW3 := Lib.hid hw3
        have HB3 := Lib.hid (HB2.out.trans hb3)
        clear hw3 hb3
        go_wp2
        go_roundw
        case rel => exact ⟨i + 1, _, rfl, by have := HPP.out; omega, by omega, Or.inr hmm, by rw [HTK.out, List.map_append]; exact HW3.out, HB3.out⟩
        case measure => simp only [intOf]; omega
      · rw [decide_eq_false (show ¬ ((i + 1 : Nat) : Int) < (m : Int) by omega)] at HY
        go_wp2_with fail
        refine HY.out.mono ?_
        rintro e w3 ⟨rfl, hw3, hb3⟩
        have HW3 := Lib.hid hw3
        have HB3 := Lib.hid (HB2.out.trans hb3)
        clear hw3 hb3
        go_wp2
        refine bodyPost_ret (results_none rfl _ _ _) rfl ?_
        obtain rfl : m = i + 1 := by omega
        exact ⟨rfl, ⟨_, by rw [HTK.out, List.map_append]; exact HW3.out⟩, HB3.out⟩
    · obtain rfl : i = k := by omega
      have hzn : z < 0 := by omega
      have hznb : decide ((0 : Int) ≤ z) = false := decide_eq_false (by omega)
      have HTI : Hid (L.reverse.take m = L.reverse.take i) := by
        unfold Hid
        rw [List.take_of_length_le (by rw [List.length_reverse, HK.out]; omega), List.take_of_length_le (by rw [List.length_reverse, HK.out]; exact Nat.le_refl _)]
      go_wp2
      go_end0
      rw [HTI.out]
      exact ⟨rfl, ⟨_, HW.out⟩, HB.out⟩

end Go.Proofs.Ytkjcoengijedeab
