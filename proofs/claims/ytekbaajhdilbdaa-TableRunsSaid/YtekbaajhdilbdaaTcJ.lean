/-
  All's closure with items$1: a table's keys and values in a row of the call's own.
-/
import Derived.Test.YtekbaajhdilbdaaTcI
import Derived.Test.YtekbaajhdilbdaaGTqI
namespace Go.Proofs.Ytekbaajhdilbdaa
open Go.RowKit

theorem rows_apart {w : World} {b1 b2 s1 s2 n1 n2 : Nat} {e1 e2 : TypeId} {v1 v2 : Value} {x1 x2 : List Value} (h1 : w.ownsRow b1 e1 s1 v1 n1 x1) (h2 : w.ownsRow b2 e2 s2 v2 n2 x2) (hne : e1 ≠ e2) {b : Nat} (q1 : v1.ownBlock = some b) : some b ≠ v2.ownBlock := by
  intro q2
  rcases h1.2 with ⟨rfl, _⟩ | ⟨g, cap, cur, rfl, _, hg, _⟩
  · cases q1
  · rcases h2.2 with ⟨rfl, _⟩ | ⟨g', cap', cur', rfl, _, hg', _⟩
    · cases q2
    · simp only [Value.ownBlock, Option.some.injEq] at q1 q2
      subst q1
      rw [q2, hg'] at hg
      simp only [Option.some.injEq, Obj.cells.injEq] at hg
      exact hne hg.2.1.symm

theorem by_w {G F : World → Prop} {goal : Prop} (h1 : Hid (∀ W, F W → G W) → goal) (h2 : ∀ W, F W → G W) : goal := h1 h2

set_option maxRecDepth 100000 in
set_option maxHeartbeats 8000000 in
theorem all1_items {w : World} {base Q A B n0 seed m : Nat} {ow : Own} {t : Tb Int} {gA gB : Nat} {sA sB : Nat → Value} (h : PT KI w base ow Q 67 seed t gA sA gB sB) (hg : Good (hashT seed) m t) (hm : m ≤ 4000) (hks : KeysT (fun k => k.length ≤ 1000) t) (hkl : ∀ x ∈ allT t, x.1.length ≤ 1000)
    (hA : w.cell? ⟨A, 0, none⟩ = some (.pointer (some ⟨Q, 0, none⟩))) (hbx : Boxed w B 42 (.slice none 0 0)) (hn0 : n0 ≤ B) :
    Calls Try.prog 77 #[.func (.func 52) #[] #[.pointer (some ⟨B, 0, none⟩)], .pointer (some ⟨A, 0, none⟩)] w fun e w' => e = .returned (.tuple #[]) ∧ ∃ v', Boxed w' B 42 v' ∧ w'.ownsRow n0 53 2 v' (allT t).length (itemCells (allT t)) ∧ Below n0 w w' := by
  have HP := Lib.hid (pairsI_any w h hg (by omega) hks)
  have hlen : (allT t).length < 5000 := by have := all_length hg.cnt; have := hg.n; omega
  have hBw := hbx.lt
  have HBX := Lib.hid hbx
  obtain ⟨l, hl⟩ : ∃ l, allT t = l := ⟨_, rfl⟩
  rw [hl] at HP hlen hkl ⊢
  have HKL := Lib.hid hkl
  obtain ⟨N, hN⟩ : ∃ N, l.length = N := ⟨_, rfl⟩
  have HN := Lib.hid hN
  clear h hg hks hbx hl hkl
  go_enter Try.func77, Try.ntmps77
  go_wp2_with fail
  refine HP.out.mono ?_
  rintro e w2 ⟨vp, rfl, hrow, hb2⟩
  obtain ⟨Ap, cp, rfl⟩ := own_form hrow
  have HROW := Lib.hid hrow
  have HB2 := Lib.hid hb2
  have HBX2 : Hid (Boxed w2 B 42 (.slice none 0 0)) := (hb2.block B hBw).trans HBX.out
  rw [hN] at HROW hlen ⊢
  clear hrow hb2 hN
  go_wp2_with fail
  go_loopw [8] (fun iv wr => ∃ (j : Nat) (v : Value), iv = .int .i64 j ∧ j ≤ N ∧ Boxed wr B 42 v ∧ wr.ownsRow n0 53 2 v j (itemCells (l.take j)) ∧ Below n0 w wr ∧ wr.ownsRow w.heap.size 95 2 (.slice Ap N cp) N (encIt KI.enc l)) (fun iv _ => N - (intOf iv).toNat)
  case atStart => exact ⟨0, _, rfl, by omega, HBX2.out, ⟨rfl, .inl ⟨rfl, rfl⟩⟩, HB2.out.mono (by omega), HROW.out⟩
  case round =>
    obtain ⟨j, v, rfl, hj, hbxr, hrowr, hbr, hpr⟩ := hrel
    by_cases hlt : j < N
    · obtain ⟨⟨k, n⟩, hx⟩ : ∃ x, l[j]? = some x := ⟨_, List.getElem?_eq_getElem (by rw [HN.out]; exact hlt)⟩
      have hk := HKL.out (k, n) (List.mem_of_getElem? hx)
      have HTK : Hid (l.take (j + 1) = l.take j ++ [(k, n)]) := by unfold Hid; rw [List.take_add_one, hx, Option.toList_some]
      obtain ⟨g, rfl⟩ : ∃ g, Ap = some ⟨g, 0, none⟩ := by
        rcases hpr.2 with ⟨q, q2⟩ | ⟨g, cap, cur, q, _⟩
        · omega
        · injection q with q
          exact ⟨g, q⟩
      have e0 := (World.ownsRow.cellAt hpr (j * 2) (by omega)).trans (encIt_get KI.enc l j _ hx).1
      have e1 := (World.ownsRow.cellAt hpr (j * 2 + 1) (by omega)).trans (encIt_get KI.enc l j _ hx).2
      obtain ⟨K, hK⟩ : ∃ K : ByteArray, (⟨k.toArray⟩ : ByteArray) = K := ⟨_, rfl⟩
      have hKd : K.data.toList = k := by rw [← hK]
      dsimp only at e0 hk
      replace e1 : wr.cell? ⟨g, j * 2 + 1, none⟩ = some (.int .i64 n) := e1
      rw [hK] at e0
      have hKs : K.size ≤ 1000 := by rw [← hK]; simpa [ByteArray.size] using hk
      have HCL := Lib.hid (fun X => clone_any K X (by omega))
      obtain ⟨wb, hwb⟩ : ∃ wb, wr.alloc (.cells #[.string K, .int .i64 n] 95) = wb := ⟨_, rfl⟩
      have hqb := heap_alloc_new wr (.cells #[.string K, .int .i64 n] 95)
      have hbb : Below wr.heap.size wr wb := by rw [← hwb]; exact (Below.refl _ _).alloc (Nat.le_refl _) _
      have hsb : wb.heap.size = wr.heap.size + 1 := by rw [← hwb]; simp
      rw [hwb] at hqb
      have hrlt := hbxr.lt
      have hzr : n0 ≤ wr.heap.size := by omega
      have hap : ∀ b, (Value.slice (some ⟨g, 0, none⟩) N cp).ownBlock = some b → some b ≠ v.ownBlock := fun b q => rows_apart hpr hrowr (by decide) q
      have hgl := World.block_lt_of_cell? wr _ e0
      have HST : Hid (∀ X, Below wb.heap.size wb X → X.cell? ⟨wr.heap.size, 0, none⟩ = some (.string K) ∧ X.cell? ⟨wr.heap.size, 1, none⟩ = some (.int .i64 n)) := fun X hX => by
        have hq := (hX.block wr.heap.size (by omega)).trans hqb
        exact ⟨by simp [World.cell?, hq], by simp [World.cell?, hq]⟩
      have HIT : Hid (∀ X, Below wb.heap.size wb X → Calls Try.prog 52 #[.string K, .int .i64 n, .pointer (some ⟨B, 0, none⟩)] X fun e W' => e = .returned (.bool true) ∧ ∃ v', Boxed W' B 42 v' ∧ W'.ownsRow n0 53 2 v' (j + 1) (itemCells (l.take (j + 1))) ∧ Below n0 w W' ∧ W'.ownsRow w.heap.size 95 2 (.slice (some ⟨g, 0, none⟩) N cp) N (encIt KI.enc l)) := fun X hX => by
        have hX2 : Below wr.heap.size wr X := hbb.trans (hX.mono (by omega))
        have hlj : (l.take j).length = j := by rw [List.length_take, HN.out]; omega
        have hr' := ownsRow_of_block hrowr (w' := X) (fun b hb => hX2.block b (hrowr.lt b hb).2)
        have hq := items1_any (w := X) (xs := l.take j) K n ((hX2.block B hrlt).trans hbxr) (by rw [hlj]; exact hr') (by have := hX2.size; omega) hn0 (by omega)
        refine hq.mono ?_
        rintro e W' ⟨rfl, v', q1, q2, q3, q4, _⟩
        rw [hlj] at q2
        rw [hKd, ← HTK.out] at q2
        refine ⟨by rw [hlj, decide_eq_true (by omega)], v', q1, q2, (hbr.trans (hX2.mono hzr)).trans q3, ?_⟩
        refine ownsRow_of_block hpr (fun b hb => ?_)
        have hbl := (hpr.lt b hb).2
        have hbB : b ≠ B := fun e => by
          subst e
          exact hbxr.not_row (by decide) hpr hb.symm
        exact (q4 b (by have := hX2.size; omega) hbB (hap b hb)).trans (hX2.block b hbl)
      have HWB := Lib.hid hwb
      obtain ⟨M, hM⟩ : ∃ M, wr.heap.size = M := ⟨_, rfl⟩
      rw [hM] at HST
      have HM := Lib.hid hM
      obtain ⟨y0, y1⟩ := HST.out wb (Below.refl _ _)
      have hcp : N ≤ 9223372036854775807 := by omega
      clear hqb hbb hsb hrlt hap hbxr hrowr hbr hpr hx hk hK hKd hwb hM HN HROW HBX2
      go_wp2_with fail
      rw [HWB.out, HM.out]
      apply by_w (F := fun W' => ∃ v', Boxed W' B 42 v' ∧ W'.ownsRow n0 53 2 v' (j + 1) (itemCells (l.take (j + 1))) ∧ Below n0 w W' ∧ W'.ownsRow w.heap.size 95 2 (.slice (some ⟨g, 0, none⟩) N cp) N (encIt KI.enc l))
      case h1 =>
        intro HFIN
        go_region_law (first
          | (have qq := HX4; go_simp; go_at_call 52; refine (HIT.out _ (by first | exact HX4.out | exact HX4.out.drew)).mono ?_; rintro en w5 ⟨rfl, hv5⟩; have HV5 := Lib.hid hv5; clear hv5)
          | (go_simp; go_at_call 59; refine (HCL.out _).mono ?_; rintro en w4 ⟨rfl, hb4⟩; have HX4 : Hid (Below wb.heap.size wb w4) := (by first | exact hb4 | exact (Below.refl wb.heap.size wb).drew.trans hb4); obtain ⟨x0, x1⟩ := HST.out w4 HX4.out; clear hb4))
        all_goals
          exact HFIN.out w5 HV5.out
      case h2 =>
        intro wf hround
        have HR := Lib.hid hround
        clear hround y0 y1 e0 e1
        go_wp2
        go_roundw
        case rel =>
          obtain ⟨v', q1, q2, q3, q4⟩ := HR.out
          exact ⟨j + 1, v', by go_num, by omega, q1, q2, q3, q4⟩
        case measure => simp only [intOf]; omega
    · obtain rfl : j = N := by omega
      have HE : Hid (l.take j = l) := List.take_of_length_le (by rw [HN.out]; exact Nat.le_refl _)
      have HQ := Lib.hid hbxr
      have HQ2 := Lib.hid hrowr
      have HQ3 := Lib.hid hbr
      clear hbxr hrowr hbr hpr
      go_wp2_with fail
      go_end0
      rw [HN.out]
      exact ⟨rfl, v, HQ.out, by have q := HQ2.out; rw [HE.out] at q; exact q, HQ3.out⟩

end Go.Proofs.Ytekbaajhdilbdaa
