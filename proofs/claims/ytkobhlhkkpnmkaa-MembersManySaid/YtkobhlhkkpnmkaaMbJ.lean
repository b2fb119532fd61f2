/-
  Package members: Add, Del. Conditions: the rows lie in memory.
-/
import Derived.Test.YtkobhlhkkpnmkaaMbG
import Derived.Test.YtkobhlhkkpnmkaaMbI
namespace Go.Proofs.Ytkobhlhkkpnmkaa
open Go.RowKit

theorem mg_ofX {L : List Tx} (h : Ris L) (K : List Tx) : mgX L (ofX [] K) = ofX L K := by
  rw [mgX_of h (ofX_ris List.Pairwise.nil K)]
  exact Ris.unique (ofX_ris h _) (ofX_ris h _) (fun x => by rw [ofX_mem, ofX_mem, ofX_mem]; simp)

set_option maxRecDepth 100000 in
set_option maxHeartbeats 16000000 in
theorem add_any {A B : Option Addr} {n m cp cq : Nat} {L K : List Tx} (w : World) (ha : TxAt w A n cp L) (hb : TxAt w B m cq K) (hn : n ≤ 1000000) (hm : m ≤ 1000000) :
    Calls Try.prog 19 #[.slice A n cp, .slice B m cq] w fun e w' => ∃ A' k c', e = .returned (.tuple #[.slice A' k c', .int .i64 (addN L K), .int .i64 (ckX L)]) ∧ TxAt w' A' k c' (addX L K) ∧ Below w.heap.size w w' ∧ Frh w.heap.size A' := by
  have HC := Lib.hid (check_any w ha (by omega))
  have HA := Lib.hid ha
  have HB := Lib.hid hb
  obtain ⟨M, hM⟩ : ∃ M, w.heap.size = M := ⟨_, rfl⟩
  have HM := Lib.hid hM
  rw [hM] at HC ⊢
  by_cases hr : Ris L
  · have HS : Hid (∀ X, Below M w X → Calls Try.prog 37 #[.slice B m cq] X fun e w' => ∃ A' c', e = .returned (.slice A' (ofX [] K).length c') ∧ TxAt w' A' (ofX [] K).length c' (ofX [] K) ∧ Below X.heap.size X w' ∧ Frh X.heap.size A') := fun X hX => setOf_any X (HB.out.below (by rw [HM.out]; exact hX)) (by omega)
    have HMG := Lib.hid (mg_ofX hr K)
    have hKl := ofX_length [] K
    rw [hb.len, List.length_nil, Nat.zero_add] at hKl
    have hOl := ofX_length L K
    rw [ha.len, hb.len] at hOl
    unfold addX addN
    rw [if_pos hr, if_pos hr]
    rw [ckX_ok hr] at HC ⊢
    obtain ⟨O, hO⟩ : ∃ O, ofX L K = O := ⟨_, rfl⟩
    rw [hO] at HMG hOl ⊢
    obtain ⟨KS, hKS⟩ : ∃ KS, ofX [] K = KS := ⟨_, rfl⟩
    rw [hKS] at HMG HS hKl
    obtain ⟨ks, hks⟩ : ∃ ks, KS.length = ks := ⟨_, rfl⟩
    rw [hks] at HS hKl
    obtain ⟨Z, hZ⟩ : ∃ Z : Int, (O.length : Int) - (L.length : Int) = Z := ⟨_, rfl⟩
    rw [hZ]
    rw [ha.len] at hZ
    have HZ := Lib.hid hZ
    have HOl := Lib.hid hOl
    have HKl := Lib.hid hKl
    clear ha hb hr hO hM hZ hOl hKS hks hKl
    go_enter Try.func19, Try.ntmps19
    go_wp2_with fail
    refine HC.out.mono ?_
    rintro e w1 ⟨rfl, hb1⟩
    have HB1 := Lib.hid hb1
    clear hb1
    go_wp2_with fail
    refine (HS.out w1 HB1.out).mono ?_
    rintro e w2 ⟨A2, c2, rfl, h2, hb2, _⟩
    have H2 := Lib.hid h2
    have HB2 : Hid (Below M w w2) := HB1.out.trans (hb2.mono (by have := HB1.out.size; have := HM.out; omega))
    clear h2 hb2
    go_wp2_with fail
    refine (merged_any w2 (HA.out.below (by rw [HM.out]; exact HB2.out)) H2.out (by have := HKl.out; omega)).mono ?_
    rw [HMG.out]
    rintro e w3 ⟨A3, k3, c3, rfl, h3, hb3, _⟩
    have H3 := Lib.hid h3
    have HB3 : Hid (Below M w w3) := HB2.out.trans (hb3.mono (by have := HB2.out.size; have := HM.out; omega))
    have HK3 := Lib.hid h3.len
    clear h3 hb3
    go_wp2_with fail
    refine (copied_any w3 H3.out (by have := HOl.out; have := HK3.out; omega)).mono ?_
    rintro e w4 ⟨A4, c4, rfl, h4, hb4, hf4⟩
    have H4 := Lib.hid h4
    have HB4 : Hid (Below M w w4) := HB3.out.trans (hb4.mono (by have := HB3.out.size; have := HM.out; omega))
    have HF4 := Lib.hid hf4
    have hw : IntKind.i64.wrap ((k3 : Int) - (n : Int)) = Z := by have := HK3.out; rw [← HZ.out, this, IntWalk.i64_in _ (by have := HOl.out; omega)]
    clear h4 hb4 hf4
    go_wp2
    go_ret3
    exact ⟨A4, k3, c4, rfl, H4.out, HB4.out, HF4.out.mono (by have := HB3.out.size; have := HM.out; omega)⟩
  · unfold addX addN
    rw [if_neg hr, if_neg hr]
    rw [ckX_no hr] at HC ⊢
    clear ha hb hr hM
    go_enter Try.func19, Try.ntmps19
    go_wp2_with fail
    refine HC.out.mono ?_
    rintro e w1 ⟨rfl, hb1⟩
    have HB1 := Lib.hid hb1
    clear hb1
    go_wp2
    go_ret3
    exact ⟨none, 0, 0, rfl, TxAt.nil _, HB1.out, Frh.none _⟩

set_option maxRecDepth 100000 in
set_option maxHeartbeats 16000000 in
theorem del_any {A B : Option Addr} {n m cp cq : Nat} {L K : List Tx} (w : World) (ha : TxAt w A n cp L) (hb : TxAt w B m cq K) (hn : n ≤ 1000000) (hm : m ≤ 1000000) :
    Calls Try.prog 21 #[.slice A n cp, .slice B m cq] w fun e w' => ∃ A' k c', e = .returned (.tuple #[.slice A' k c', .int .i64 (delN L K), .int .i64 (ckX L)]) ∧ TxAt w' A' k c' (delX L K) ∧ Below w.heap.size w w' ∧ Frh w.heap.size A' := by
  have HC := Lib.hid (check_any w ha (by omega))
  have HA := Lib.hid ha
  have HB := Lib.hid hb
  obtain ⟨M, hM⟩ : ∃ M, w.heap.size = M := ⟨_, rfl⟩
  have HM := Lib.hid hM
  rw [hM] at HC ⊢
  by_cases hr : Ris L
  · unfold delX delN
    rw [if_pos hr, if_pos hr]
    rw [ckX_ok hr] at HC ⊢
    obtain ⟨p, hp⟩ : ∃ p : Tx → Bool, (fun x => decide (x ∉ K)) = p := ⟨_, rfl⟩
    have HPP : Hid (∀ x, decide (x ∉ K) = p x) := fun x => by rw [← hp]
    rw [hp]
    obtain ⟨O, hO⟩ : ∃ O, L.filter p = O := ⟨_, rfl⟩
    have hOl : O.length ≤ n := by rw [← hO, ← ha.len]; exact List.length_filter_le p L
    rw [hO]
    have HO := Lib.hid hO
    obtain ⟨Z, hZ⟩ : ∃ Z : Int, (L.length : Int) - (O.length : Int) = Z := ⟨_, rfl⟩
    rw [hZ]
    rw [ha.len] at hZ
    have HZ := Lib.hid hZ
    have HOl := Lib.hid hOl
    clear ha hb hr hO hM hZ hOl hp
    go_enter Try.func21, Try.ntmps21
    go_wp2_with fail
    refine HC.out.mono ?_
    rintro e w1 ⟨rfl, hb1⟩
    have HB1 := Lib.hid hb1
    clear hb1
    go_wp2_with fail
    refine (tally_any w1 (HB.out.below (by rw [HM.out]; exact HB1.out)) (by omega)).mono ?_
    rintro e w2 ⟨rfl, h2, hb2⟩
    have H2 := Lib.hid h2
    have HB2 : Hid (Below M w w2) := HB1.out.trans (hb2.mono (by have := HB1.out.size; have := HM.out; omega))
    have HL2 := Lib.hid h2.lt
    obtain ⟨wb, hwb⟩ : ∃ wb, w2.alloc (.cells #[.map (some w1.heap.size)] 52) = wb := ⟨_, rfl⟩
    have hz2 : M ≤ w2.heap.size := by have q := HB2.out.size; have q2 := HM.out; omega
    have hbb : Below w2.heap.size w2 wb := by rw [← hwb]; exact (Below.refl _ _).alloc (Nat.le_refl _) _
    have HBB : Hid (Below M w wb) := HB2.out.trans (hbb.mono hz2)
    have hrow : wb.rowIs w2.heap.size 52 1 (fun _ => .map (some w1.heap.size)) := by
      rw [← hwb]
      exact World.rowIs_alloc w2 #[.map (some w1.heap.size)] 52 (fun _ => .map (some w1.heap.size)) (fun i hi => by
        have hi : i < 1 := hi
        obtain rfl : i = 0 := by omega
        rfl)
    have hIB : IMap wb w1.heap.size m (fun x => if x ∈ K then some 0 else none) := h2.below hbb
    have HCL : Hid (∀ (x : Tx) (X : World), x.length ≤ 140737488355328 → x ∈ L → Below wb.heap.size wb X → Calls Try.prog 42 #[.string ⟨x.toArray⟩, .pointer (some ⟨w2.heap.size, 0, none⟩)] X fun e w' => e = .returned (.bool (p x)) ∧ w' = X) := fun x X hx _ hX => by
      have q := delC_any (K := K) x X ((hrow.of_block (hX.block _ hrow.lt)).cell (i := 0) Nat.one_pos) (hIB.below hX) hx
      rw [HPP.out x] at q
      exact q
    have HWB := Lib.hid hwb
    clear h2 hb2 hwb hbb hrow hIB
    go_wp2_with fail
    rw [HWB.out]
    refine (kept1 wb (HA.out.below (by rw [HM.out]; exact HBB.out)) (by omega) 42 ⟨w2.heap.size, 0, none⟩ p (fun args X => by simp [callFunc, go_sem, Try.func42, Try.f42]) HCL.out).mono ?_
    rw [HO.out]
    rintro e w3 ⟨A3, k3, c3, rfl, h3, hb3⟩
    have H3 := Lib.hid h3
    have HB3 : Hid (Below M w w3) := HBB.out.trans (hb3.mono (by have := HBB.out.size; have := HM.out; omega))
    have HK3 := Lib.hid h3.len
    clear h3 hb3
    go_wp2_with fail
    refine (copied_any w3 H3.out (by have := HOl.out; have := HK3.out; omega)).mono ?_
    rintro e w4 ⟨A4, c4, rfl, h4, hb4, hf4⟩
    have H4 := Lib.hid h4
    have HB4 : Hid (Below M w w4) := HB3.out.trans (hb4.mono (by have := HB3.out.size; have := HM.out; omega))
    have HF4 := Lib.hid hf4
    have hw : IntKind.i64.wrap ((n : Int) - (k3 : Int)) = Z := by have := HK3.out; rw [← HZ.out, this, IntWalk.i64_in _ (by have := HOl.out; omega)]
    clear h4 hb4 hf4
    go_wp2
    go_ret3
    exact ⟨A4, k3, c4, rfl, H4.out, HB4.out, HF4.out.mono (by have := HB3.out.size; have := HM.out; omega)⟩
  · unfold delX delN
    rw [if_neg hr, if_neg hr]
    rw [ckX_no hr] at HC ⊢
    clear ha hb hr hM
    go_enter Try.func21, Try.ntmps21
    go_wp2_with fail
    refine HC.out.mono ?_
    rintro e w1 ⟨rfl, hb1⟩
    have HB1 := Lib.hid hb1
    clear hb1
    go_wp2
    go_ret3
    exact ⟨none, 0, 0, rfl, TxAt.nil _, HB1.out, Frh.none _⟩

end Go.Proofs.Ytkobhlhkkpnmkaa
