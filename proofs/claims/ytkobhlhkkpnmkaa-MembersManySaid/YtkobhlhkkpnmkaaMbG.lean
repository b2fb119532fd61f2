/-
  Package members: two sets merged; Add. Conditions: the rows lie in memory.
-/
import Derived.Test.YtkobhlhkkpnmkaaMbD
import Derived.Test.YtkobhlhkkpnmkaaMbF
import Derived.Deep.RegionHeld3
import Derived.Deep.RegionLaw
namespace Go.Proofs.Ytkobhlhkkpnmkaa
open Go.RowKit

theorem cmpB_is : ∀ (x y : Tx), Lib.compareBytes x y = if x < y then -1 else if y < x then 1 else 0
  | [], [] => by simp [Lib.compareBytes]
  | [], b :: y => by simp [Lib.compareBytes]
  | a :: x, [] => by simp [Lib.compareBytes]
  | a :: x, b :: y => by
    unfold Lib.compareBytes
    rw [cmpB_is x y]
    simp only [List.cons_lt_cons_iff]
    by_cases h1 : a < b
    · simp [h1]
    · by_cases h2 : b < a
      · have h3 : ¬ a = b := fun e => by rw [e] at h2; exact (UInt8.lt_irrefl b) h2
        have h4 : ¬ b = a := fun e => h3 e.symm
        simp [h1, h2, h3]
      · have h3 : a = b := by
          rcases Classical.em (a = b) with e | e
          · exact e
          · rcases UInt8.lt_or_lt_of_ne e with q | q
            · exact absurd q h1
            · exact absurd q h2
        subst h3
        simp [h1]

set_option maxRecDepth 100000 in
set_option maxHeartbeats 16000000 in
theorem merged_any {A B : Option Addr} {n m cp cq : Nat} {L K : List Tx} (w : World) (ha : TxAt w A n cp L) (hb : TxAt w B m cq K) (hn : n + m ≤ 3000000) :
    Calls Try.prog 39 #[.slice A n cp, .slice B m cq] w fun e w' => ∃ A' k c', e = .returned (.slice A' k c') ∧ TxAt w' A' k c' (mgX L K) ∧ Below w.heap.size w w' ∧ Frh w.heap.size A' := by
  have HA := Lib.hid ha
  have HB0 := Lib.hid hb
  have hle1 := ha.le
  have hle2 := hb.le
  have hmx1 := ha.max
  have hmx2 := hb.max
  obtain ⟨P, hP⟩ : ∃ P, mgX L K = P := ⟨_, rfl⟩
  have HP := Lib.hid hP
  have HPF : Hid (∀ y ∈ P, y.length ≤ 140737488355328) := fun y hy => by
    rw [← hP] at hy
    rcases (mgX_mem _ L K y (Nat.le_refl _)).1 hy with q | q
    · exact ha.fits y q
    · exact hb.fits y q
  have HCM : Hid (∀ (x y : Tx) (X : World), Calls Try.prog 57 #[.string ⟨x.toArray⟩, .string ⟨y.toArray⟩] X fun e w' => e = .returned (.int .i64 (if x < y then -1 else if y < x then 1 else 0)) ∧ Below X.heap.size X w') := fun x y X => by
    refine (Try.strings_Compare ⟨x.toArray⟩ ⟨y.toArray⟩ X).mono ?_
    rintro e w' ⟨rfl, rfl⟩
    exact ⟨by rw [← cmpB_is], Below.refl _ _⟩
  obtain ⟨i0, hi0, hz0⟩ := Option.map_eq_some_iff.1 info_str
  simp only [Prod.mk.injEq] at hz0
  have HI := Lib.hid hi0
  have HZ := Lib.hid hz0
  obtain ⟨M, hM⟩ : ∃ M, w.heap.size = M := ⟨_, rfl⟩
  have HM := Lib.hid hM
  obtain ⟨s, hs⟩ : ∃ s, n + m = s := ⟨_, rfl⟩
  have hw : IntKind.i64.wrap ((n : Int) + (m : Int)) = (s : Int) := by rw [IntWalk.i64_in _ (by omega)]; omega
  rw [hP, hM]
  have HS := Lib.hid hs
  have hs3 : s ≤ 3000000 := by omega
  clear ha hb hi0 hz0 hP hM hs
  go_enter Try.func39, Try.ntmps39
  go_wp2_with (refine wpList_make_own _ rfl _ _ 22 rfl M 9 i0 (.string ⟨#[]⟩) 1 Try.underlying22 HI.out HZ.out.1 HZ.out.2.1 .i64 .i64 (s : Int) s rfl rfl rfl (by rw [HZ.out.2.2]; omega) (by unfold maxLen; omega) (by have := HM.out; omega) ?_)
  intro w1 hown hgr
  have HB1 : Hid (Below M w w1) := (Below.refl _ _).grown hgr (by have := HM.out; omega) (fun k e => by cases e)
  have HO1 : Hid (w1.ownsRow M 9 1 (.slice (some ⟨w.heap.size, 0, none⟩) 0 s) 0 (([] : List Tx).map encStr)) := hown
  clear hown hgr
  go_wp2_with fail
  go_loopw [0, 1, 5] (fun av bv lv wr => ∃ (n1 c1 n2 c2 k cl : Nat) (A1 A2 Al : Option Addr) (ra rb l : List Tx), av = .slice A1 n1 c1 ∧ bv = .slice A2 n2 c2 ∧ lv = .slice Al k cl ∧ TxAt w A1 n1 c1 ra ∧ TxAt w A2 n2 c2 rb ∧ wr.ownsRow M 9 1 (.slice Al k cl) k (l.map encStr) ∧ l ++ mgX ra rb = P ∧ n1 + n2 + k ≤ s ∧ Below M w wr) (fun av bv _ _ => slLen av + slLen bv)
  case atStart => exact ⟨n, cp, m, cq, 0, s, A, B, _, L, K, [], rfl, rfl, rfl, HA.out, HB0.out, HO1.out, HP.out, by have := HS.out; omega, HB1.out⟩
  case round =>
    obtain ⟨n1, c1, n2, c2, k, cl, A1, A2, Al, ra, rb, l, rfl, rfl, rfl, h1, h2, h3, h4, h5, hbw⟩ := hrel
    have H1 := Lib.hid h1
    have H2 := Lib.hid h2
    have HOW := Lib.hid h3
    have HE := Lib.hid h4
    have HB := Lib.hid hbw
    have l1 := h1.le
    have l2 := h2.le
    rcases ra with _ | ⟨x, ra⟩
    · obtain rfl : n1 = 0 := h1.len.symm
      have hg1 : ¬ (0 : Int) < ((0 : Nat) : Int) := by omega
      have HT1 := Lib.hid (H1.out.below (w' := wr) (by rw [HM.out]; exact HB.out))
      have hm0 : M ≤ wr.heap.size := by have q := HB.out.size; have q2 := HM.out; omega
      have HPE : Hid ((l ++ rb) = P) := by
        unfold Hid
        rw [← HE.out, mgX_nil_left]
      clear h1 h2 h3 h4 hbw
      go_wp2_with (at_builtin; refine wpList_append_tx rfl _ _ rfl M (.slice Al k cl) k l rfl HOW.out A1 0 c1 [] rfl HT1.out (by omega) hm0 ?_)
      intro v5 w5 hown hgr
      unfold TxO at hown
      obtain ⟨A5, c5, rfl⟩ := own_slice hown
      have HO5 := Lib.hid hown
      have HB5 : Hid (Below M w w5) := HB.out.grown hgr hm0 (fun k e => (HOW.out.lt k e).1)
      have hm5 : M ≤ w5.heap.size := by have q := HB5.out.size; have q2 := HM.out; omega
      have HT2 := Lib.hid (H2.out.below (w' := w5) (by rw [HM.out]; exact HB5.out))
      clear hown hgr
      go_wp2_with (at_builtin; refine wpList_append_tx rfl _ _ rfl M (.slice A5 k c5) k l rfl HO5.out A2 n2 c2 rb rfl HT2.out (by omega) hm5 ?_)
      intro v6 w6 hown hgr
      unfold TxO at hown
      have HB6 : Hid (Below M w w6) := HB5.out.grown hgr hm5 (fun k e => (HO5.out.lt k e).1)
      have HO6 : Hid (w6.ownsRow M 9 1 v6 (k + n2) (P.map encStr)) := by unfold Hid; rw [← HPE.out]; exact hown
      clear hown hgr
      go_wp2
      go_ret
      obtain ⟨A', c', e, q1, q2⟩ := tx_of_own HO6.out HPF.out
      exact ⟨A', _, c', by rw [← e]; rfl, q1, HB6.out, q2⟩
    · rcases rb with _ | ⟨y, rb⟩
      · have e1 := h1.len
        obtain rfl : n2 = 0 := h2.len.symm
        have hp : 0 < n1 := by rw [← e1]; exact Nat.succ_pos _
        clear e1
        have hg1 : (0 : Int) < (n1 : Int) := by omega
        have hg2 : ¬ (0 : Int) < ((0 : Nat) : Int) := by omega
        have HT1 := Lib.hid (H1.out.below (w' := wr) (by rw [HM.out]; exact HB.out))
        have hm0 : M ≤ wr.heap.size := by have q := HB.out.size; have q2 := HM.out; omega
        have HPE : Hid ((l ++ x :: ra) = P) := by
          unfold Hid
          rw [← HE.out, mgX_nil_right]
        clear h1 h2 h3 h4 hbw
        go_wp2_with (at_builtin; refine wpList_append_tx rfl _ _ rfl M (.slice Al k cl) k l rfl HOW.out A1 n1 c1 (x :: ra) rfl HT1.out (by omega) hm0 ?_)
        intro v5 w5 hown hgr
        unfold TxO at hown
        obtain ⟨A5, c5, rfl⟩ := own_slice hown
        have HO5 := Lib.hid hown
        have HB5 : Hid (Below M w w5) := HB.out.grown hgr hm0 (fun k e => (HOW.out.lt k e).1)
        have hm5 : M ≤ w5.heap.size := by have q := HB5.out.size; have q2 := HM.out; omega
        have HT2 := Lib.hid (H2.out.below (w' := w5) (by rw [HM.out]; exact HB5.out))
        clear hown hgr
        go_wp2_with (at_builtin; refine wpList_append_tx rfl _ _ rfl M (.slice A5 (k + n1) c5) (k + n1) (l ++ x :: ra) rfl HO5.out A2 0 c2 [] rfl HT2.out (by omega) hm5 ?_)
        intro v6 w6 hown hgr
        unfold TxO at hown
        have HB6 : Hid (Below M w w6) := HB5.out.grown hgr hm5 (fun k e => (HO5.out.lt k e).1)
        have HO6 : Hid (w6.ownsRow M 9 1 v6 (k + n1) (P.map encStr)) := by unfold Hid; rw [← HPE.out]; exact hown
        clear hown hgr
        go_wp2
        go_ret
        obtain ⟨A', c', e, q1, q2⟩ := tx_of_own HO6.out HPF.out
        exact ⟨A', _, c', by rw [← e]; rfl, q1, HB6.out, q2⟩
      · have e1 := h1.len
        have e2 := h2.len
        obtain ⟨p1, rfl⟩ : ∃ p, n1 = p + 1 := ⟨ra.length, by simpa using e1.symm⟩
        obtain ⟨p2, rfl⟩ : ∃ p, n2 = p + 1 := ⟨rb.length, by simpa using e2.symm⟩
        have hbM : Below w.heap.size w wr := by rw [HM.out]; exact hbw
        obtain ⟨b1, o1, rfl, hbl1, hc1⟩ := (h1.below hbM).at_ (by omega)
        obtain ⟨b2, o2, rfl, hbl2, hc2⟩ := (h2.below hbM).at_ (by omega)
        have a0 := hc1 0 x rfl
        have d0 := hc2 0 y rfl
        rw [Nat.add_zero] at a0 d0
        have HFX : Hid (x.length ≤ 140737488355328) := h1.fits x (List.mem_cons_self ..)
        have HFY : Hid (y.length ≤ 140737488355328) := h2.fits y (List.mem_cons_self ..)
        have HC := Lib.hid (fun X => HCM.out x y X)
        obtain ⟨X, hX⟩ : ∃ X : ByteArray, (⟨x.toArray⟩ : ByteArray) = X := ⟨_, rfl⟩
        obtain ⟨Y, hY⟩ : ∃ Y : ByteArray, (⟨y.toArray⟩ : ByteArray) = Y := ⟨_, rfl⟩
        rw [hX] at a0 HC
        rw [hY] at d0 HC
        have HX := Lib.hid hX
        have HY := Lib.hid hY
        have hg1 : (0 : Int) < ((p1 + 1 : Nat) : Int) := by omega
        have hg2 : (0 : Int) < ((p2 + 1 : Nat) : Int) := by omega
        have HSS : Hid (∀ X', Below wr.heap.size wr X' → Below wr.heap.size wr X' ∧ X'.cell? ⟨b1, o1, none⟩ = some (.string X) ∧ X'.cell? ⟨b2, o2, none⟩ = some (.string Y)) := fun X' hX' => ⟨hX', (hX'.cell (p := ⟨b1, o1, none⟩) hbl1).trans a0, (hX'.cell (p := ⟨b2, o2, none⟩) hbl2).trans d0⟩
        have H0 : Hid (Below wr.heap.size wr wr) := Below.refl _ _
        clear h1 h2 h3 h4 hbw hbM hc1 hc2 hX hY e1 e2
        rcases u8lex_or (x := x) (y := y) with q | q | q
        · have hq0 := q
          have hord : (if x < y then (-1 : Int) else if y < x then 1 else 0) = -1 := if_pos q
          rw [hord] at HC
          clear hord
          have f1 : (1 : Int) ≤ (p1 : Int) + 1 := by omega
          have f2 : (1 : Int) ≤ (p2 : Int) + 1 := by omega
          have f3 : (p1 : Int) + 1 ≤ (c1 : Int) := by omega
          have f4 : (p2 : Int) + 1 ≤ (c2 : Int) := by omega
          have f5 : (1 : Int) ≤ (c1 : Int) := by omega
          have f6 : (1 : Int) ≤ (c2 : Int) := by omega
          by_cases hc1 : c1 = 1
          · obtain rfl : p1 = 0 := by omega
            subst hc1
            have HR1 := Lib.hid (H1.out.rest (i := 1) (by omega))
            rw [if_pos rfl] at HR1
            go_wp2_with fail
            go_region_held3 (fun X' => Below wr.heap.size wr X' ∧ X'.cell? ⟨b1, o1, none⟩ = some (.string X) ∧ X'.cell? ⟨b2, o2, none⟩ = some (.string Y))
              (first | exact HSS.out _ HC1.out | exact HSS.out _ H0.out.drew | exact HSS.out _ H0.out)
              (first | (go_at_call 57; refine Calls.mono (HC.out _) ?_; rintro en x1 ⟨rfl, hq⟩; have HC1 : Hid (Below wr.heap.size wr x1) := (by first | exact hq | exact (Below.refl _ _).drew.trans hq); clear hq))
            all_goals
              obtain ⟨_, a1, d1⟩ := HSS.out x1 HC1.out
              have hM1 : M ≤ x1.heap.size := by have q := HB.out.size; have q2 := HM.out; have q3 := HC1.out.size; omega
              have HBX : Hid (Below M w x1) := HB.out.trans (HC1.out.mono (by have q := HB.out.size; have q2 := HM.out; omega))
              have HW := Lib.hid (World.ownsRow.alloc (w := x1.drew) (own_below HOW.out HC1.out).drew (.cells #[.string X] 9))
              have HONE := Lib.hid (TxAt.one x1.drew x x1.drew.heap.size rfl HFX.out)
              rw [HX.out] at HONE
              have hzw : M ≤ (x1.drew.alloc (.cells #[.string X] 9)).heap.size := by rw [World.size_alloc]; exact Nat.le_trans hM1 (Nat.le_succ _)
              have HBW : Hid (Below M w (x1.drew.alloc (.cells #[.string X] 9))) := HBX.out.drew.alloc hM1 _
              go_wp2_with fail
              go_region_law (refine step_append_tx rfl _ _ rfl M (.slice Al k cl) k l rfl HW.out (some ⟨x1.drew.heap.size, 0, none⟩) 1 1 [x] rfl HONE.out (by omega) hzw ?_; intro v5 w5 hown hgr; unfold TxO at hown; obtain ⟨A5, c5, rfl⟩ := own_slice hown; have HO5 := Lib.hid hown; have HB5 : Hid (Below M w w5) := HBW.out.grown hgr hzw (fun k e => (HW.out.lt k e).1); clear hown hgr)
              all_goals
                go_simp
                go_wp2
                go_roundw
                case rel => exact ⟨_, _, _, _, _, _, _, _, _, ra, y :: rb, l ++ [x], rfl, rfl, rfl, HR1.out, H2.out, HO5.out, by rw [List.append_assoc, List.singleton_append, ← mgX_lt q]; exact HE.out, by omega, HB5.out⟩
                case measure => simp only [slLen]; omega
          · have hsk := f1
            have HR1 := Lib.hid (H1.out.rest (i := 1) (by omega))
            have hadd1 : (some (⟨b1, o1, none⟩ : Addr)).map (fun x => x.add 1) = some ⟨b1, o1 + 1, none⟩ := by simp [Addr.add]
            rw [if_neg hc1, hadd1] at HR1
            clear hadd1
            go_wp2_with fail
            go_region_held3 (fun X' => Below wr.heap.size wr X' ∧ X'.cell? ⟨b1, o1, none⟩ = some (.string X) ∧ X'.cell? ⟨b2, o2, none⟩ = some (.string Y))
              (first | exact HSS.out _ HC1.out | exact HSS.out _ H0.out.drew | exact HSS.out _ H0.out)
              (first | (go_at_call 57; refine Calls.mono (HC.out _) ?_; rintro en x1 ⟨rfl, hq⟩; have HC1 : Hid (Below wr.heap.size wr x1) := (by first | exact hq | exact (Below.refl _ _).drew.trans hq); clear hq))
            all_goals
              obtain ⟨_, a1, d1⟩ := HSS.out x1 HC1.out
              have hM1 : M ≤ x1.heap.size := by have q := HB.out.size; have q2 := HM.out; have q3 := HC1.out.size; omega
              have HBX : Hid (Below M w x1) := HB.out.trans (HC1.out.mono (by have q := HB.out.size; have q2 := HM.out; omega))
              have HW := Lib.hid (World.ownsRow.alloc (w := x1.drew) (own_below HOW.out HC1.out).drew (.cells #[.string X] 9))
              have HONE := Lib.hid (TxAt.one x1.drew x x1.drew.heap.size rfl HFX.out)
              rw [HX.out] at HONE
              have hzw : M ≤ (x1.drew.alloc (.cells #[.string X] 9)).heap.size := by rw [World.size_alloc]; exact Nat.le_trans hM1 (Nat.le_succ _)
              have HBW : Hid (Below M w (x1.drew.alloc (.cells #[.string X] 9))) := HBX.out.drew.alloc hM1 _
              go_wp2_with fail
              go_region_law (refine step_append_tx rfl _ _ rfl M (.slice Al k cl) k l rfl HW.out (some ⟨x1.drew.heap.size, 0, none⟩) 1 1 [x] rfl HONE.out (by omega) hzw ?_; intro v5 w5 hown hgr; unfold TxO at hown; obtain ⟨A5, c5, rfl⟩ := own_slice hown; have HO5 := Lib.hid hown; have HB5 : Hid (Below M w w5) := HBW.out.grown hgr hzw (fun k e => (HW.out.lt k e).1); clear hown hgr)
              all_goals
                go_simp
                go_wp2
                go_roundw
                case rel => exact ⟨_, _, _, _, _, _, _, _, _, ra, y :: rb, l ++ [x], rfl, rfl, rfl, HR1.out, H2.out, HO5.out, by rw [List.append_assoc, List.singleton_append, ← mgX_lt q]; exact HE.out, by omega, HB5.out⟩
                case measure => simp only [slLen]; omega
        · have hq0 := q
          have hord : (if x < y then (-1 : Int) else if y < x then 1 else 0) = 0 := by rw [if_neg (fun e => tx_irrefl y (by rw [q] at e; exact e)), if_neg (fun e => tx_irrefl y (by rw [q] at e; exact e))]
          rw [hord] at HC
          clear hord
          have f1 : (1 : Int) ≤ (p1 : Int) + 1 := by omega
          have f2 : (1 : Int) ≤ (p2 : Int) + 1 := by omega
          have f3 : (p1 : Int) + 1 ≤ (c1 : Int) := by omega
          have f4 : (p2 : Int) + 1 ≤ (c2 : Int) := by omega
          have f5 : (1 : Int) ≤ (c1 : Int) := by omega
          have f6 : (1 : Int) ≤ (c2 : Int) := by omega
          by_cases hc1 : c1 = 1
          · obtain rfl : p1 = 0 := by omega
            subst hc1
            by_cases hc2 : c2 = 1
            · obtain rfl : p2 = 0 := by omega
              subst hc2
              have HR1 := Lib.hid (H1.out.rest (i := 1) (by omega))
              rw [if_pos rfl] at HR1
              have HR2 := Lib.hid (H2.out.rest (i := 1) (by omega))
              rw [if_pos rfl] at HR2
              go_wp2_with fail
              go_region_held3 (fun X' => Below wr.heap.size wr X' ∧ X'.cell? ⟨b1, o1, none⟩ = some (.string X) ∧ X'.cell? ⟨b2, o2, none⟩ = some (.string Y))
                (first | exact HSS.out _ HC1.out | exact HSS.out _ H0.out.drew | exact HSS.out _ H0.out)
                (first | (go_at_call 57; refine Calls.mono (HC.out _) ?_; rintro en x1 ⟨rfl, hq⟩; have HC1 : Hid (Below wr.heap.size wr x1) := (by first | exact hq | exact (Below.refl _ _).drew.trans hq); clear hq))
              all_goals
                obtain ⟨_, a1, d1⟩ := HSS.out x1 HC1.out
                have hM1 : M ≤ x1.heap.size := by have q := HB.out.size; have q2 := HM.out; have q3 := HC1.out.size; omega
                have HBX : Hid (Below M w x1) := HB.out.trans (HC1.out.mono (by have q := HB.out.size; have q2 := HM.out; omega))
                have HW := Lib.hid (World.ownsRow.alloc (w := x1.drew) (own_below HOW.out HC1.out).drew (.cells #[.string X] 9))
                have HONE := Lib.hid (TxAt.one x1.drew x x1.drew.heap.size rfl HFX.out)
                rw [HX.out] at HONE
                have hzw : M ≤ (x1.drew.alloc (.cells #[.string X] 9)).heap.size := by rw [World.size_alloc]; exact Nat.le_trans hM1 (Nat.le_succ _)
                have HBW : Hid (Below M w (x1.drew.alloc (.cells #[.string X] 9))) := HBX.out.drew.alloc hM1 _
                go_wp2_with fail
                go_region_law (refine step_append_tx rfl _ _ rfl M (.slice Al k cl) k l rfl HW.out (some ⟨x1.drew.heap.size, 0, none⟩) 1 1 [x] rfl HONE.out (by omega) hzw ?_; intro v5 w5 hown hgr; unfold TxO at hown; obtain ⟨A5, c5, rfl⟩ := own_slice hown; have HO5 := Lib.hid hown; have HB5 : Hid (Below M w w5) := HBW.out.grown hgr hzw (fun k e => (HW.out.lt k e).1); clear hown hgr)
                all_goals
                  go_simp
                  go_wp2
                  go_roundw
                  case rel => exact ⟨_, _, _, _, _, _, _, _, _, ra, rb, l ++ [x], rfl, rfl, rfl, HR1.out, HR2.out, HO5.out, by have t := HE.out; rw [← q, mgX_eq] at t; rw [List.append_assoc, List.singleton_append]; exact t, by omega, HB5.out⟩
                  case measure => simp only [slLen]; omega
            · have hsk := f1
              have HR1 := Lib.hid (H1.out.rest (i := 1) (by omega))
              rw [if_pos rfl] at HR1
              have HR2 := Lib.hid (H2.out.rest (i := 1) (by omega))
              have hadd2 : (some (⟨b2, o2, none⟩ : Addr)).map (fun x => x.add 1) = some ⟨b2, o2 + 1, none⟩ := by simp [Addr.add]
              rw [if_neg hc2, hadd2] at HR2
              clear hadd2
              go_wp2_with fail
              go_region_held3 (fun X' => Below wr.heap.size wr X' ∧ X'.cell? ⟨b1, o1, none⟩ = some (.string X) ∧ X'.cell? ⟨b2, o2, none⟩ = some (.string Y))
                (first | exact HSS.out _ HC1.out | exact HSS.out _ H0.out.drew | exact HSS.out _ H0.out)
                (first | (go_at_call 57; refine Calls.mono (HC.out _) ?_; rintro en x1 ⟨rfl, hq⟩; have HC1 : Hid (Below wr.heap.size wr x1) := (by first | exact hq | exact (Below.refl _ _).drew.trans hq); clear hq))
              all_goals
                obtain ⟨_, a1, d1⟩ := HSS.out x1 HC1.out
                have hM1 : M ≤ x1.heap.size := by have q := HB.out.size; have q2 := HM.out; have q3 := HC1.out.size; omega
                have HBX : Hid (Below M w x1) := HB.out.trans (HC1.out.mono (by have q := HB.out.size; have q2 := HM.out; omega))
                have HW := Lib.hid (World.ownsRow.alloc (w := x1.drew) (own_below HOW.out HC1.out).drew (.cells #[.string X] 9))
                have HONE := Lib.hid (TxAt.one x1.drew x x1.drew.heap.size rfl HFX.out)
                rw [HX.out] at HONE
                have hzw : M ≤ (x1.drew.alloc (.cells #[.string X] 9)).heap.size := by rw [World.size_alloc]; exact Nat.le_trans hM1 (Nat.le_succ _)
                have HBW : Hid (Below M w (x1.drew.alloc (.cells #[.string X] 9))) := HBX.out.drew.alloc hM1 _
                go_wp2_with fail
                go_region_law (refine step_append_tx rfl _ _ rfl M (.slice Al k cl) k l rfl HW.out (some ⟨x1.drew.heap.size, 0, none⟩) 1 1 [x] rfl HONE.out (by omega) hzw ?_; intro v5 w5 hown hgr; unfold TxO at hown; obtain ⟨A5, c5, rfl⟩ := own_slice hown; have HO5 := Lib.hid hown; have HB5 : Hid (Below M w w5) := HBW.out.grown hgr hzw (fun k e => (HW.out.lt k e).1); clear hown hgr)
                all_goals
                  go_simp
                  go_wp2
                  go_roundw
                  case rel => exact ⟨_, _, _, _, _, _, _, _, _, ra, rb, l ++ [x], rfl, rfl, rfl, HR1.out, HR2.out, HO5.out, by have t := HE.out; rw [← q, mgX_eq] at t; rw [List.append_assoc, List.singleton_append]; exact t, by omega, HB5.out⟩
                  case measure => simp only [slLen]; omega
          · by_cases hc2 : c2 = 1
            · obtain rfl : p2 = 0 := by omega
              subst hc2
              have HR1 := Lib.hid (H1.out.rest (i := 1) (by omega))
              have hadd1 : (some (⟨b1, o1, none⟩ : Addr)).map (fun x => x.add 1) = some ⟨b1, o1 + 1, none⟩ := by simp [Addr.add]
              rw [if_neg hc1, hadd1] at HR1
              clear hadd1
              have HR2 := Lib.hid (H2.out.rest (i := 1) (by omega))
              rw [if_pos rfl] at HR2
              go_wp2_with fail
              go_region_held3 (fun X' => Below wr.heap.size wr X' ∧ X'.cell? ⟨b1, o1, none⟩ = some (.string X) ∧ X'.cell? ⟨b2, o2, none⟩ = some (.string Y))
                (first | exact HSS.out _ HC1.out | exact HSS.out _ H0.out.drew | exact HSS.out _ H0.out)
                (first | (go_at_call 57; refine Calls.mono (HC.out _) ?_; rintro en x1 ⟨rfl, hq⟩; have HC1 : Hid (Below wr.heap.size wr x1) := (by first | exact hq | exact (Below.refl _ _).drew.trans hq); clear hq))
              all_goals
                obtain ⟨_, a1, d1⟩ := HSS.out x1 HC1.out
                have hM1 : M ≤ x1.heap.size := by have q := HB.out.size; have q2 := HM.out; have q3 := HC1.out.size; omega
                have HBX : Hid (Below M w x1) := HB.out.trans (HC1.out.mono (by have q := HB.out.size; have q2 := HM.out; omega))
                have HW := Lib.hid (World.ownsRow.alloc (w := x1.drew) (own_below HOW.out HC1.out).drew (.cells #[.string X] 9))
                have HONE := Lib.hid (TxAt.one x1.drew x x1.drew.heap.size rfl HFX.out)
                rw [HX.out] at HONE
                have hzw : M ≤ (x1.drew.alloc (.cells #[.string X] 9)).heap.size := by rw [World.size_alloc]; exact Nat.le_trans hM1 (Nat.le_succ _)
                have HBW : Hid (Below M w (x1.drew.alloc (.cells #[.string X] 9))) := HBX.out.drew.alloc hM1 _
                go_wp2_with fail
                go_region_law (refine step_append_tx rfl _ _ rfl M (.slice Al k cl) k l rfl HW.out (some ⟨x1.drew.heap.size, 0, none⟩) 1 1 [x] rfl HONE.out (by omega) hzw ?_; intro v5 w5 hown hgr; unfold TxO at hown; obtain ⟨A5, c5, rfl⟩ := own_slice hown; have HO5 := Lib.hid hown; have HB5 : Hid (Below M w w5) := HBW.out.grown hgr hzw (fun k e => (HW.out.lt k e).1); clear hown hgr)
                all_goals
                  go_simp
                  go_wp2
                  go_roundw
                  case rel => exact ⟨_, _, _, _, _, _, _, _, _, ra, rb, l ++ [x], rfl, rfl, rfl, HR1.out, HR2.out, HO5.out, by have t := HE.out; rw [← q, mgX_eq] at t; rw [List.append_assoc, List.singleton_append]; exact t, by omega, HB5.out⟩
                  case measure => simp only [slLen]; omega
            · have hsk := f1
              have HR1 := Lib.hid (H1.out.rest (i := 1) (by omega))
              have hadd1 : (some (⟨b1, o1, none⟩ : Addr)).map (fun x => x.add 1) = some ⟨b1, o1 + 1, none⟩ := by simp [Addr.add]
              rw [if_neg hc1, hadd1] at HR1
              clear hadd1
              have HR2 := Lib.hid (H2.out.rest (i := 1) (by omega))
              have hadd2 : (some (⟨b2, o2, none⟩ : Addr)).map (fun x => x.add 1) = some ⟨b2, o2 + 1, none⟩ := by simp [Addr.add]
              rw [if_neg hc2, hadd2] at HR2
              clear hadd2
              go_wp2_with fail
              go_region_held3 (fun X' => Below wr.heap.size wr X' ∧ X'.cell? ⟨b1, o1, none⟩ = some (.string X) ∧ X'.cell? ⟨b2, o2, none⟩ = some (.string Y))
                (first | exact HSS.out _ HC1.out | exact HSS.out _ H0.out.drew | exact HSS.out _ H0.out)
                (first | (go_at_call 57; refine Calls.mono (HC.out _) ?_; rintro en x1 ⟨rfl, hq⟩; have HC1 : Hid (Below wr.heap.size wr x1) := (by first | exact hq | exact (Below.refl _ _).drew.trans hq); clear hq))
              all_goals
                obtain ⟨_, a1, d1⟩ := HSS.out x1 HC1.out
                have hM1 : M ≤ x1.heap.size := by have q := HB.out.size; have q2 := HM.out; have q3 := HC1.out.size; omega
                have HBX : Hid (Below M w x1) := HB.out.trans (HC1.out.mono (by have q := HB.out.size; have q2 := HM.out; omega))
                have HW := Lib.hid (World.ownsRow.alloc (w := x1.drew) (own_below HOW.out HC1.out).drew (.cells #[.string X] 9))
                have HONE := Lib.hid (TxAt.one x1.drew x x1.drew.heap.size rfl HFX.out)
                rw [HX.out] at HONE
                have hzw : M ≤ (x1.drew.alloc (.cells #[.string X] 9)).heap.size := by rw [World.size_alloc]; exact Nat.le_trans hM1 (Nat.le_succ _)
                have HBW : Hid (Below M w (x1.drew.alloc (.cells #[.string X] 9))) := HBX.out.drew.alloc hM1 _
                go_wp2_with fail
                go_region_law (refine step_append_tx rfl _ _ rfl M (.slice Al k cl) k l rfl HW.out (some ⟨x1.drew.heap.size, 0, none⟩) 1 1 [x] rfl HONE.out (by omega) hzw ?_; intro v5 w5 hown hgr; unfold TxO at hown; obtain ⟨A5, c5, rfl⟩ := own_slice hown; have HO5 := Lib.hid hown; have HB5 : Hid (Below M w w5) := HBW.out.grown hgr hzw (fun k e => (HW.out.lt k e).1); clear hown hgr)
                all_goals
                  go_simp
                  go_wp2
                  go_roundw
                  case rel => exact ⟨_, _, _, _, _, _, _, _, _, ra, rb, l ++ [x], rfl, rfl, rfl, HR1.out, HR2.out, HO5.out, by have t := HE.out; rw [← q, mgX_eq] at t; rw [List.append_assoc, List.singleton_append]; exact t, by omega, HB5.out⟩
                  case measure => simp only [slLen]; omega
        · have hq0 := q
          have hord : (if x < y then (-1 : Int) else if y < x then 1 else 0) = 1 := by rw [if_neg (tx_asymm q), if_pos q]
          rw [hord] at HC
          clear hord
          have f1 : (1 : Int) ≤ (p1 : Int) + 1 := by omega
          have f2 : (1 : Int) ≤ (p2 : Int) + 1 := by omega
          have f3 : (p1 : Int) + 1 ≤ (c1 : Int) := by omega
          have f4 : (p2 : Int) + 1 ≤ (c2 : Int) := by omega
          have f5 : (1 : Int) ≤ (c1 : Int) := by omega
          have f6 : (1 : Int) ≤ (c2 : Int) := by omega
          by_cases hc2 : c2 = 1
          · obtain rfl : p2 = 0 := by omega
            subst hc2
            have HR2 := Lib.hid (H2.out.rest (i := 1) (by omega))
            rw [if_pos rfl] at HR2
            go_wp2_with fail
            go_region_held3 (fun X' => Below wr.heap.size wr X' ∧ X'.cell? ⟨b1, o1, none⟩ = some (.string X) ∧ X'.cell? ⟨b2, o2, none⟩ = some (.string Y))
              (first | exact HSS.out _ HC1.out | exact HSS.out _ H0.out.drew | exact HSS.out _ H0.out)
              (first | (go_at_call 57; refine Calls.mono (HC.out _) ?_; rintro en x1 ⟨rfl, hq⟩; have HC1 : Hid (Below wr.heap.size wr x1) := (by first | exact hq | exact (Below.refl _ _).drew.trans hq); clear hq))
            all_goals
              obtain ⟨_, a1, d1⟩ := HSS.out x1 HC1.out
              have hM1 : M ≤ x1.heap.size := by have q := HB.out.size; have q2 := HM.out; have q3 := HC1.out.size; omega
              have HBX : Hid (Below M w x1) := HB.out.trans (HC1.out.mono (by have q := HB.out.size; have q2 := HM.out; omega))
              have HW := Lib.hid (World.ownsRow.alloc (w := x1.drew) (own_below HOW.out HC1.out).drew (.cells #[.string Y] 9))
              have HONE := Lib.hid (TxAt.one x1.drew y x1.drew.heap.size rfl HFY.out)
              rw [HY.out] at HONE
              have hzw : M ≤ (x1.drew.alloc (.cells #[.string Y] 9)).heap.size := by rw [World.size_alloc]; exact Nat.le_trans hM1 (Nat.le_succ _)
              have HBW : Hid (Below M w (x1.drew.alloc (.cells #[.string Y] 9))) := HBX.out.drew.alloc hM1 _
              go_wp2_with fail
              go_region_law (refine step_append_tx rfl _ _ rfl M (.slice Al k cl) k l rfl HW.out (some ⟨x1.drew.heap.size, 0, none⟩) 1 1 [y] rfl HONE.out (by omega) hzw ?_; intro v5 w5 hown hgr; unfold TxO at hown; obtain ⟨A5, c5, rfl⟩ := own_slice hown; have HO5 := Lib.hid hown; have HB5 : Hid (Below M w w5) := HBW.out.grown hgr hzw (fun k e => (HW.out.lt k e).1); clear hown hgr)
              all_goals
                go_simp
                go_wp2
                go_roundw
                case rel => exact ⟨_, _, _, _, _, _, _, _, _, x :: ra, rb, l ++ [y], rfl, rfl, rfl, H1.out, HR2.out, HO5.out, by rw [List.append_assoc, List.singleton_append, ← mgX_gt q]; exact HE.out, by omega, HB5.out⟩
                case measure => simp only [slLen]; omega
          · have hsk := f1
            have HR2 := Lib.hid (H2.out.rest (i := 1) (by omega))
            have hadd2 : (some (⟨b2, o2, none⟩ : Addr)).map (fun x => x.add 1) = some ⟨b2, o2 + 1, none⟩ := by simp [Addr.add]
            rw [if_neg hc2, hadd2] at HR2
            clear hadd2
            go_wp2_with fail
            go_region_held3 (fun X' => Below wr.heap.size wr X' ∧ X'.cell? ⟨b1, o1, none⟩ = some (.string X) ∧ X'.cell? ⟨b2, o2, none⟩ = some (.string Y))
              (first | exact HSS.out _ HC1.out | exact HSS.out _ H0.out.drew | exact HSS.out _ H0.out)
              (first | (go_at_call 57; refine Calls.mono (HC.out _) ?_; rintro en x1 ⟨rfl, hq⟩; have HC1 : Hid (Below wr.heap.size wr x1) := (by first | exact hq | exact (Below.refl _ _).drew.trans hq); clear hq))
            all_goals
              obtain ⟨_, a1, d1⟩ := HSS.out x1 HC1.out
              have hM1 : M ≤ x1.heap.size := by have q := HB.out.size; have q2 := HM.out; have q3 := HC1.out.size; omega
              have HBX : Hid (Below M w x1) := HB.out.trans (HC1.out.mono (by have q := HB.out.size; have q2 := HM.out; omega))
              have HW := Lib.hid (World.ownsRow.alloc (w := x1.drew) (own_below HOW.out HC1.out).drew (.cells #[.string Y] 9))
              have HONE := Lib.hid (TxAt.one x1.drew y x1.drew.heap.size rfl HFY.out)
              rw [HY.out] at HONE
              have hzw : M ≤ (x1.drew.alloc (.cells #[.string Y] 9)).heap.size := by rw [World.size_alloc]; exact Nat.le_trans hM1 (Nat.le_succ _)
              have HBW : Hid (Below M w (x1.drew.alloc (.cells #[.string Y] 9))) := HBX.out.drew.alloc hM1 _
              go_wp2_with fail
              go_region_law (refine step_append_tx rfl _ _ rfl M (.slice Al k cl) k l rfl HW.out (some ⟨x1.drew.heap.size, 0, none⟩) 1 1 [y] rfl HONE.out (by omega) hzw ?_; intro v5 w5 hown hgr; unfold TxO at hown; obtain ⟨A5, c5, rfl⟩ := own_slice hown; have HO5 := Lib.hid hown; have HB5 : Hid (Below M w w5) := HBW.out.grown hgr hzw (fun k e => (HW.out.lt k e).1); clear hown hgr)
              all_goals
                go_simp
                go_wp2
                go_roundw
                case rel => exact ⟨_, _, _, _, _, _, _, _, _, x :: ra, rb, l ++ [y], rfl, rfl, rfl, H1.out, HR2.out, HO5.out, by rw [List.append_assoc, List.singleton_append, ← mgX_gt q]; exact HE.out, by omega, HB5.out⟩
                case measure => simp only [slLen]; omega

end Go.Proofs.Ytkobhlhkkpnmkaa
