/-
  RingGoesOn: its walk. Condition: the slices read as bytes.
-/
import Derived.Test.YtbecjaamheibmaaRbE
namespace Go.Proofs.Ytbecjaamheibmaa
open Go.RowKit

/-- Feed of no more than 500 bytes to a ring whose offset is small. -/
theorem feed_small {w : World} {base p s : Nat} {F : Nat → Prop} {h : Hst} {X : Tx} {n c : Nat} {b : Tx} {A : Option Addr} (H : RgOn w base F p s h X) (hb : ByAt w A n c b) (hbF : ∀ g o, 0 < n → A = some ⟨g, o, none⟩ → g < base) (hn : n ≤ 500) (ho : h.off ≤ 1000000) (o' : Int) (ho' : h.off + (n : Int) = o') :
    Calls Try.prog 26 #[.pointer (some ⟨p, 0, none⟩), .slice A n c] w fun e w' => e = .returned (.int .i64 0) ∧ ∃ F', RgOn w' base F' p s { h with off := o' } (X ++ b) ∧ Below base w w' := by
  refine (feed_any w H hb (fun g o h0 e hF => by have := hbF g o h0 e; have := (H.ls.1 g hF).1; omega)).mono ?_
  rintro e w' ⟨rfl, ht⟩
  have hno : ¬ (1125899906842624 - h.off < (n : Int)) := by omega
  have q1 : fdE h n = 0 := if_neg hno
  have q2 : fdH h n = { h with off := o' } := by unfold fdH; rw [if_neg hno, ho']
  have q3 : fdX h X b = X ++ b := by unfold fdX; rw [hb.len, if_neg hno]
  rw [q2, q3] at ht
  obtain ⟨F', h1, _, h3⟩ := RgTo.out H ht
  exact ⟨by rw [q1], F', h1, h3⟩

theorem cat_by (a b : Tx) : (⟨a.toArray⟩ : ByteArray) ++ ⟨b.toArray⟩ = ⟨(a ++ b).toArray⟩ := by
  apply ByteArray.ext
  rw [ByteArray.data_append]
  simp

set_option maxRecDepth 100000 in
set_option maxHeartbeats 16000000 in
theorem goesOn_any {A1 : Option Addr} {n1 c1 : Nat} {l1 : Tx} {A2 : Option Addr} {n2 c2 : Nat} {l2 : Tx} {A3 : Option Addr} {n3 c3 : Nat} {l3 : Tx} (w : World) (size : Int) (s1 : -9223372036854775808 ≤ size) (s2 : size ≤ 9223372036854775807) (hb1 : ByAt w A1 n1 c1 l1) (hb2 : ByAt w A2 n2 c2 l2) (hb3 : ByAt w A3 n3 c3 l3) (o : Int) (o1 : -9223372036854775808 ≤ o) (o2 : o ≤ 9223372036854775807) (el : Bool) :
    Calls Try.prog 7 #[.int .i64 size, .slice A1 n1 c1, .slice A2 n2 c2, .slice A3 n3 c3, .int .i64 o, .bool el] w fun e w' => e = .returned (.bool true) ∧ Below w.heap.size w w' := by
  have HAL := Lib.hid alive_any
  by_cases hok : size < 1 ∨ 16777216 < size
  · have HN := Lib.hid (new_no w size 3 (by omega))
    clear hok hb1 hb2 hb3 s1 s2 o1 o2
    go_enter Try.func7, Try.ntmps7
    go_wp2_with fail
    refine HN.out.mono ?_
    rintro e w1 ⟨rfl, rfl⟩
    go_wp2_with fail
    refine (HAL.out _).mono ?_
    rintro e w1 ⟨rfl, hb1⟩
    have HB1 := Lib.hid hb1
    clear hb1
    go_wp2
    go_ret
    exact ⟨rfl, HB1.out⟩
  · obtain ⟨s, rfl⟩ : ∃ s : Nat, size = (s : Int) := ⟨size.toNat, by omega⟩
    have hs0 : 0 < s := by omega
    have hs2 : s ≤ 16777216 := by omega
    obtain ⟨m1, hm1, hmn1, hbm1, hcut1⟩ := cut_any hb1
    obtain ⟨m2, hm2, hmn2, hbm2, hcut2⟩ := cut_any hb2
    obtain ⟨m3, hm3, hmn3, hbm3, hcut3⟩ := cut_any hb3
    obtain ⟨x, hx⟩ : ∃ b, l1.take 500 = b := ⟨_, rfl⟩
    obtain ⟨y, hy⟩ : ∃ b, l2.take 500 = b := ⟨_, rfl⟩
    obtain ⟨z, hz⟩ : ∃ b, l3.take 500 = b := ⟨_, rfl⟩
    rw [hx] at hbm1
    rw [hy] at hbm2
    rw [hz] at hbm3
    have HC1 := Lib.hid hcut1
    have HC2 := Lib.hid hcut2
    have HC3 := Lib.hid hcut3
    have HN : Hid (Calls Try.prog 9 #[.int .i64 s, .int .u64 3] w fun e w' => e = .returned (.tuple #[.pointer (some ⟨w.heap.size, 0, none⟩), .int .i64 0]) ∧ RgOn w' w.heap.size (· = w.heap.size) w.heap.size s ⟨3, 0, 0, 0⟩ [] ∧ Below w.heap.size w w') := new_yes w s 3 hs0 hs2 (by omega) (by omega)
    obtain ⟨M, hM⟩ : ∃ M, w.heap.size = M := ⟨_, rfl⟩
    have HY1 : Hid (∀ X, Below M w X → ByAt X A1 m1 c1 x) := fun X hX => hbm1.below (by rw [hM]; exact hX)
    have HY2 : Hid (∀ X, Below M w X → ByAt X A2 m2 c2 y) := fun X hX => hbm2.below (by rw [hM]; exact hX)
    have HY3 : Hid (∀ X, Below M w X → ByAt X A3 m3 c3 z) := fun X hX => hbm3.below (by rw [hM]; exact hX)
    have hlow : ∀ {A : Option Addr} {n c : Nat} {l : Tx}, ByAt w A n c l → ∀ g o, 0 < n → A = some ⟨g, o, none⟩ → g < M := fun hb g o h0 e => by
      obtain ⟨g', o', e', hlt, _⟩ := hb.cell (j := 0) h0
      rw [e] at e'
      injection e' with e'
      injection e' with q1 q2
      omega
    have HG1 : Hid (∀ g o, 0 < m1 → A1 = some ⟨g, o, none⟩ → g < M) := hlow hbm1
    have HG2 : Hid (∀ g o, 0 < m2 → A2 = some ⟨g, o, none⟩ → g < M) := hlow hbm2
    have HL1 : Hid (x.length = m1) := hbm1.len
    have HL2 : Hid (y.length = m2) := hbm2.len
    have HL3 : Hid (z.length = m3) := hbm3.len
    have hmc1 := hbm1.le
    have hmc2 := hbm2.le
    have hmc3 := hbm3.le
    rw [hM] at HN ⊢
    have HM := Lib.hid hM
    clear hcut1 hcut2 hcut3 hbm1 hbm2 hbm3 hb1 hb2 hb3 hx hy hz hM hok s1 s2 hlow
    go_enter Try.func7, Try.ntmps7
    go_wp2_with fail
    refine HN.out.mono ?_
    rintro e w1 ⟨rfl, hr1, hlo1⟩
    have HR1 := Lib.hid hr1
    have HB1 := Lib.hid hlo1
    clear hr1 hlo1
    go_wp2_with fail
    refine (HC1.out _).mono ?_
    rintro e w2 ⟨rfl, rfl⟩
    go_wp2_with fail
    refine (HC2.out _).mono ?_
    rintro e w2 ⟨rfl, rfl⟩
    go_wp2_with fail
    refine (HC3.out _).mono ?_
    rintro e w2 ⟨rfl, rfl⟩
    have HF1 := Lib.hid (feed_small HR1.out (HY1.out _ HB1.out) HG1.out hm1 (by show (0 : Int) ≤ _; omega) (m1 : Int) (by show (0 : Int) + (m1 : Int) = _; omega))
    go_wp2_with fail
    refine HF1.out.mono ?_
    rintro e w2 ⟨rfl, F2, hr2, hlo2⟩
    have HR2 : Hid (RgOn w2 M F2 M s ⟨3, m1, 0, 0⟩ x) := hr2
    have HB2 := Lib.hid (HB1.out.trans hlo2)
    have HFK : Hid (Calls Try.prog 27 #[.pointer (some ⟨M, 0, none⟩), .int .u64 4] w2 fun e w' => e = .returned (.int .i64 0) ∧ RgTo w2 M F2 M s ⟨4, m1, 3, m1⟩ x w') := fork_any w2 HR2.out 4 (by omega) (by omega)
    clear hr2 hlo2
    go_wp2_with fail
    refine HFK.out.mono ?_
    rintro e w3 ⟨rfl, ht3⟩
    obtain ⟨F3, hr3, -, hlo3⟩ := RgTo.out HR2.out ht3
    have HR3 := Lib.hid hr3
    have HB3 := Lib.hid (HB2.out.trans hlo3)
    clear ht3 hr3 hlo3
    have HF3 := Lib.hid (feed_small HR3.out (HY2.out _ HB3.out) HG2.out hm2 (by show (m1 : Int) ≤ _; omega) ((m1 + m2 : Nat) : Int) (by show (m1 : Int) + (m2 : Int) = _; omega))
    go_wp2_with fail
    refine HF3.out.mono ?_
    rintro e w4 ⟨rfl, F4, hr4, hlo4⟩
    have HR4 : Hid (RgOn w4 M F4 M s ⟨4, (m1 + m2 : Nat), 3, m1⟩ (x ++ y)) := hr4
    have HB4 := Lib.hid (HB3.out.trans hlo4)
    clear hr4 hlo4
    obtain ⟨N, hN⟩ : ∃ N, m1 + m2 = N := ⟨_, rfl⟩
    rw [hN] at HR4
    obtain ⟨N3, hN3⟩ : ∃ N3, m1 + m3 = N3 := ⟨_, rfl⟩
    have HNN := Lib.hid hN
    have HNN3 := Lib.hid hN3
    have HSM : Hid (N ≤ 140737488355328 ∧ N3 ≤ 140737488355328 ∧ m1 ≤ 140737488355328) := ⟨by omega, by omega, by omega⟩
    obtain ⟨wx, hwx⟩ : ∃ wx, w4.alloc (.cells #[] 5) = wx := ⟨_, rfl⟩
    have hbx : Below w4.heap.size w4 wx := by rw [← hwx]; exact (Below.refl _ _).alloc (Nat.le_refl _) _
    have HEM : Hid (EmpAt wx w4.heap.size w4.heap.size) := by unfold Hid; rw [← hwx]; exact EmpAt.new w4 _ (Nat.le_refl _)
    have hM4 : M ≤ w4.heap.size := by have := HB4.out.size; have := HM.out; omega
    have HBX := Lib.hid (HB4.out.trans (hbx.mono hM4))
    have HBX4 := Lib.hid hbx
    have HWX := Lib.hid hwx
    clear hwx hbx hN hN3
    go_wp2_with (first | rw [HWX.out] | (at_builtin; refine wpList_append_emp rfl _ _ rfl w4.heap.size w4.heap.size HEM.out rfl A1 m1 c1 x rfl (HY1.out _ HBX.out) HSM.out.2.2 ?_))
    intro A5 c5 w5 HO5 hb5
    have HB45 := Lib.hid (HBX4.out.trans hb5)
    have HB5 := Lib.hid (HBX.out.trans (hb5.mono hM4))
    have hz5 := HB45.out.size
    clear hb5
    go_wp2_with (at_builtin; refine wpList_append_by rfl _ _ rfl w4.heap.size A5 m1 c5 x rfl HO5.out hz5 A2 m2 c2 y rfl (HY2.out _ HB5.out) N HNN.out HSM.out.1 ?_)
    intro A6 c6 w6 HO6 hb6
    have HB46 := Lib.hid (HB45.out.trans hb6)
    have HB6 := Lib.hid (HB5.out.trans (hb6.mono hM4))
    have HR6 := Lib.hid (HR4.out.below HB46.out)
    have HY6 : Hid (ByAt w6 A6 N c6 (x ++ y)) := by
      have q := HO6.out
      try rw [← List.map_append] at q
      exact SlAt.own q
    clear hb6
    have HFR : Hid (∀ (T : Nat) (X : World), Below w6.heap.size w6 X → (T : Int) ≤ 1000 → accB s ⟨4, N, 3, m1⟩ (x ++ y) 4 (T : Int) = true ∨ accB s ⟨4, N, 3, m1⟩ (x ++ y) 3 (T : Int) = true → Calls Try.prog 14 #[.pointer (some ⟨M, 0, none⟩), .int .i64 (T : Int)] X (Told X ((x ++ y).drop T) 0)) := fun T X hX hT hac => by
      have hh : hasB s ⟨4, N, 3, m1⟩ (x ++ y) (T : Int) = true := by
        rcases hac with q | q
        · unfold accB at q
          exact (Bool.and_eq_true_iff.1 q).2
        · unfold accB at q
          exact (Bool.and_eq_true_iff.1 q).2
      obtain ⟨e1, e2⟩ := frm_yes hh
      have q := from_any X (HR6.out.below hX) (T : Int) (by omega) (by omega)
      rw [e1, e2] at q
      have hd : (T : Int) ≤ (N : Int) := by
        unfold hasB at hh
        have := (of_decide_eq_true hh).2
        exact this
      have hl : (x ++ y).length = N := by rw [List.length_append, HL1.out, HL2.out]; exact HNN.out
      rw [hl, show N - ((⟨4, (N : Int), 3, (m1 : Int)⟩ : Hst).off - (T : Int)).toNat = T by show N - ((N : Int) - (T : Int)).toNat = T; omega] at q
      exact q
    have HT3 : Hid (∀ T : Nat, accB s ⟨4, N, 3, m1⟩ (x ++ y) 3 (T : Int) = true → T ≤ m1) := fun T q => by
      unfold accB folB at q
      have := of_decide_eq_true (Bool.and_eq_true_iff.1 q).1
      rcases this with h | h
      · exact absurd h (by show ¬ (3 : Int) = 4; omega)
      · have := h.2.2
        have : (T : Int) ≤ (m1 : Int) := this
        omega
    have HCC : Hid (∀ X, Below M w X → (convert 33 9 (.slice A1 m1 c1)).run Try.prog X = .ok (.string ⟨x.toArray⟩) X ∧ (convert 33 9 (.slice A2 m2 c2)).run Try.prog X = .ok (.string ⟨y.toArray⟩) X) := fun X hX => ⟨conv_by (HY1.out X hX), conv_by (HY2.out X hX)⟩
    obtain ⟨P1, hP1⟩ : ∃ P : ByteArray, ⟨x.toArray⟩ = P := ⟨_, rfl⟩
    obtain ⟨P2, hP2⟩ : ∃ P : ByteArray, ⟨y.toArray⟩ = P := ⟨_, rfl⟩
    obtain ⟨R, hR⟩ : ∃ P : ByteArray, ⟨(x ++ y).toArray⟩ = P := ⟨_, rfl⟩
    have hA12 : ∀ X, (Op.stringOp .add P1 P2).run Try.prog X = .ok (.string R) X := fun X => by
      rw [← hR, ← hP1, ← hP2, ← cat_by]
      exact run_string_add_sum _ _ _ (by
        show x.toArray.size + y.toArray.size ≤ _
        rw [List.size_toArray, List.size_toArray, HL1.out, HL2.out]
        omega)
    have HA12 := Lib.hid hA12
    have HADD : Hid (∀ (Y : Tx) (T : Nat), Y.take T = (x ++ y).take T → T ≤ N → ∀ X, (Op.stringOp .add ⟨(Y.take T).toArray⟩ ⟨((x ++ y).drop T).toArray⟩).run Try.prog X = .ok (.string R) X) := fun Y T hT hTN X => by
      rw [← hR, hT, ← show (x ++ y).take T ++ (x ++ y).drop T = x ++ y from List.take_append_drop T _, ← cat_by, List.take_append_drop]
      exact run_string_add_sum _ _ _ (by
        show ((x ++ y).take T).toArray.size + ((x ++ y).drop T).toArray.size ≤ _
        rw [List.size_toArray, List.size_toArray, List.length_take, List.length_drop, List.length_append, HL1.out, HL2.out]
        omega)
    rw [hP1, hP2] at HCC
    clear hP1 hP2 hR hA12
    cases el with
    | false =>
      by_cases ho : o < 0
      · have hneg : o < 0 := ho
        have HB66 : Hid (Below w6.heap.size w6 w6) := Below.refl _ _
        go_wp2_with fail
        refine (HAL.out _).mono ?_
        rintro e w9 ⟨rfl, hb9⟩
        have HE : Hid (Below M w w9) := HB6.out.trans (hb9.mono (by have := HB6.out.size; have := HM.out; omega))
        clear hb9
        go_wp2
        go_ret
        exact ⟨rfl, HE.out⟩
      · by_cases ho2 : (N : Int) < o
        · have hneg : decide (o < 0) = false := decide_eq_false (by omega)
          have hbig : (N : Int) < o := ho2
          have HB66 : Hid (Below w6.heap.size w6 w6) := Below.refl _ _
          go_wp2_with fail
          refine (HAL.out _).mono ?_
          rintro e w9 ⟨rfl, hb9⟩
          have HE : Hid (Below M w w9) := HB6.out.trans (hb9.mono (by have := HB6.out.size; have := HM.out; omega))
          clear hb9
          go_wp2
          go_ret
          exact ⟨rfl, HE.out⟩
        · obtain ⟨T, rfl⟩ : ∃ T : Nat, o = (T : Int) := ⟨o.toNat, by omega⟩
          have hTk : (T : Int) ≤ 1000 := by have := HNN.out; have := HNN3.out; omega
          cases hacc : accB s ⟨4, N, 3, m1⟩ (x ++ y) 4 (T : Int) with
          | false =>
            have hneg : decide ((T : Int) < 0) = false := decide_eq_false (by omega)
            have hbig : decide ((N : Int) < (T : Int)) = false := decide_eq_false (by omega)
            have hbigN : decide (N < T) = false := decide_eq_false (by omega)
            have HB66 : Hid (Below w6.heap.size w6 w6) := Below.refl _ _
            have hac := accepts_any w6 HR6.out 4 (T : Int)
            rw [hacc] at hac
            have HAC := Lib.hid hac
            clear hac
            go_wp2_with fail
            refine HAC.out.mono ?_
            rintro e w9 ⟨rfl, hb9⟩
            have HB9 : Hid (Below M w w9) := HB6.out.trans (hb9.mono (by have := HB6.out.size; have := HM.out; omega))
            clear hb9
            go_wp2_with fail
            refine (HAL.out _).mono ?_
            rintro e w10 ⟨rfl, hb10⟩
            have HE : Hid (Below M w w10) := HB9.out.trans (hb10.mono (by have := HB9.out.size; have := HM.out; omega))
            clear hb10
            go_wp2
            go_ret
            exact ⟨rfl, HE.out⟩
          | true =>
            have hneg : decide ((T : Int) < 0) = false := decide_eq_false (by omega)
            have hbig : decide ((N : Int) < (T : Int)) = false := decide_eq_false (by omega)
            have hbigN : decide (N < T) = false := decide_eq_false (by omega)
            have HB66 : Hid (Below w6.heap.size w6 w6) := Below.refl _ _
            have hac := accepts_any w6 HR6.out 4 (T : Int)
            rw [hacc] at hac
            have HAC := Lib.hid hac
            clear hac
            go_wp2_with fail
            refine HAC.out.mono ?_
            rintro e w9 ⟨rfl, hb9⟩
            have HB9 : Hid (Below M w w9) := HB6.out.trans (hb9.mono (by have := HB6.out.size; have := HM.out; omega))
            have HB69 : Hid (Below w6.heap.size w6 w9) := HB66.out.trans (hb9.mono (HB66.out).size)
            have HYM : Hid (ByAt w9 A6 N c6 (x ++ y)) := HY6.out.below hb9
            clear hb9
            go_wp2_with fail
            refine (HFR.out T _ HB69.out hTk (by first | exact Or.inl hacc | exact Or.inr hacc)).mono ?_
            rintro e w10 ⟨A10, n10, c10, rfl, hy10, hb10, -⟩
            have HB10 : Hid (Below M w w10) := HB9.out.trans (hb10.mono (by have := HB9.out.size; have := HM.out; omega))
            have hTT : (x ++ y).take T = (x ++ y).take T := rfl
            obtain ⟨Q1, hQ1⟩ : ∃ P : ByteArray, ⟨((x ++ y).take T).toArray⟩ = P := ⟨_, rfl⟩
            obtain ⟨Q2, hQ2⟩ : ∃ P : ByteArray, ⟨((x ++ y).drop T).toArray⟩ = P := ⟨_, rfl⟩
            have hA34 : ∀ X, (Op.stringOp .add Q1 Q2).run Try.prog X = .ok (.string R) X := fun X => by
              rw [← hQ1, ← hQ2]
              exact HADD.out _ T hTT (by omega) X
            have hA12 := HA12.out
            have HCV : Hid (∀ X, Below w10.heap.size w10 X → (convert 33 9 (.slice A6 T c6)).run Try.prog X = .ok (.string Q1) X ∧ (convert 33 9 (.slice A10 n10 c10)).run Try.prog X = .ok (.string Q2) X ∧ (convert 33 9 (.slice A1 m1 c1)).run Try.prog X = .ok (.string P1) X ∧ (convert 33 9 (.slice A2 m2 c2)).run Try.prog X = .ok (.string P2) X) := fun X hX => by
              rw [← hQ1, ← hQ2]
              have hXM : Below M w X := HB10.out.trans (hX.mono (by have := HB10.out.size; have := HM.out; omega))
              exact ⟨conv_by (((HYM.out.below hb10).below hX).first (m := T) (by omega)), conv_by (hy10.below hX), HCC.out X hXM⟩
            have HALB : Hid (∀ X, Below w10.heap.size w10 X → Calls Try.prog 11 #[] X fun e w' => e = .returned (.bool true) ∧ Below w10.heap.size w10 w') := fun X hX => by
              refine (HAL.out X).mono ?_
              rintro e w' ⟨rfl, h⟩
              exact ⟨rfl, below_then hX h⟩
            have hT0 : (0 : Int) ≤ (T : Int) := by omega
            have hTc : (T : Int) ≤ (c6 : Int) := by have := HYM.out.le; omega
            clear hy10 hb10 hQ1 hQ2 hTT
            go_wp2_with fail
            go_region_held3 (fun X => (convert 33 9 (.slice A6 T c6)).run Try.prog X = .ok (.string Q1) X ∧ (convert 33 9 (.slice A10 n10 c10)).run Try.prog X = .ok (.string Q2) X ∧ (convert 33 9 (.slice A1 m1 c1)).run Try.prog X = .ok (.string P1) X ∧ (convert 33 9 (.slice A2 m2 c2)).run Try.prog X = .ok (.string P2) X) (first | exact HCV.out _ (Below.refl _ _) | exact HCV.out _ (Below.refl _ _).drew | exact HCV.out _ (below_drewN _ _ _) | exact HCV.out _ HB11.out) ((go_at_call 11; refine Calls.mono (HALB.out _ (by first | exact (Below.refl _ _).drew | exact below_drewN _ _ _ | exact Below.refl _ _)) ?_; rintro en w11 ⟨rfl, hb11⟩; have HB11 := Lib.hid hb11; clear hb11))
            go_wp2
            go_ret
            exact ⟨rfl, HB10.out.trans (HB11.out.mono (by have := HB10.out.size; have := HM.out; omega))⟩
    | true =>
      by_cases ho : o < 0
      · have hneg : o < 0 := ho
        obtain ⟨wy, hwy⟩ : ∃ wy, w6.alloc (.cells #[] 5) = wy := ⟨_, rfl⟩
        have hby : Below w6.heap.size w6 wy := by rw [← hwy]; exact (Below.refl _ _).alloc (Nat.le_refl _) _
        have HEY : Hid (EmpAt wy w6.heap.size w6.heap.size) := by unfold Hid; rw [← hwy]; exact EmpAt.new w6 _ (Nat.le_refl _)
        have hM6 : M ≤ w6.heap.size := by have := HB6.out.size; have := HM.out; omega
        have HBY := Lib.hid (HB6.out.trans (hby.mono hM6))
        have HBY6 := Lib.hid hby
        have HWY := Lib.hid hwy
        clear hwy hby
        go_wp2_with (first | rw [HWY.out] | (at_builtin; refine wpList_append_emp rfl _ _ rfl w6.heap.size w6.heap.size HEY.out rfl A1 m1 c1 x rfl (HY1.out _ HBY.out) HSM.out.2.2 ?_))
        intro A7 c7 w7 HO7 hb7
        have HB67 := Lib.hid (HBY6.out.trans hb7)
        have HB7 := Lib.hid (HBY.out.trans (hb7.mono hM6))
        have hz7 := HB67.out.size
        clear hb7
        go_wp2_with (at_builtin; refine wpList_append_by rfl _ _ rfl w6.heap.size A7 m1 c7 x rfl HO7.out hz7 A3 m3 c3 z rfl (HY3.out _ HB7.out) N3 HNN3.out HSM.out.2.1 ?_)
        intro A8 c8 w8 HO8 hb8
        have HB68 := Lib.hid (HB67.out.trans hb8)
        have HB8 := Lib.hid (HB7.out.trans (hb8.mono hM6))
        have HR8 := Lib.hid (HR6.out.below HB68.out)
        have HY8 : Hid (ByAt w8 A8 N3 c8 (x ++ z)) := by
          have q := HO8.out
          try rw [← List.map_append] at q
          exact SlAt.own q
        clear hb8
        go_wp2_with fail
        refine (HAL.out _).mono ?_
        rintro e w9 ⟨rfl, hb9⟩
        have HE : Hid (Below M w w9) := HB8.out.trans (hb9.mono (by have := HB8.out.size; have := HM.out; omega))
        clear hb9
        go_wp2
        go_ret
        exact ⟨rfl, HE.out⟩
      · by_cases ho2 : (N3 : Int) < o
        · have hneg : decide (o < 0) = false := decide_eq_false (by omega)
          have hbig : (N3 : Int) < o := ho2
          obtain ⟨wy, hwy⟩ : ∃ wy, w6.alloc (.cells #[] 5) = wy := ⟨_, rfl⟩
          have hby : Below w6.heap.size w6 wy := by rw [← hwy]; exact (Below.refl _ _).alloc (Nat.le_refl _) _
          have HEY : Hid (EmpAt wy w6.heap.size w6.heap.size) := by unfold Hid; rw [← hwy]; exact EmpAt.new w6 _ (Nat.le_refl _)
          have hM6 : M ≤ w6.heap.size := by have := HB6.out.size; have := HM.out; omega
          have HBY := Lib.hid (HB6.out.trans (hby.mono hM6))
          have HBY6 := Lib.hid hby
          have HWY := Lib.hid hwy
          clear hwy hby
          go_wp2_with (first | rw [HWY.out] | (at_builtin; refine wpList_append_emp rfl _ _ rfl w6.heap.size w6.heap.size HEY.out rfl A1 m1 c1 x rfl (HY1.out _ HBY.out) HSM.out.2.2 ?_))
          intro A7 c7 w7 HO7 hb7
          have HB67 := Lib.hid (HBY6.out.trans hb7)
          have HB7 := Lib.hid (HBY.out.trans (hb7.mono hM6))
          have hz7 := HB67.out.size
          clear hb7
          go_wp2_with (at_builtin; refine wpList_append_by rfl _ _ rfl w6.heap.size A7 m1 c7 x rfl HO7.out hz7 A3 m3 c3 z rfl (HY3.out _ HB7.out) N3 HNN3.out HSM.out.2.1 ?_)
          intro A8 c8 w8 HO8 hb8
          have HB68 := Lib.hid (HB67.out.trans hb8)
          have HB8 := Lib.hid (HB7.out.trans (hb8.mono hM6))
          have HR8 := Lib.hid (HR6.out.below HB68.out)
          have HY8 : Hid (ByAt w8 A8 N3 c8 (x ++ z)) := by
            have q := HO8.out
            try rw [← List.map_append] at q
            exact SlAt.own q
          clear hb8
          go_wp2_with fail
          refine (HAL.out _).mono ?_
          rintro e w9 ⟨rfl, hb9⟩
          have HE : Hid (Below M w w9) := HB8.out.trans (hb9.mono (by have := HB8.out.size; have := HM.out; omega))
          clear hb9
          go_wp2
          go_ret
          exact ⟨rfl, HE.out⟩
        · obtain ⟨T, rfl⟩ : ∃ T : Nat, o = (T : Int) := ⟨o.toNat, by omega⟩
          have hTk : (T : Int) ≤ 1000 := by have := HNN.out; have := HNN3.out; omega
          cases hacc : accB s ⟨4, N, 3, m1⟩ (x ++ y) 3 (T : Int) with
          | false =>
            have hneg : decide ((T : Int) < 0) = false := decide_eq_false (by omega)
            have hbig : decide ((N3 : Int) < (T : Int)) = false := decide_eq_false (by omega)
            have hbigN : decide (N3 < T) = false := decide_eq_false (by omega)
            obtain ⟨wy, hwy⟩ : ∃ wy, w6.alloc (.cells #[] 5) = wy := ⟨_, rfl⟩
            have hby : Below w6.heap.size w6 wy := by rw [← hwy]; exact (Below.refl _ _).alloc (Nat.le_refl _) _
            have HEY : Hid (EmpAt wy w6.heap.size w6.heap.size) := by unfold Hid; rw [← hwy]; exact EmpAt.new w6 _ (Nat.le_refl _)
            have hM6 : M ≤ w6.heap.size := by have := HB6.out.size; have := HM.out; omega
            have HBY := Lib.hid (HB6.out.trans (hby.mono hM6))
            have HBY6 := Lib.hid hby
            have HWY := Lib.hid hwy
            clear hwy hby
            go_wp2_with (first | rw [HWY.out] | (at_builtin; refine wpList_append_emp rfl _ _ rfl w6.heap.size w6.heap.size HEY.out rfl A1 m1 c1 x rfl (HY1.out _ HBY.out) HSM.out.2.2 ?_))
            intro A7 c7 w7 HO7 hb7
            have HB67 := Lib.hid (HBY6.out.trans hb7)
            have HB7 := Lib.hid (HBY.out.trans (hb7.mono hM6))
            have hz7 := HB67.out.size
            clear hb7
            go_wp2_with (at_builtin; refine wpList_append_by rfl _ _ rfl w6.heap.size A7 m1 c7 x rfl HO7.out hz7 A3 m3 c3 z rfl (HY3.out _ HB7.out) N3 HNN3.out HSM.out.2.1 ?_)
            intro A8 c8 w8 HO8 hb8
            have HB68 := Lib.hid (HB67.out.trans hb8)
            have HB8 := Lib.hid (HB7.out.trans (hb8.mono hM6))
            have HR8 := Lib.hid (HR6.out.below HB68.out)
            have HY8 : Hid (ByAt w8 A8 N3 c8 (x ++ z)) := by
              have q := HO8.out
              try rw [← List.map_append] at q
              exact SlAt.own q
            clear hb8
            have hac := accepts_any w8 HR8.out 3 (T : Int)
            rw [hacc] at hac
            have HAC := Lib.hid hac
            clear hac
            go_wp2_with fail
            refine HAC.out.mono ?_
            rintro e w9 ⟨rfl, hb9⟩
            have HB9 : Hid (Below M w w9) := HB8.out.trans (hb9.mono (by have := HB8.out.size; have := HM.out; omega))
            clear hb9
            go_wp2_with fail
            refine (HAL.out _).mono ?_
            rintro e w10 ⟨rfl, hb10⟩
            have HE : Hid (Below M w w10) := HB9.out.trans (hb10.mono (by have := HB9.out.size; have := HM.out; omega))
            clear hb10
            go_wp2
            go_ret
            exact ⟨rfl, HE.out⟩
          | true =>
            have hneg : decide ((T : Int) < 0) = false := decide_eq_false (by omega)
            have hbig : decide ((N3 : Int) < (T : Int)) = false := decide_eq_false (by omega)
            have hbigN : decide (N3 < T) = false := decide_eq_false (by omega)
            obtain ⟨wy, hwy⟩ : ∃ wy, w6.alloc (.cells #[] 5) = wy := ⟨_, rfl⟩
            have hby : Below w6.heap.size w6 wy := by rw [← hwy]; exact (Below.refl _ _).alloc (Nat.le_refl _) _
            have HEY : Hid (EmpAt wy w6.heap.size w6.heap.size) := by unfold Hid; rw [← hwy]; exact EmpAt.new w6 _ (Nat.le_refl _)
            have hM6 : M ≤ w6.heap.size := by have := HB6.out.size; have := HM.out; omega
            have HBY := Lib.hid (HB6.out.trans (hby.mono hM6))
            have HBY6 := Lib.hid hby
            have HWY := Lib.hid hwy
            clear hwy hby
            go_wp2_with (first | rw [HWY.out] | (at_builtin; refine wpList_append_emp rfl _ _ rfl w6.heap.size w6.heap.size HEY.out rfl A1 m1 c1 x rfl (HY1.out _ HBY.out) HSM.out.2.2 ?_))
            intro A7 c7 w7 HO7 hb7
            have HB67 := Lib.hid (HBY6.out.trans hb7)
            have HB7 := Lib.hid (HBY.out.trans (hb7.mono hM6))
            have hz7 := HB67.out.size
            clear hb7
            go_wp2_with (at_builtin; refine wpList_append_by rfl _ _ rfl w6.heap.size A7 m1 c7 x rfl HO7.out hz7 A3 m3 c3 z rfl (HY3.out _ HB7.out) N3 HNN3.out HSM.out.2.1 ?_)
            intro A8 c8 w8 HO8 hb8
            have HB68 := Lib.hid (HB67.out.trans hb8)
            have HB8 := Lib.hid (HB7.out.trans (hb8.mono hM6))
            have HR8 := Lib.hid (HR6.out.below HB68.out)
            have HY8 : Hid (ByAt w8 A8 N3 c8 (x ++ z)) := by
              have q := HO8.out
              try rw [← List.map_append] at q
              exact SlAt.own q
            clear hb8
            have hac := accepts_any w8 HR8.out 3 (T : Int)
            rw [hacc] at hac
            have HAC := Lib.hid hac
            clear hac
            go_wp2_with fail
            refine HAC.out.mono ?_
            rintro e w9 ⟨rfl, hb9⟩
            have HB9 : Hid (Below M w w9) := HB8.out.trans (hb9.mono (by have := HB8.out.size; have := HM.out; omega))
            have HB69 : Hid (Below w6.heap.size w6 w9) := HB68.out.trans (hb9.mono (HB68.out).size)
            have HYM : Hid (ByAt w9 A8 N3 c8 (x ++ z)) := HY8.out.below hb9
            clear hb9
            go_wp2_with fail
            refine (HFR.out T _ HB69.out hTk (by first | exact Or.inl hacc | exact Or.inr hacc)).mono ?_
            rintro e w10 ⟨A10, n10, c10, rfl, hy10, hb10, -⟩
            have HB10 : Hid (Below M w w10) := HB9.out.trans (hb10.mono (by have := HB9.out.size; have := HM.out; omega))
            have hTT : (x ++ z).take T = (x ++ y).take T := by have := HT3.out T hacc; rw [List.take_append_of_le_length (by rw [HL1.out]; exact this), List.take_append_of_le_length (by rw [HL1.out]; exact this)]
            obtain ⟨Q1, hQ1⟩ : ∃ P : ByteArray, ⟨((x ++ z).take T).toArray⟩ = P := ⟨_, rfl⟩
            obtain ⟨Q2, hQ2⟩ : ∃ P : ByteArray, ⟨((x ++ y).drop T).toArray⟩ = P := ⟨_, rfl⟩
            have hA34 : ∀ X, (Op.stringOp .add Q1 Q2).run Try.prog X = .ok (.string R) X := fun X => by
              rw [← hQ1, ← hQ2]
              exact HADD.out _ T hTT (by have := HT3.out T hacc; have := HNN.out; omega) X
            have hA12 := HA12.out
            have HCV : Hid (∀ X, Below w10.heap.size w10 X → (convert 33 9 (.slice A8 T c8)).run Try.prog X = .ok (.string Q1) X ∧ (convert 33 9 (.slice A10 n10 c10)).run Try.prog X = .ok (.string Q2) X ∧ (convert 33 9 (.slice A1 m1 c1)).run Try.prog X = .ok (.string P1) X ∧ (convert 33 9 (.slice A2 m2 c2)).run Try.prog X = .ok (.string P2) X) := fun X hX => by
              rw [← hQ1, ← hQ2]
              have hXM : Below M w X := HB10.out.trans (hX.mono (by have := HB10.out.size; have := HM.out; omega))
              exact ⟨conv_by (((HYM.out.below hb10).below hX).first (m := T) (by omega)), conv_by (hy10.below hX), HCC.out X hXM⟩
            have HALB : Hid (∀ X, Below w10.heap.size w10 X → Calls Try.prog 11 #[] X fun e w' => e = .returned (.bool true) ∧ Below w10.heap.size w10 w') := fun X hX => by
              refine (HAL.out X).mono ?_
              rintro e w' ⟨rfl, h⟩
              exact ⟨rfl, below_then hX h⟩
            have hT0 : (0 : Int) ≤ (T : Int) := by omega
            have hTc : (T : Int) ≤ (c8 : Int) := by have := HYM.out.le; omega
            clear hy10 hb10 hQ1 hQ2 hTT
            go_wp2_with fail
            go_region_held3 (fun X => (convert 33 9 (.slice A8 T c8)).run Try.prog X = .ok (.string Q1) X ∧ (convert 33 9 (.slice A10 n10 c10)).run Try.prog X = .ok (.string Q2) X ∧ (convert 33 9 (.slice A1 m1 c1)).run Try.prog X = .ok (.string P1) X ∧ (convert 33 9 (.slice A2 m2 c2)).run Try.prog X = .ok (.string P2) X) (first | exact HCV.out _ (Below.refl _ _) | exact HCV.out _ (Below.refl _ _).drew | exact HCV.out _ (below_drewN _ _ _) | exact HCV.out _ HB11.out) ((go_at_call 11; refine Calls.mono (HALB.out _ (by first | exact (Below.refl _ _).drew | exact below_drewN _ _ _ | exact Below.refl _ _)) ?_; rintro en w11 ⟨rfl, hb11⟩; have HB11 := Lib.hid hb11; clear hb11))
            go_wp2
            go_ret
            exact ⟨rfl, HB10.out.trans (HB11.out.mono (by have := HB10.out.size; have := HM.out; omega))⟩

end Go.Proofs.Ytbecjaamheibmaa
