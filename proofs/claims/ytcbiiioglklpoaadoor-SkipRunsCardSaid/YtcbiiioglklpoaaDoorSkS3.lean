/-
  The document's own Same, Find, Ahead, Range over members in order. Conditions: the rows lie in memory. The document's own Range, Without, Put over members in order. Conditions: the rows lie in memory.
-/
import Derived.Test.YtcbiiioglklpoaaDoorSkS2
import Derived.Test.YtcbiiioglklpoaaDoorSkS1
import Derived.Sort.Walk0
import Derived.Deep.RegionHeld3
import Derived.Deep.RegionLaw
namespace Go.Proofs.YtcbiiioglklpoaaDoor
open Go.RowKit

theorem str_of_list {T : ByteArray} {l : List UInt8} (h : l = T.data.toList) : (⟨l.toArray⟩ : ByteArray) = T := by
  subst h
  apply ByteArray.ext
  simp

set_option maxRecDepth 100000 in
set_option maxHeartbeats 8000000 in
theorem rfind_any {A : Option Addr} {n cp : Nat} {l : List Mb} (w : World) (hl : ScAt w A n cp l) (m : ByteArray) :
    Calls Tryd.prog 24 #[.slice A n cp, .string m] w fun e w' => e = .returned (.int .i64 (match fndM l m.data.toList with | some j => (j : Nat) | none => -1)) ∧ w' = w := by
  have hn : l.length = n := hl.len
  have hmax : n ≤ 9223372036854775807 := Nat.le_trans hl.le hl.max
  obtain ⟨F, hF⟩ : ∃ F : Int, (match fndM l m.data.toList with | some j => ((j : Nat) : Int) | none => -1) = F := ⟨_, rfl⟩
  have HL := Lib.hid hl
  have HN := Lib.hid hn
  have HFH : Hid ((∀ (i : Nat) (x : Mb), l[i]? = some x → x.1 = m.data.toList → (∀ (j : Nat) (y : Mb), j < i → l[j]? = some y → y.1 ≠ m.data.toList) → F = (i : Int)) ∧ ((∀ (j : Nat) (y : Mb), l[j]? = some y → y.1 ≠ m.data.toList) → F = -1)) := by
    refine ⟨fun i x hx he hno => ?_, fun hno => ?_⟩
    · cases hf : fndM l m.data.toList with
      | none => exact absurd (List.mem_map.2 ⟨x, List.mem_of_getElem? hx, he⟩) (fndM_none.1 hf)
      | some j =>
        rw [hf] at hF
        obtain ⟨q, hj, _⟩ := fndM_some hf
        rcases Nat.lt_trichotomy i j with h1 | h1 | h1
        · exact absurd he (fndM_first hf h1 hx)
        · rw [← hF, h1]
        · exact absurd rfl (hno j _ h1 hj)
    · have hf : fndM l m.data.toList = none := fndM_none.2 (fun hm => by
        obtain ⟨x, hx, e⟩ := List.mem_map.1 hm
        obtain ⟨j, hj⟩ := List.mem_iff_getElem?.1 hx
        exact hno j x hj e)
      rw [hf] at hF
      exact hF.symm
  rw [hF]
  clear hl hn hF
  go_enter Tryd.func24, Tryd.ntmps24
  go_wp2
  go_loopw [5] (fun iv wr => ∃ i : Nat, iv = .int .i64 i ∧ i ≤ n ∧ wr = w ∧ ∀ j y, j < i → l[j]? = some y → y.1 ≠ m.data.toList) (fun iv _ => n - (intOf iv).toNat)
  case atStart => exact ⟨0, rfl, Nat.zero_le _, rfl, fun j y h => absurd h (Nat.not_lt_zero _)⟩
  case round =>
    obtain ⟨i, rfl, hi, rfl, hno⟩ := hrel
    have HNO := Lib.hid hno
    clear hno
    by_cases hlt : i < n
    · obtain ⟨x, hx⟩ : ∃ x, l[i]? = some x := ⟨_, List.getElem?_eq_getElem (by rw [HN.out]; exact hlt)⟩
      have hlt' : (i : Int) < n := by omega
      obtain ⟨b, o, rfl, hbl, hc⟩ := HL.out.at_ (by omega)
      obtain ⟨c0, _⟩ := hc i x hx
      have HX := Lib.hid hx
      clear hc hx
      by_cases he : x.1 = m.data.toList
      · rw [str_of_list he] at c0
        have HE := Lib.hid he
        clear he
        go_wp2
        go_ret
        exact ⟨by rw [HFH.out.1 i x HX.out HE.out HNO.out]; rfl, rfl⟩
      · have hne : ¬ (⟨x.1.toArray⟩ : ByteArray) = m := fun e => he (by rw [← e])
        have HE := Lib.hid he
        obtain ⟨TT, hTT⟩ : ∃ T : ByteArray, (⟨x.1.toArray⟩ : ByteArray) = T := ⟨_, rfl⟩
        rw [hTT] at c0 hne
        have hneb : (TT.toList == m.toList) = false := by rw [beq_eq_false_iff_ne, ByteArray.toList_eq, ByteArray.toList_eq]; exact fun e => hne (by apply ByteArray.ext; exact Array.toList_inj.1 e)
        clear he hTT hne
        go_wp2
        go_roundw
        case rel =>
          refine ⟨i + 1, by go_num, hlt, trivial, fun j y hj hy => ?_⟩
          rcases (by omega : j < i ∨ j = i) with q | q
          · exact HNO.out j y q hy
          · subst q
            rw [HX.out] at hy
            injection hy with hy
            rw [← hy]
            exact HE.out
        case measure => simp only [intOf]; omega
    · have hge : ¬ (i : Int) < n := by omega
      go_wp2
      go_ret
      exact ⟨by rw [HFH.out.2 (fun j y hy => HNO.out j y (by have := (List.getElem?_eq_some_iff.1 hy).1; have := HN.out; omega) hy)]; rfl, rfl⟩

set_option maxRecDepth 100000 in
set_option maxHeartbeats 8000000 in
theorem rsame_yes {A B : Option Addr} {n cp cq : Nat} {l : List Mb} (w : World) (ha : ScAt w A n cp l) (hb : ScAt w B n cq l) :
    Calls Tryd.prog 22 #[.slice A n cp, .slice B n cq] w fun e w' => e = .returned (.bool true) ∧ Below w.heap.size w w' := by
  have hn : l.length = n := ha.len
  have hmax : n ≤ 9223372036854775807 := Nat.le_trans ha.le ha.max
  have HA := Lib.hid ha
  have HB := Lib.hid hb
  have HN := Lib.hid hn
  obtain ⟨M, hM⟩ : ∃ M, w.heap.size = M := ⟨_, rfl⟩
  have HMh := Lib.hid hM
  rw [hM]
  clear ha hb hn hM
  go_enter Tryd.func22, Tryd.ntmps22
  go_wp2
  go_loopw [5] (fun iv wr => ∃ i : Nat, iv = .int .i64 i ∧ i ≤ n ∧ Below M w wr) (fun iv _ => n - (intOf iv).toNat)
  case atStart => exact ⟨0, rfl, Nat.zero_le _, Below.refl _ _⟩
  case round =>
    obtain ⟨i, rfl, hi, hbw⟩ := hrel
    have HBW := Lib.hid hbw
    by_cases hlt : i < n
    · obtain ⟨x, hx⟩ : ∃ x, l[i]? = some x := ⟨_, List.getElem?_eq_getElem (by rw [HN.out]; exact hlt)⟩
      have hlt' : (i : Int) < n := by omega
      have hbw' : Below w.heap.size w wr := by rw [HMh.out]; exact hbw
      obtain ⟨b, o, rfl, hbl, hc⟩ := (HA.out.below hbw').at_ (by omega)
      obtain ⟨b2, o2, rfl, hbl2, hc2⟩ := (HB.out.below hbw').at_ (by omega)
      obtain ⟨c0, c1⟩ := hc i x hx
      obtain ⟨d0, d1⟩ := hc2 i x hx
      obtain ⟨TT, hTT⟩ : ∃ T : ByteArray, (⟨x.1.toArray⟩ : ByteArray) = T := ⟨_, rfl⟩
      obtain ⟨Z, hZ⟩ : ∃ Z, x.2 = Z := ⟨_, rfl⟩
      rw [hTT] at c0 d0
      rw [hZ] at c1 d1
      have heq : ∀ X : World, (binOp .neq 47 (.agg #[.string TT, .int .i64 Z]) (.agg #[.string TT, .int .i64 Z])).run Tryd.prog X = .ok (.bool false) X := by intro X; go_simp
      clear hc hc2 hx hTT hZ hbw hbw'
      go_wp2_with fail
      go_quiet (fail)
      all_goals
        go_wp2
        go_roundw
        case rel => exact ⟨i + 1, by go_num, hlt, HBW.out.trans (below_drewN _ _ _)⟩
        case measure => simp only [intOf]; omega
    · have hge : ¬ (i : Int) < n := by omega
      go_wp2
      go_ret
      exact ⟨rfl, HBW.out⟩

set_option maxRecDepth 100000 in
set_option maxHeartbeats 8000000 in
theorem rah_yes (a b : Mb) (hab : ahd a b = true) (w : World) : Calls Tryd.prog 35 #[mbV a, mbV b] w fun e w' => e = .returned (.bool true) ∧ Below w.heap.size w w' := by
  rw [ahd_iff] at hab
  unfold mbV
  have hb2 : Below w.heap.size w ((w.alloc (.cells #[.string ⟨a.1.toArray⟩, .int .i64 a.2] 47)).alloc (.cells #[.string ⟨b.1.toArray⟩, .int .i64 b.2] 47)) := ((Below.refl _ _).alloc (Nat.le_refl _) _).alloc (by simp) _
  have HB := Lib.hid hb2
  clear hb2
  by_cases hlt : a.2 < b.2
  · clear hab
    go_enter Tryd.func35, Tryd.ntmps35
    go_wp2
    go_ret
    exact ⟨rfl, HB.out⟩
  · obtain ⟨he, hs⟩ : a.2 = b.2 ∧ a.1 < b.1 := by rcases hab with q | q; exact absurd q hlt; exact q
    have HS : Hid (Op.bytesLess a.1 b.1 = true) := by unfold Hid; rw [bytesLess_eq]; exact decide_eq_true hs
    clear hab hs
    go_enter Tryd.func35, Tryd.ntmps35
    go_wp2
    go_ret
    rw [he] at HB
    exact ⟨by rw [HS.out]; rfl, HB.out⟩

set_option maxRecDepth 100000 in
set_option maxHeartbeats 8000000 in
theorem rahead_any (a b : Mb) (w : World) : Calls Tryd.prog 35 #[mbV a, mbV b] w fun e w' => e = .returned (.bool (ahd a b)) ∧ Below w.heap.size w w' := by
  cases hab : ahd a b with
  | true => exact rah_yes a b hab w
  | false =>
    have hab : ¬ (a.2 < b.2 ∨ a.2 = b.2 ∧ a.1 < b.1) := fun e => by rw [ahd_iff.2 e] at hab; cases hab
    unfold mbV
    have hb2 : Below w.heap.size w ((w.alloc (.cells #[.string ⟨a.1.toArray⟩, .int .i64 a.2] 47)).alloc (.cells #[.string ⟨b.1.toArray⟩, .int .i64 b.2] 47)) := ((Below.refl _ _).alloc (Nat.le_refl _) _).alloc (by simp) _
    have HB := Lib.hid hb2
    have hlt : ¬ a.2 < b.2 := fun e => hab (Or.inl e)
    clear hb2
    by_cases he : a.2 = b.2
    · have HS : Hid (Op.bytesLess a.1 b.1 = false) := by unfold Hid; rw [bytesLess_eq]; exact decide_eq_false (fun e => hab (Or.inr ⟨he, e⟩))
      clear hab
      go_enter Tryd.func35, Tryd.ntmps35
      go_wp2
      go_ret
      rw [he] at HB
      exact ⟨by rw [HS.out]; rfl, HB.out⟩
    · clear hab
      go_enter Tryd.func35, Tryd.ntmps35
      go_wp2
      go_ret
      exact ⟨rfl, HB.out⟩

set_option maxRecDepth 100000 in
set_option maxHeartbeats 8000000 in
theorem rrange_any {A : Option Addr} {n cp : Nat} {l : List Mb} (w : World) (hl : ScAt w A n cp l) (ho : InOrd l) (lo hi : Bd) :
    Calls Tryd.prog 31 #[.slice A n cp, bdV lo, bdV hi] w fun e w' => e = .returned (.tuple #[.int .i64 (if fromM lo l = toM lo hi l then 0 else (fromM lo l : Nat) : Int), .int .i64 ((toM lo hi l - fromM lo l : Nat) : Int)]) ∧ Below w.heap.size w w' := by
  obtain ⟨M, hM⟩ : ∃ M, w.heap.size = M := ⟨_, rfl⟩
  obtain ⟨wa, hwa⟩ : ∃ wa, (w.alloc (.cells #[.int .i64 lo.n, .bool lo.open_, .int .i64 lo.inf] 23)).alloc (.cells #[.int .i64 hi.n, .bool hi.open_, .int .i64 hi.inf] 23) = wa := ⟨_, rfl⟩
  obtain ⟨l1, l2, ba, sa⟩ := two_bounds w lo hi hM hwa
  have hn : l.length = n := hl.len
  have hmax : n ≤ 9223372036854775807 := Nat.le_trans hl.le hl.max
  have HL := Lib.hid (hl.below (w' := wa) (by rw [hM]; exact ba))
  have HN := Lib.hid hn
  have HK : Hid (∀ X, Below wa.heap.size wa X → Below wa.heap.size wa X ∧ X.cell? ⟨M, 0, none⟩ = some (.int .i64 lo.n) ∧ X.cell? ⟨M, 1, none⟩ = some (.bool lo.open_) ∧ X.cell? ⟨M, 2, none⟩ = some (.int .i64 lo.inf) ∧ X.cell? ⟨M + 1, 0, none⟩ = some (.int .i64 hi.n) ∧ X.cell? ⟨M + 1, 1, none⟩ = some (.bool hi.open_) ∧ X.cell? ⟨M + 1, 2, none⟩ = some (.int .i64 hi.inf)) := fun X hX => by
    obtain ⟨a1, a2, a3⟩ := l1.below (by omega) hX
    obtain ⟨a4, a5, a6⟩ := l2.below (by omega) hX
    exact ⟨hX, a1, a2, a3, a4, a5, a6⟩
  have HBM : Hid (∀ X, Below wa.heap.size wa X → Below M w X) := fun X hX => ba.trans (hX.mono (by omega))
  have HWA := Lib.hid hwa
  have HIN : Hid (∀ i x, l[i]? = some x → inB x.2 lo hi = decide (fromM lo l ≤ i ∧ i < toM lo hi l)) := fun i x hx => by
    have q := inB_iff ho lo hi hx
    cases hb : inB x.2 lo hi with
    | true => exact (decide_eq_true (q.1 hb)).symm
    | false => exact (decide_eq_false (fun e => by rw [q.2 e] at hb; cases hb)).symm
  have hFT := fromM_le lo hi l
  have hTn := toM_le lo hi l
  obtain ⟨F, hF⟩ : ∃ F, fromM lo l = F := ⟨_, rfl⟩
  obtain ⟨T, hT⟩ : ∃ T, toM lo hi l = T := ⟨_, rfl⟩
  rw [hF, hT] at HIN hFT ⊢
  rw [hT, hn] at hTn
  rw [hM]
  obtain ⟨R1, hR1⟩ : ∃ R1 : Int, (if F = T then 0 else (F : Nat) : Int) = R1 := ⟨_, rfl⟩
  obtain ⟨R2, hR2⟩ : ∃ R2, T - F = R2 := ⟨_, rfl⟩
  rw [hR1, hR2]
  have HR1 := Lib.hid hR1
  have HR2 := Lib.hid hR2
  have HFT := Lib.hid hFT
  have HTN := Lib.hid hTn
  unfold bdV
  clear hwa l1 l2 ba sa hl hn ho hF hT hR1 hR2 hFT hTn
  go_enter Tryd.func31, Tryd.ntmps31
  go_wp2_with fail
  rw [HWA.out]
  go_loopw [8, 9, 10] (fun fv nv iv wr => ∃ (i a : Nat) (f : Int), iv = .int .i64 i ∧ i ≤ n ∧ nv = .int .i64 a ∧ fv = .int .i64 f ∧ a = min i T - F ∧ (f = if F < min i T then (F : Int) else 0) ∧ Below wa.heap.size wa wr) (fun _ _ iv _ => n - (intOf iv).toNat)
  case atStart => exact ⟨0, 0, 0, rfl, Nat.zero_le _, rfl, rfl, by omega, by rw [if_neg (by omega)], Below.refl _ _⟩
  case round =>
    obtain ⟨i, a, f, rfl, hi', rfl, rfl, ha, hf, hb⟩ := hrel
    have HBW := Lib.hid hb
    have HAA := Lib.hid ha
    have HFF := Lib.hid hf
    by_cases hlt : i < n
    · obtain ⟨x, hx⟩ : ∃ x, l[i]? = some x := ⟨_, List.getElem?_eq_getElem (by rw [HN.out]; exact hlt)⟩
      have hlt' : (i : Int) < n := by omega
      obtain ⟨b, o, rfl, hbl, hc⟩ := (HL.out.below hb).at_ (by omega)
      obtain ⟨_, c1⟩ := hc i x hx
      have hin := HIN.out i x hx
      obtain ⟨Z, hZ⟩ : ∃ Z, x.2 = Z := ⟨_, rfl⟩
      rw [hZ] at c1 hin
      have HR := Lib.hid (fun X => rin_any Z lo hi X)
      rw [hin] at HR
      unfold bdV at HR
      have HK2 : Hid (∀ X, Below wr.heap.size wr X → Below wr.heap.size wr X ∧ X.cell? ⟨M, 0, none⟩ = some (.int .i64 lo.n) ∧ X.cell? ⟨M, 1, none⟩ = some (.bool lo.open_) ∧ X.cell? ⟨M, 2, none⟩ = some (.int .i64 lo.inf) ∧ X.cell? ⟨M + 1, 0, none⟩ = some (.int .i64 hi.n) ∧ X.cell? ⟨M + 1, 1, none⟩ = some (.bool hi.open_) ∧ X.cell? ⟨M + 1, 2, none⟩ = some (.int .i64 hi.inf) ∧ X.cell? ⟨b, o + i * 2 + 1, none⟩ = some (.int .i64 Z)) := fun X hX => by
        obtain ⟨_, a1, a2, a3, a4, a5, a6⟩ := HK.out X (bup HBW.out hX)
        exact ⟨hX, a1, a2, a3, a4, a5, a6, (hX.cell (p := ⟨b, o + i * 2 + 1, none⟩) hbl).trans c1⟩
      have H0 : Hid (Below wr.heap.size wr wr) := Below.refl _ _
      clear hc hx hZ hin hb ha hf
      rcases (by omega : i < F ∨ (F ≤ i ∧ i < T ∧ i = F) ∨ (F ≤ i ∧ i < T ∧ F < i) ∨ T ≤ i ∧ F ≤ i) with h1 | ⟨h1, h2, h3⟩ | ⟨h1, h2, h3⟩ | ⟨h1, h2⟩
      · have hd : decide (F ≤ i ∧ i < T) = false := decide_eq_false (by omega)
        rw [hd] at HR
        have HE : Hid (a = min (i + 1) T - F ∧ (f = if F < min (i + 1) T then (F : Int) else 0)) := by
          have := HAA.out; have q := HFF.out
          rw [if_neg (by omega)] at q
          exact ⟨by omega, by rw [if_neg (by omega)]; exact q⟩
        clear h1 hd HAA HFF
        go_wp2_with fail
        go_region_held3 (fun X => Below wr.heap.size wr X ∧ X.cell? ⟨M, 0, none⟩ = some (.int .i64 lo.n) ∧ X.cell? ⟨M, 1, none⟩ = some (.bool lo.open_) ∧ X.cell? ⟨M, 2, none⟩ = some (.int .i64 lo.inf) ∧ X.cell? ⟨M + 1, 0, none⟩ = some (.int .i64 hi.n) ∧ X.cell? ⟨M + 1, 1, none⟩ = some (.bool hi.open_) ∧ X.cell? ⟨M + 1, 2, none⟩ = some (.int .i64 hi.inf) ∧ X.cell? ⟨b, o + i * 2 + 1, none⟩ = some (.int .i64 Z))
          (first | exact HK2.out _ HC1.out | exact HK2.out _ H0.out.drew | exact HK2.out _ H0.out)
          (first | (go_at_call 12; refine Calls.mono (HR.out _) ?_; rintro en x1 ⟨rfl, hq⟩; have HC1 : Hid (Below wr.heap.size wr x1) := (by first | exact hq | exact (Below.refl _ _).drew.trans hq); clear hq))
        all_goals
          go_wp2
          go_roundw
          case rel => exact ⟨i + 1, a, f, by go_num, hlt, rfl, rfl, HE.out.1, HE.out.2, bup HBW.out HC1.out⟩
          case measure => simp only [intOf]; omega
      · have hd : decide (F ≤ i ∧ i < T) = true := decide_eq_true (by omega)
        rw [hd] at HR
        have HE : Hid (a = 0 ∧ 1 = min (i + 1) T - F ∧ (i : Int) = if F < min (i + 1) T then (F : Int) else 0) := by
          have q1 := HAA.out; have q2 := HFF.out
          exact ⟨by omega, by omega, by rw [if_pos (by omega)]; omega⟩
        obtain rfl := HE.out.1
        have hz : ((0 : Nat) : Int) = 0 := rfl
        clear hd HAA HFF h1 h2 h3
        go_wp2_with fail
        go_region_held3 (fun X => Below wr.heap.size wr X ∧ X.cell? ⟨M, 0, none⟩ = some (.int .i64 lo.n) ∧ X.cell? ⟨M, 1, none⟩ = some (.bool lo.open_) ∧ X.cell? ⟨M, 2, none⟩ = some (.int .i64 lo.inf) ∧ X.cell? ⟨M + 1, 0, none⟩ = some (.int .i64 hi.n) ∧ X.cell? ⟨M + 1, 1, none⟩ = some (.bool hi.open_) ∧ X.cell? ⟨M + 1, 2, none⟩ = some (.int .i64 hi.inf) ∧ X.cell? ⟨b, o + i * 2 + 1, none⟩ = some (.int .i64 Z))
          (first | exact HK2.out _ HC1.out | exact HK2.out _ H0.out.drew | exact HK2.out _ H0.out)
          (first | (go_at_call 12; refine Calls.mono (HR.out _) ?_; rintro en x1 ⟨rfl, hq⟩; have HC1 : Hid (Below wr.heap.size wr x1) := (by first | exact hq | exact (Below.refl _ _).drew.trans hq); clear hq))
        all_goals
          go_wp2
          go_roundw
          case rel => exact ⟨i + 1, 1, (i : Int), by go_num, hlt, rfl, rfl, HE.out.2.1, HE.out.2.2, bup HBW.out HC1.out⟩
          case measure => simp only [intOf]; omega
      · have hd : decide (F ≤ i ∧ i < T) = true := decide_eq_true (by omega)
        rw [hd] at HR
        have HE : Hid (0 < a ∧ a + 1 = min (i + 1) T - F ∧ f = if F < min (i + 1) T then (F : Int) else 0) := by
          have q1 := HAA.out; have q2 := HFF.out
          rw [if_pos (by omega)] at q2
          exact ⟨by omega, by omega, by rw [if_pos (by omega)]; exact q2⟩
        have ha0 := HE.out.1
        have hz : ¬ (a : Int) = 0 := by omega
        have hle : a + 1 ≤ n := by have q1 := HE.out.2.1; omega
        clear hd HAA HFF h1 h2 h3
        go_wp2_with fail
        go_region_held3 (fun X => Below wr.heap.size wr X ∧ X.cell? ⟨M, 0, none⟩ = some (.int .i64 lo.n) ∧ X.cell? ⟨M, 1, none⟩ = some (.bool lo.open_) ∧ X.cell? ⟨M, 2, none⟩ = some (.int .i64 lo.inf) ∧ X.cell? ⟨M + 1, 0, none⟩ = some (.int .i64 hi.n) ∧ X.cell? ⟨M + 1, 1, none⟩ = some (.bool hi.open_) ∧ X.cell? ⟨M + 1, 2, none⟩ = some (.int .i64 hi.inf) ∧ X.cell? ⟨b, o + i * 2 + 1, none⟩ = some (.int .i64 Z))
          (first | exact HK2.out _ HC1.out | exact HK2.out _ H0.out.drew | exact HK2.out _ H0.out)
          (first | (go_at_call 12; refine Calls.mono (HR.out _) ?_; rintro en x1 ⟨rfl, hq⟩; have HC1 : Hid (Below wr.heap.size wr x1) := (by first | exact hq | exact (Below.refl _ _).drew.trans hq); clear hq))
        all_goals
          go_wp2
          go_roundw
          case rel => exact ⟨i + 1, a + 1, f, by go_num, hlt, by go_num, rfl, HE.out.2.1, HE.out.2.2, bup HBW.out HC1.out⟩
          case measure => simp only [intOf]; omega
      · have hd : decide (F ≤ i ∧ i < T) = false := decide_eq_false (by omega)
        rw [hd] at HR
        have HE : Hid (a = min (i + 1) T - F ∧ (f = if F < min (i + 1) T then (F : Int) else 0)) := by
          have q1 := HAA.out; have q2 := HFF.out
          refine ⟨by omega, ?_⟩
          rw [q2]
          by_cases e : F < T
          · rw [if_pos (by omega), if_pos (by omega)]
          · rw [if_neg (by omega), if_neg (by omega)]
        clear hd HAA HFF h1 h2
        go_wp2_with fail
        go_region_held3 (fun X => Below wr.heap.size wr X ∧ X.cell? ⟨M, 0, none⟩ = some (.int .i64 lo.n) ∧ X.cell? ⟨M, 1, none⟩ = some (.bool lo.open_) ∧ X.cell? ⟨M, 2, none⟩ = some (.int .i64 lo.inf) ∧ X.cell? ⟨M + 1, 0, none⟩ = some (.int .i64 hi.n) ∧ X.cell? ⟨M + 1, 1, none⟩ = some (.bool hi.open_) ∧ X.cell? ⟨M + 1, 2, none⟩ = some (.int .i64 hi.inf) ∧ X.cell? ⟨b, o + i * 2 + 1, none⟩ = some (.int .i64 Z))
          (first | exact HK2.out _ HC1.out | exact HK2.out _ H0.out.drew | exact HK2.out _ H0.out)
          (first | (go_at_call 12; refine Calls.mono (HR.out _) ?_; rintro en x1 ⟨rfl, hq⟩; have HC1 : Hid (Below wr.heap.size wr x1) := (by first | exact hq | exact (Below.refl _ _).drew.trans hq); clear hq))
        all_goals
          go_wp2
          go_roundw
          case rel => exact ⟨i + 1, a, f, by go_num, hlt, rfl, rfl, HE.out.1, HE.out.2, bup HBW.out HC1.out⟩
          case measure => simp only [intOf]; omega
    · have hge : ¬ (i : Int) < n := by omega
      obtain rfl : i = n := by omega
      have HE : Hid (f = R1 ∧ (a : Int) = (R2 : Int)) := by
        have q1 := HR1.out; have q2 := HR2.out; have q3 := HAA.out; have q4 := HFF.out; have q5 := HFT.out; have q6 := HTN.out
        rw [Nat.min_eq_right q6] at q3 q4
        refine ⟨?_, by omega⟩
        by_cases e : F = T
        · rw [if_pos e] at q1; rw [if_neg (by omega)] at q4; omega
        · rw [if_neg e] at q1; rw [if_pos (by omega)] at q4; omega
      obtain ⟨q1, q2⟩ := HE.out
      clear ha hf hge
      go_wp2
      go_ret2
      exact ⟨by rw [← q1, ← q2]; rfl, HBM.out _ HBW.out⟩

set_option maxRecDepth 100000 in
set_option maxHeartbeats 8000000 in
theorem rwithout_any {A : Option Addr} {n cp i : Nat} {l : List Mb} (w : World) (hl : SdAt w A n cp l) (hi : i < n) (hn : n ≤ 900000) :
    Calls Tryd.prog 28 #[.slice A n cp, .int .i64 (i : Nat)] w fun e w' => ∃ A' c', e = .returned (.slice A' (n - 1) c') ∧ SdAt w' A' (n - 1) c' (delAt l i) ∧ Below w.heap.size w w' ∧ Frh w.heap.size A' := by
  have HS := Lib.hid hl
  have hnc := hl.1.le
  have hcm := hl.1.max
  obtain ⟨b, o, rfl, hbl, _⟩ := hl.1.at_ (by omega)
  have hic : (i : Int) ≤ (cp : Int) := by omega
  have hin : (i : Int) < (n : Int) := by omega
  have hi0 : (0 : Int) ≤ (i : Int) := by omega
  obtain ⟨p, hp⟩ : ∃ p, i + 1 = p := ⟨_, rfl⟩
  have HP := Lib.hid hp
  have hip1 : i < p := by omega
  have hpn : p ≤ n := by omega
  have hi1 : (0 : Int) ≤ (p : Int) := by omega
  have hi1c : (p : Int) ≤ (cp : Int) := by omega
  have hi1n : (p : Int) ≤ (n : Int) := by omega
  have hw : IntKind.i64.wrap ((i : Int) + 1) = (p : Int) := by rw [IntWalk.i64_in _ (by omega)]; omega
  have hb0 : Below w.heap.size w w.drew := (Below.refl _ _).drew
  have hbx : Below w.heap.size w (w.drew.alloc (.cells #[] 47)) := hb0.alloc hb0.size _
  have HEMP : Hid ((w.drew.alloc (.cells #[] 47)).ownsRow w.heap.size 47 2 (.slice (some ⟨w.drew.heap.size, 0, none⟩) 0 0) 0 (mcells [])) :=
    World.ownsRow_made w.drew #[] 0 (Nat.le_refl _) (by decide) rfl
  have HST1 := Lib.hid ((hl.below hbx).first (Nat.le_of_lt hi))
  have HBX := Lib.hid hbx
  have hxz := hbx.size
  have HCL : Hid (∀ (w4 : World) (v4 : Value) (m : Nat), Below w.heap.size w w4 → w4.ownsRow w.heap.size 47 2 v4 m (mcells (l.take i ++ l.drop p)) → m = i + (n - p) → ∃ A' c', v4 = .slice A' (n - 1) c' ∧ SdAt w4 A' (n - 1) c' (delAt l i) ∧ Below w.heap.size w w4 ∧ Frh w.heap.size A') := fun w4 v4 m h1 h2 e => by
    have e2 : l.take i ++ l.drop p = delAt l i := by unfold delAt; rw [← hp]
    rw [e2] at h2
    obtain rfl : m = n - 1 := by omega
    obtain ⟨A', c', q1, q2, q3⟩ := sd_of_own2 h2
    exact ⟨A', c', q1, q2, h1, q3⟩
  clear hbx hl hp
  by_cases hci : cp = p
  · have HS3 := Lib.hid (fun X (hX : Below w.heap.size w X) => (HS.out.below hX).rest hpn)
    rw [if_pos hci] at HS3
    obtain rfl : n = p := by omega
    subst hci
    rw [Nat.sub_self] at HS3
    go_enter Tryd.func28, Tryd.ntmps28
    go_wp2_with fail
    go_region_law (first
      | (have qq := HB1; (refine step_append_sc rfl _ _ rfl w.heap.size (.slice A1 i k1) i _ rfl HO1.out (some ⟨b, o, none⟩) 0 0 _ rfl (HS3.out w1 HB1.out) (by omega) HB1.out.size ?_); intro v4 w4 hown hgr _; have hb4 : Below w.heap.size w w4 := HB1.out.trans ((Below.refl _ _).grown hgr HB1.out.size (fun k e => (HO1.out.lt k e).1)); have HE := Lib.hid (HCL.out w4 v4 _ hb4 hown (by omega)); clear hown hgr hb4)
      | ((refine step_append_sc rfl _ _ rfl w.heap.size (.slice (some ⟨w.drew.heap.size, 0, none⟩) 0 0) 0 [] rfl HEMP.out (some ⟨b, o, none⟩) i _ (l.take i) rfl HST1.out (by omega) hxz ?_); intro v1 w1 hown hgr _; obtain ⟨A1, k1, rfl⟩ := own_slice hown; have HB1 : Hid (Below w.heap.size w w1) := HBX.out.trans ((Below.refl _ _).grown hgr hxz (fun k e => (HEMP.out.lt k e).1)); have HO1 := Lib.hid hown; rw [Nat.zero_add, List.nil_append] at HO1; clear hown hgr; try rw [Nat.zero_add]))
    all_goals
      go_wp2
      go_ret
      obtain ⟨A', c', q1, q2⟩ := HE.out
      exact ⟨A', c', by rw [← q1]; rfl, q2⟩
  · have HS3 := Lib.hid (fun X (hX : Below w.heap.size w X) => (HS.out.below hX).rest hpn)
    have hadd : (some (⟨b, o, none⟩ : Addr)).map (fun x => x.add (p * 2)) = some ⟨b, o + p * 2, none⟩ := by simp [Addr.add]; omega
    rw [if_neg hci, hadd] at HS3
    go_enter Tryd.func28, Tryd.ntmps28
    go_wp2_with fail
    go_region_law (first
      | (have qq := HB1; (refine step_append_sc rfl _ _ rfl w.heap.size (.slice A1 i k1) i _ rfl HO1.out (some ⟨b, o + p * 2, none⟩) (n - p) (cp - p) _ rfl (HS3.out w1 HB1.out) (by omega) HB1.out.size ?_); intro v4 w4 hown hgr _; have hb4 : Below w.heap.size w w4 := HB1.out.trans ((Below.refl _ _).grown hgr HB1.out.size (fun k e => (HO1.out.lt k e).1)); have HE := Lib.hid (HCL.out w4 v4 _ hb4 hown (by omega)); clear hown hgr hb4)
      | ((refine step_append_sc rfl _ _ rfl w.heap.size (.slice (some ⟨w.drew.heap.size, 0, none⟩) 0 0) 0 [] rfl HEMP.out (some ⟨b, o, none⟩) i _ (l.take i) rfl HST1.out (by omega) hxz ?_); intro v1 w1 hown hgr _; obtain ⟨A1, k1, rfl⟩ := own_slice hown; have HB1 : Hid (Below w.heap.size w w1) := HBX.out.trans ((Below.refl _ _).grown hgr hxz (fun k e => (HEMP.out.lt k e).1)); have HO1 := Lib.hid hown; rw [Nat.zero_add, List.nil_append] at HO1; clear hown hgr; try rw [Nat.zero_add]))
    all_goals
      go_wp2
      go_ret
      obtain ⟨A', c', q1, q2⟩ := HE.out
      exact ⟨A', c', by rw [← q1]; rfl, q2⟩

end Go.Proofs.YtcbiiioglklpoaaDoor
