/-
  Package members: Check, copied, next, place; the document's Check, In, Same, Next; few. Conditions: the rows lie in memory.
-/
import Derived.Test.YtkobhlhkkpnmkaaMbM
import Derived.Test.YtkobhlhkkpnmkaaTbC
import Derived.Deep.QuietTactic
namespace Go.Proofs.Ytkobhlhkkpnmkaa
open Go.RowKit

set_option maxRecDepth 100000 in
set_option maxHeartbeats 4000000 in
theorem few_any {A : Option Addr} {n cp : Nat} {L : List Tx} (w : World) (h : TxAt w A n cp L) :
    Calls Try.prog 10 #[.slice A n cp] w fun e w' => e = .returned (.slice A (min n 200) cp) ∧ w' = w := by
  have hle := h.le
  have hmx := h.max
  clear h
  by_cases hn : 200 < n
  · have h1 : (200 : Int) < (n : Int) := by omega
    have h2 : (200 : Int) ≤ (cp : Int) := by omega
    have h3 : min n 200 = 200 := by omega
    rw [h3]
    go_enter Try.func10, Try.ntmps10
    go_wp2
    go_ret
    exact ⟨rfl, rfl⟩
  · have h1 : ¬ (200 : Int) < (n : Int) := by omega
    have h3 : min n 200 = n := by omega
    rw [h3]
    go_enter Try.func10, Try.ntmps10
    go_wp2
    go_ret
    exact ⟨rfl, rfl⟩

set_option maxRecDepth 100000 in
set_option maxHeartbeats 8000000 in
theorem check_any {A : Option Addr} {n cp : Nat} {L : List Tx} (w : World) (h : TxAt w A n cp L) (hn : n ≤ 4000000) :
    Calls Try.prog 16 #[.slice A n cp] w fun e w' => e = .returned (.int .i64 (ckX L)) ∧ Below w.heap.size w w' := by
  have HL := Lib.hid h
  have HN := Lib.hid h.len
  have hle := h.le
  obtain ⟨M, hM⟩ : ∃ M, w.heap.size = M := ⟨_, rfl⟩
  have HM := Lib.hid hM
  obtain ⟨C, hC⟩ : ∃ C, ckX L = C := ⟨_, rfl⟩
  have HC := Lib.hid hC
  rw [hC, hM]
  clear h hM hC
  go_enter Try.func16, Try.ntmps16
  go_wp2
  go_loopw [7] (fun iv wr => ∃ i : Nat, iv = .int .i64 i ∧ (i + 1 ≤ n ∨ i = 0) ∧ Below M w wr ∧ ∀ j x y, j < i → L[j]? = some x → L[j + 1]? = some y → x < y) (fun iv _ => n - (intOf iv).toNat)
  case atStart => exact ⟨0, rfl, Or.inr rfl, Below.refl _ _, fun j x y h => absurd h (Nat.not_lt_zero _)⟩
  case round =>
    obtain ⟨i, rfl, hi, hb, hr⟩ := hrel
    have HB := Lib.hid hb
    have HR := Lib.hid hr
    clear hr
    by_cases hlt : i + 1 < n
    · obtain ⟨x, hx⟩ := HL.out.get (j := i) (by omega)
      obtain ⟨y, hy⟩ := HL.out.get (j := i + 1) hlt
      obtain ⟨b, o, rfl, hbl, hc⟩ := (HL.out.below (w' := wr) (by rw [HM.out]; exact hb)).at_ (by omega)
      have c0 := hc i x hx
      have c1 := hc (i + 1) y hy
      obtain ⟨p, hp⟩ : ∃ p, i + 1 = p := ⟨_, rfl⟩
      rw [hp] at c1 hlt
      have hw : IntKind.i64.wrap ((i : Int) + 1) = (p : Int) := by rw [IntWalk.i64_in _ (by omega)]; omega
      have hlt' : (i : Int) < (n : Int) - 1 := by omega
      have hlt2 : (i : Int) < (n : Int) := by omega
      have hlt3 : (p : Int) < (n : Int) := by omega
      have HX := Lib.hid hx
      have HY := Lib.hid hy
      have HP := Lib.hid hp
      clear hx hy hc hb hp
      by_cases hxy : x < y
      · have hS : Op.bytesLess x y = true := by rw [bytesLess_eq]; exact decide_eq_true hxy
        have HXY := Lib.hid hxy
        clear hxy
        go_wp2_with fail
        go_quiet (fail)
        clear hw
        all_goals
          go_wp2
          go_roundw
          case rel =>
            refine ⟨i + 1, by go_num, Or.inl (by have := HP.out; omega), HB.out.trans (below_drewN _ _ _), fun j u v hj hu hv => ?_⟩
            rcases (by omega : j < i ∨ j = i) with q | rfl
            · exact HR.out j u v q hu hv
            · rw [HX.out] at hu
              rw [HY.out] at hv
              injection hu with hu
              injection hv with hv
              rw [← hu, ← hv]
              exact HXY.out
          case measure => simp only [intOf]; omega
      · have hS : Op.bytesLess x y = false := by rw [bytesLess_eq]; exact decide_eq_false hxy
        have HE : Hid (C = 80) := by
          rw [← HC.out]
          exact ckX_no (fun hr => hxy (ris_next hr HX.out HY.out))
        clear hxy
        go_wp2_with fail
        go_quiet (fail)
        all_goals
          go_wp2
          go_ret
          exact ⟨by rw [HE.out]; rfl, HB.out.trans (below_drewN _ _ _)⟩
    · have hge : ¬ (i : Int) < (n : Int) - 1 := by omega
      have HE : Hid (C = 0) := by
        rw [← HC.out]
        exact ckX_ok (ris_of_next fun j hj x y hx hy => HR.out j x y (by have := HN.out; omega) hx hy)
      go_wp2
      go_ret
      exact ⟨by rw [HE.out]; rfl, HB.out⟩

set_option maxRecDepth 100000 in
set_option maxHeartbeats 8000000 in
theorem rcheck_any {A : Option Addr} {n cp : Nat} {L : List Tx} (w : World) (h : TxAt w A n cp L) (hn : n ≤ 4000000) :
    Calls Try.prog 17 #[.slice A n cp] w fun e w' => e = .returned (.int .i64 (ckX L)) ∧ Below w.heap.size w w' := by
  have HL := Lib.hid h
  have HN := Lib.hid h.len
  have hle := h.le
  obtain ⟨M, hM⟩ : ∃ M, w.heap.size = M := ⟨_, rfl⟩
  have HM := Lib.hid hM
  obtain ⟨C, hC⟩ : ∃ C, ckX L = C := ⟨_, rfl⟩
  have HC := Lib.hid hC
  rw [hC, hM]
  clear h hM hC
  go_enter Try.func17, Try.ntmps17
  go_wp2
  go_loopw [3] (fun iv wr => ∃ i : Nat, iv = .int .i64 (i : Nat) ∧ 1 ≤ i ∧ (i ≤ n ∨ i = 1) ∧ Below M w wr ∧ ∀ j x y, j + 1 < i → L[j]? = some x → L[j + 1]? = some y → x < y) (fun iv _ => n - (intOf iv).toNat)
  case atStart => exact ⟨1, rfl, Nat.le_refl _, Or.inr rfl, Below.refl _ _, fun j x y h => by omega⟩
  case round =>
    obtain ⟨i, rfl, h1, hi, hb, hr⟩ := hrel
    have HB := Lib.hid hb
    have HR := Lib.hid hr
    clear hr
    by_cases hlt : i < n
    · obtain ⟨p, hp⟩ : ∃ p, i = p + 1 := ⟨i - 1, by omega⟩
      obtain ⟨x, hx⟩ := HL.out.get (j := p) (by omega)
      obtain ⟨y, hy⟩ := HL.out.get (j := i) hlt
      obtain ⟨b, o, rfl, hbl, hc⟩ := (HL.out.below (w' := wr) (by rw [HM.out]; exact hb)).at_ (by omega)
      have c0 := hc p x hx
      have c1 := hc i y hy
      have hw : IntKind.i64.wrap ((i : Int) - 1) = (p : Int) := by rw [IntWalk.i64_in _ (by omega)]; omega
      have hlt' : (i : Int) < (n : Int) := by omega
      have hlt2 : (p : Int) < (n : Int) := by omega
      have HX := Lib.hid hx
      have HY := Lib.hid hy
      have HP := Lib.hid hp
      clear hx hy hc hb hp
      by_cases hxy : x < y
      · have hS : Op.bytesLess y x = false := by rw [bytesLess_eq]; exact decide_eq_false (tx_asymm hxy)
        have hS2 : (y == x) = false := by rw [beq_eq_false_iff_ne]; exact fun e => tx_irrefl x (by rw [e] at hxy; exact hxy)
        have HXY := Lib.hid hxy
        clear hxy
        go_wp2_with fail
        go_quiet (fail)
        clear hw
        all_goals
          go_wp2
          go_roundw
          case rel =>
            refine ⟨i + 1, by go_num, by omega, Or.inl hlt, HB.out.trans (below_drewN _ _ _), fun j u v hj hu hv => ?_⟩
            have hpp := HP.out
            rcases (by omega : j + 1 < i ∨ j = p) with q | rfl
            · exact HR.out j u v q hu hv
            · rw [HX.out] at hu
              rw [← hpp, HY.out] at hv
              injection hu with hu
              injection hv with hv
              rw [← hu, ← hv]
              exact HXY.out
          case measure => simp only [intOf]; omega
      · have HE : Hid (C = 80) := by
          rw [← HC.out]
          exact ckX_no (fun hr => hxy (ris_next hr HX.out (by rw [← HP.out]; exact HY.out)))
        rcases tx_ge hxy with e | e
        · have hS : Op.bytesLess y x = false := by rw [bytesLess_eq, e]; exact decide_eq_false (tx_irrefl y)
          have hS2 : (y == x) = true := by rw [e]; exact beq_self_eq_true y
          clear hxy e
          go_wp2_with fail
          go_quiet (fail)
          all_goals
            go_wp2
            go_ret
            exact ⟨by rw [HE.out]; rfl, HB.out.trans (below_drewN _ _ _)⟩
        · have hS : Op.bytesLess y x = true := by rw [bytesLess_eq]; exact decide_eq_true e
          clear hxy e
          go_wp2_with fail
          go_quiet (fail)
          all_goals
            go_wp2
            go_ret
            exact ⟨by rw [HE.out]; rfl, HB.out.trans (below_drewN _ _ _)⟩
    · have hge : ¬ (i : Int) < (n : Int) := by omega
      have HE : Hid (C = 0) := by
        rw [← HC.out]
        exact ckX_ok (ris_of_next fun j hj x y hx hy => HR.out j x y (by have := HN.out; omega) hx hy)
      go_wp2
      go_ret
      exact ⟨by rw [HE.out]; rfl, HB.out⟩

set_option maxRecDepth 100000 in
set_option maxHeartbeats 8000000 in
theorem rin_any {A : Option Addr} {n cp : Nat} {L : List Tx} (w : World) (h : TxAt w A n cp L) (hn : n ≤ 4000000) (z : Tx) :
    Calls Try.prog 34 #[.slice A n cp, .string ⟨z.toArray⟩] w fun e w' => e = .returned (.bool (decide (z ∈ L))) ∧ w' = w := by
  have HL := Lib.hid h
  have HN := Lib.hid h.len
  have hle := h.le
  obtain ⟨C, hC⟩ : ∃ C, decide (z ∈ L) = C := ⟨_, rfl⟩
  have HC := Lib.hid hC
  obtain ⟨Z, hZ⟩ : ∃ Z : ByteArray, (⟨z.toArray⟩ : ByteArray) = Z := ⟨_, rfl⟩
  have HZ := Lib.hid hZ
  rw [hC, hZ]
  clear h hC hZ
  go_enter Try.func34, Try.ntmps34
  go_wp2
  go_loopw [5] (fun iv wr => ∃ i : Nat, iv = .int .i64 i ∧ i ≤ n ∧ wr = w ∧ ∀ j x, j < i → L[j]? = some x → x ≠ z) (fun iv _ => n - (intOf iv).toNat)
  case atStart => exact ⟨0, rfl, Nat.zero_le _, rfl, fun j x h => absurd h (Nat.not_lt_zero _)⟩
  case round =>
    obtain ⟨i, rfl, hi, rfl, hr⟩ := hrel
    have HR := Lib.hid hr
    clear hr
    by_cases hlt : i < n
    · obtain ⟨x, hx⟩ := HL.out.get (j := i) hlt
      obtain ⟨b, o, rfl, hbl, hc⟩ := HL.out.at_ (by omega)
      have c0 := hc i x hx
      have hlt' : (i : Int) < (n : Int) := by omega
      have HX := Lib.hid hx
      clear hx hc
      by_cases hxz : x = z
      · have HE : Hid (C = true) := by
          rw [← HC.out]
          exact decide_eq_true (List.mem_of_getElem? (hxz ▸ HX.out))
        rw [hxz, HZ.out] at c0
        clear hxz
        go_wp2
        go_ret
        exact ⟨by rw [HE.out]; rfl, rfl⟩
      · obtain ⟨T, hT⟩ : ∃ T : ByteArray, (⟨x.toArray⟩ : ByteArray) = T := ⟨_, rfl⟩
        rw [hT] at c0
        have hneb : (T.toList == Z.toList) = false := by rw [beq_eq_false_iff_ne, ByteArray.toList_eq, ByteArray.toList_eq, ← hT, ← HZ.out]; exact fun e => hxz (by simpa using e)
        have HXZ := Lib.hid hxz
        clear hxz hT
        go_wp2
        go_roundw
        case rel =>
          refine ⟨i + 1, by go_num, hlt, trivial, fun j u hj hu => ?_⟩
          rcases (by omega : j < i ∨ j = i) with q | rfl
          · exact HR.out j u q hu
          · rw [HX.out] at hu
            injection hu with hu
            rw [← hu]
            exact HXZ.out
        case measure => simp only [intOf]; omega
    · have hge : ¬ (i : Int) < (n : Int) := by omega
      have HE : Hid (C = false) := by
        rw [← HC.out]
        refine decide_eq_false (fun hm => ?_)
        obtain ⟨j, hj⟩ := List.mem_iff_getElem?.1 hm
        exact HR.out j z (by have := (List.getElem?_eq_some_iff.1 hj).1; have := HN.out; omega) hj rfl
      go_wp2
      go_ret
      exact ⟨by rw [HE.out]; rfl, rfl⟩

set_option maxRecDepth 100000 in
set_option maxHeartbeats 8000000 in
/-- Two rows that read alike are the same. -/
theorem rsame_yes {A B : Option Addr} {n cp cq : Nat} {L : List Tx} (w : World) (ha : TxAt w A n cp L) (hb : TxAt w B n cq L) (hn : n ≤ 4000000) :
    Calls Try.prog 13 #[.slice A n cp, .slice B n cq] w fun e w' => e = .returned (.bool true) ∧ Below w.heap.size w w' := by
  have HA := Lib.hid ha
  have HB := Lib.hid hb
  have h1 := ha.le
  have h2 := hb.le
  obtain ⟨M, hM⟩ : ∃ M, w.heap.size = M := ⟨_, rfl⟩
  have HM := Lib.hid hM
  rw [hM]
  clear ha hb hM
  go_enter Try.func13, Try.ntmps13
  go_wp2
  go_loopw [5] (fun iv wr => ∃ i : Nat, iv = .int .i64 i ∧ i ≤ n ∧ Below M w wr) (fun iv _ => n - (intOf iv).toNat)
  case atStart => exact ⟨0, rfl, Nat.zero_le _, Below.refl _ _⟩
  case round =>
    obtain ⟨i, rfl, hi, hbw⟩ := hrel
    have HBW := Lib.hid hbw
    by_cases hlt : i < n
    · obtain ⟨x, hx⟩ := HA.out.get (j := i) hlt
      have hlt' : (i : Int) < n := by omega
      have hbw' : Below w.heap.size w wr := by rw [HM.out]; exact hbw
      obtain ⟨b, o, rfl, hbl, hc⟩ := (HA.out.below hbw').at_ (by omega)
      obtain ⟨b2, o2, rfl, hbl2, hc2⟩ := (HB.out.below hbw').at_ (by omega)
      have c0 := hc i x hx
      have d0 := hc2 i x hx
      obtain ⟨T, hT⟩ : ∃ T : ByteArray, (⟨x.toArray⟩ : ByteArray) = T := ⟨_, rfl⟩
      rw [hT] at c0 d0
      clear hc hc2 hx hT hbw hbw'
      go_wp2_with fail
      go_quiet (fail)
      all_goals
        go_wp2
        go_roundw
        case rel => exact ⟨i + 1, by go_num, hlt, HBW.out.trans (below_drewN _ _ _)⟩
        case measure => simp only [intOf]; omega
    · have hge : ¬ (i : Int) < n := by omega
      go_wp2
      go_ret
      exact ⟨rfl, HBW.out⟩

/-- The draw behind one, of 64 bits. -/
def nxD (x : Nat) : Nat := (x * 6364136223846793005 + 1442695040888963407) % 18446744073709551616
theorem nxD_lt (x : Nat) : nxD x < 18446744073709551616 := Nat.mod_lt _ (by decide)
theorem nxD_wrap (x : Nat) : IntKind.u64.wrap (IntKind.u64.wrap ((x : Int) * 6364136223846793005) + 1442695040888963407) = (nxD x : Int) := by
  unfold nxD
  rw [IntKind.wrap_u64, IntKind.wrap_u64]
  omega

theorem rnext_any (x : Nat) (w : World) : Calls Try.prog 51 #[.int .u64 x] w fun e w' => e = .returned (.int .u64 (nxD x)) ∧ w' = w := by
  have HW := Lib.hid (nxD_wrap x)
  obtain ⟨D, hD⟩ : ∃ D : Int, IntKind.u64.wrap (IntKind.u64.wrap ((x : Int) * 6364136223846793005) + 1442695040888963407) = D := ⟨_, rfl⟩
  have HD := Lib.hid hD
  clear hD
  go_enter Try.func51, Try.ntmps51
  go_wp2
  go_ret
  exact ⟨by rw [← HW.out]; rfl, rfl⟩

theorem next_any (x : Nat) (w : World) : Calls Try.prog 60 #[.int .u64 x] w fun e w' => e = .returned (.int .u64 (nxD x)) ∧ w' = w := by
  have HW := Lib.hid (nxD_wrap x)
  go_enter Try.func60, Try.ntmps60
  go_wp2
  go_ret
  exact ⟨by rw [← HW.out]; rfl, rfl⟩

/-- Which one among n a draw tells. -/
theorem place_any (x n : Nat) (hx : x < 18446744073709551616) (h0 : 0 < n) (hn : n ≤ 4000000) (w : World) : Calls Try.prog 48 #[.int .u64 x, .int .i64 n] w fun e w' => e = .returned (.int .i64 (x % n : Nat)) ∧ w' = w := by
  have h1 : IntKind.u64.wrap (n : Int) = (n : Int) := IntWalk.u64_in _ (by omega)
  have hlt := Nat.mod_lt x h0
  have h2 : (x : Int).tmod (n : Int) = ((x % n : Nat) : Int) := by rw [Int.tmod_eq_emod_of_nonneg (by omega)]; rfl
  have h3 : IntKind.u64.wrap ((x % n : Nat) : Int) = ((x % n : Nat) : Int) := IntWalk.u64_in _ (by omega)
  have h4 : IntKind.i64.wrap ((x % n : Nat) : Int) = ((x % n : Nat) : Int) := IntWalk.i64_in _ (by omega)
  have hz : ¬ (n : Int) = 0 := by omega
  go_enter Try.func48, Try.ntmps48
  go_wp2
  go_ret
  exact ⟨rfl, rfl⟩

end Go.Proofs.Ytkobhlhkkpnmkaa
