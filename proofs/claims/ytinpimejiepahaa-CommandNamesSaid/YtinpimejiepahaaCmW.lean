/-
  CommandNames' walk. Condition: the numbers are in their bounds.
-/
import Derived.Test.YtinpimejiepahaaCmU
namespace Go.Proofs.Ytinpimejiepahaa
open Go.RowKit

theorem two_le {k : Nat} (hk : k ≤ 63) : 2 ^ k ≤ 9223372036854775808 := by
  have h := Nat.pow_le_pow_right (n := 2) (by omega) hk
  simpa using h

set_option maxRecDepth 100000 in
set_option maxHeartbeats 8000000 in
theorem power_any (k : Nat) (hk : k ≤ 63) (w : World) : Calls Try.prog 22 #[.int .i64 (k : Nat)] w fun e w' => e = .returned (.int .u64 ((2 ^ k : Nat) : Int)) ∧ w' = w := by
  have HTW := Lib.hid (fun (j : Nat) (h : j ≤ 63) => two_le h)
  go_enter Try.func22, Try.ntmps22
  go_wp2_with fail
  go_loopw [0, 3] (fun kv nv wr => ∃ j : Nat, kv = .int .i64 (j : Nat) ∧ j ≤ k ∧ nv = .int .u64 ((2 ^ (k - j) : Nat) : Int) ∧ wr = w) (fun kv _ _ => (intOf kv).toNat)
  case atStart => exact ⟨k, rfl, Nat.le_refl _, by rw [Nat.sub_self]; rfl, rfl⟩
  case round =>
    obtain ⟨j, rfl, hj, rfl, rfl⟩ := hrel
    by_cases h0 : 0 < j
    · obtain ⟨i, rfl⟩ : ∃ i, j = i + 1 := ⟨j - 1, by omega⟩
      obtain ⟨p, hp⟩ : ∃ p, 2 ^ (k - (i + 1)) = p := ⟨_, rfl⟩
      have hp2 : 2 ^ (k - i) = p * 2 := by rw [← hp, ← Nat.pow_succ]; congr 1; omega
      have hpl : p * 2 ≤ 9223372036854775808 := by rw [← hp2]; exact HTW.out _ (by omega)
      have HP2 := Lib.hid hp2
      rw [hp]
      have hw : IntKind.u64.wrap ((p : Int) * 2) = ((p * 2 : Nat) : Int) := by simp [IntKind.wrap, IntKind.bits, IntKind.signed]; omega
      have hlt' : (0 : Int) < ((i + 1 : Nat) : Int) := by omega
      clear hp hp2
      go_wp2
      go_roundw
      case rel => exact ⟨i, by go_num, by omega, by rw [HP2.out]; simp, by trivial⟩
      case measure => simp only [intOf]; omega
    · obtain rfl : j = 0 := by omega
      have hlt' : ¬ (0 : Int) < ((0 : Nat) : Int) := by omega
      go_wp2
      go_ret
      exact ⟨rfl, rfl⟩

/-- One place of a name, with its bit. -/
def upN (U k c : Nat) : Nat := if U / 2 ^ k % 2 = 1 ∧ 97 ≤ c ∧ c ≤ 122 then c - 32 else c
def upF (U : Nat) : Nat → UInt8 → UInt8 := fun k c => UInt8.ofNat (upN U k c.toNat)
theorem upF_toNat (U k : Nat) (c : UInt8) : (upF U k c).toNat = upN U k c.toNat := by
  have h : upN U k c.toNat < 256 := by have := c.toNat_lt; unfold upN; split <;> omega
  unfold upF
  rw [UInt8.toNat_ofNat']
  exact Nat.mod_eq_of_lt h
theorem upF_low (U k : Nat) {c : UInt8} (h : lowB c = c) : lowB (upF U k c) = c := by
  have hc : lowN c.toNat = c.toNat := by rw [← lowB_toNat, h]
  apply UInt8.toNat_inj.1
  rw [lowB_toNat, upF_toNat]
  unfold upN
  unfold lowN at hc ⊢
  split
  · rename_i q
    rw [if_pos (by omega)]
    omega
  · exact hc
def upL (U : Nat) (l : Tx) : Tx := l.mapIdx (upF U)
theorem upL_len (U : Nat) (l : Tx) : (upL U l).length = l.length := List.length_mapIdx
theorem lowL_upL (U : Nat) {l : Tx} (h : lowL l = l) : lowL (upL U l) = l := by
  unfold lowL upL at *
  apply List.ext_getElem?
  intro i
  rw [List.getElem?_map, List.getElem?_mapIdx]
  cases hi : l[i]? with
  | none => rfl
  | some c =>
    have hc : lowB c = c := by
      have q : (l.map lowB)[i]? = some c := by rw [h, hi]
      rw [List.getElem?_map, hi] at q
      simpa using q
    show some (lowB (upF U i c)) = some c
    rw [upF_low U i hc]

theorem byN_mem {i : Nat} {x : Sp} (h : byN[i]? = some x) : x ∈ rowsT := byN_perm.mem_iff.1 (List.mem_of_getElem? h)
theorem byN_ne {i k : Nat} {x y : Sp} (hx : byN[i]? = some x) (hy : byN[k]? = some y) (h : k ≠ i) : ¬ y.1 = x.1 := by
  obtain ⟨hi, hx⟩ := List.getElem?_eq_some_iff.1 hx
  obtain ⟨hk, hy⟩ := List.getElem?_eq_some_iff.1 hy
  have q := List.pairwise_iff_getElem.1 byN_ris
  intro e
  rcases Nat.lt_or_gt_of_ne h with h | h
  · have r := q k i hk hi h
    rw [hx, hy, e] at r
    exact tx_irrefl _ r
  · have r := q i k hi hk h
    rw [hx, hy, e] at r
    exact tx_irrefl _ r
theorem upL_found (U : Nat) {i : Nat} {x : Sp} (h : byN[i]? = some x) : lkS (upL U x.1) = x ∧ lkB (upL U x.1) = true := by
  have q : lookT (upL U x.1) = some x := lookT_iff.2 ⟨byN_mem h, (lowL_upL U (goodS (byN_mem h)).low).symm⟩
  unfold lkS lkB
  rw [q]
  exact ⟨rfl, rfl⟩

set_option maxRecDepth 100000 in
set_option maxHeartbeats 16000000 in
theorem namesL_any (w : World) (x0 x1 : Int) (lo0 : -9223372036854775808 ≤ x0) (hi0 : x0 ≤ 9223372036854775807) (lo1 : 0 ≤ x1) (hi1 : x1 ≤ 18446744073709551615) :
    Calls Try.prog 6 #[.int .i64 x0, .int .u64 x1] w fun e w' => e = .returned (.bool true) ∧ Below w.heap.size w w' := by
  have HA := Lib.hid all_any
  have HAL := Lib.hid alive_any
  have HPW := Lib.hid power_any
  have HTW := Lib.hid (fun (j : Nat) (h : j ≤ 63) => two_le h)
  obtain ⟨B, hB⟩ : ∃ B, w.heap.size = B := ⟨_, rfl⟩
  have HBW := Lib.hid hB
  rw [hB]
  obtain ⟨U, rfl⟩ : ∃ U : Nat, x1 = (U : Int) := ⟨x1.toNat, by omega⟩
  clear hB
  go_enter Try.func6, Try.ntmps6
  go_wp2_with fail
  refine (HA.out _).mono ?_
  rintro e w1 ⟨A1, c1, rfl, h1, hb1, -⟩
  have HT1 := Lib.hid h1
  have HB1 : Hid (Below B w w1) := by unfold Hid; rw [← HBW.out]; exact hb1
  have hl1 := h1.le
  have hm1 := h1.max
  clear h1 hb1
  by_cases hlo : x0 < 0
  · go_wp2_with fail
    refine (HAL.out _).mono ?_
    rintro e w9 ⟨rfl, hb9⟩
    have HB9 : Hid (Below B w w9) := HB1.out.trans (hb9.mono (by have := HB1.out.size; have := HBW.out; omega))
    clear hb9
    go_wp2
    go_ret
    exact ⟨rfl, HB9.out⟩
  by_cases hhi : 99 ≤ x0
  · go_wp2_with fail
    refine (HAL.out _).mono ?_
    rintro e w9 ⟨rfl, hb9⟩
    have HB9 : Hid (Below B w w9) := HB1.out.trans (hb9.mono (by have := HB1.out.size; have := HBW.out; omega))
    clear hb9
    go_wp2
    go_ret
    exact ⟨rfl, HB9.out⟩
  obtain ⟨i, rfl⟩ : ∃ i : Nat, x0 = (i : Int) := ⟨x0.toNat, by omega⟩
  have hi99 : i < 99 := by omega
  have hip : (0 : Int) ≤ (i : Int) := by omega
  have hil : (i : Int) < 99 := by omega
  obtain ⟨⟨nm, g, ar, wr_, f, la, st⟩, hx⟩ := HT1.out.get hi99
  have hsh := (goodS (byN_mem hx)).short
  dsimp only at hsh
  have HUP := Lib.hid (upL_found U hx)
  have HX := Lib.hid hx
  obtain ⟨n, hn⟩ : ∃ n, nm.length = n := ⟨_, rfl⟩
  obtain ⟨C, W1, hcv, hbw, hrw, hC, hC2⟩ := text_row w1 nm (by omega)
  obtain ⟨M, hM⟩ : ∃ M, w1.heap.size = M := ⟨_, rfl⟩
  rw [hM] at hcv hbw hrw
  rw [hn] at hcv hC hsh
  obtain ⟨b1, o1, rfl, _, hc1⟩ := HT1.out.at_ (by omega)
  obtain ⟨a0, a1, a2, a3, a4, a5, a6⟩ := SpAt.seven hc1 hx
  dsimp only at a0 a1 a2 a3 a4 a5 a6
  have HM := Lib.hid hM
  have HN := Lib.hid hn
  have HRW := Lib.hid hrw
  have HW1 := Lib.hid hbw
  clear hx hc1 a1 a2 a3 a4 a5 a6 hM hn hrw hbw
  go_wp2_with fail
  go_loopw [7] (fun iv wr => ∃ k : Nat, iv = .int .i64 k ∧ k ≤ n ∧ ByR wr M (mixF (upF U) nm k) ∧ Below M w1 wr) (fun iv _ => n - (intOf iv).toNat)
  case atStart => exact ⟨0, rfl, Nat.zero_le _, by rw [mixF_zero]; exact HRW.out, HW1.out⟩
  case round =>
    obtain ⟨k, rfl, hk, hr, hbw⟩ := hrel
    have HR := Lib.hid hr
    have HBR := Lib.hid hbw
    clear hr hbw
    by_cases hlt : k < n
    · obtain ⟨c, hc⟩ : ∃ c, nm[k]? = some c := ⟨_, List.getElem?_eq_getElem (by rw [HN.out]; exact hlt)⟩
      obtain ⟨c0, f0⟩ := HR.out.2 k c (mixF_at hc)
      have HST := Lib.hid (mixF_set (f := upF U) hc)
      have HSK := Lib.hid (fun h => mixF_skip (f := upF U) hc h)
      have HSZ : Hid (k < (mixF (upF U) nm k).length) := by unfold Hid; rw [mixF_len, HN.out]; exact hlt
      have HPK := HPW.out k (by omega)
      obtain ⟨z, hz⟩ : ∃ z, c.toNat = z := ⟨_, rfl⟩
      have hz256 : z < 256 := by rw [← hz]; exact c.toNat_lt
      have hUP : (upF U k c).toNat = upN U k z := by rw [upF_toNat, hz]
      have hSame : upN U k z = z → upF U k c = c := fun q => UInt8.toNat_inj.1 (by rw [hUP, q, hz])
      unfold upN at hUP hSame
      obtain ⟨p, hp⟩ : ∃ p, 2 ^ k = p := ⟨_, rfl⟩
      have hp0 : 0 < p := by rw [← hp]; exact Nat.two_pow_pos k
      have hpl : p ≤ 9223372036854775808 := by rw [← hp]; exact HTW.out _ (by omega)
      rw [hp] at HPK hUP hSame
      rw [hz] at c0
      have HUF := Lib.hid hUP
      have HSA := Lib.hid hSame
      have HPK2 := Lib.hid HPK
      have hlt' : (k : Int) < (n : Int) := by omega
      have hk64 : (k : Int) < 64 := by omega
      have hk0 : (0 : Int) ≤ (k : Int) := by omega
      clear hc hz hUP hSame hp HPK
      go_wp2_with fail
      refine (HPK2.out _).mono ?_
      rintro e w2 ⟨rfl, rfl⟩
      obtain ⟨R, hR⟩ : ∃ R, U / p = R := ⟨_, rfl⟩
      have hRl : R ≤ U := by rw [← hR]; exact Nat.div_le_self U p
      have hw : IntKind.u64.wrap ((U : Int) / (p : Int)) = (R : Int) := by
        have e : (U : Int) / (p : Int) = (R : Int) := by rw [← hR]; rfl
        rw [e]
        simp [IntKind.wrap, IntKind.bits, IntKind.signed]
        omega
      have ht : (IntKind.u64.wrap ((U : Int) / (p : Int))).tmod 2 = ((R % 2 : Nat) : Int) := by rw [hw]; rfl
      have HUF2 := HUF
      have HSA2 := HSA
      rw [hR] at HUF2 HSA2
      clear hR hw hpl
      by_cases hq : R % 2 = 1
      · have hq1 : (IntKind.u64.wrap ((U : Int) / (p : Int))).tmod 2 = 1 := by rw [ht, hq]; rfl
        clear ht
        by_cases h97 : 97 ≤ z
        · by_cases h122 : z ≤ 122
          · obtain ⟨y, hy⟩ : ∃ y, z - 32 = y := ⟨_, rfl⟩
            have HY : Hid ((upF U k c).toNat = y) := by unfold Hid; rw [HUF2.out, if_pos ⟨hq, h97, h122⟩]; exact hy
            have hw2 : IntKind.u8.wrap ((z : Int) - 32) = (y : Int) := by rw [u8w _ (by omega) (by omega)]; omega
            have i97 : (97 : Int) ≤ (z : Int) := by omega
            have i122 : (z : Int) ≤ 122 := by omega
            clear hy
            go_wp2
            go_roundw
            case rel => exact ⟨k + 1, by go_num, hlt, by rw [← HST.out]; have q := HR.out.set HSZ.out (upF U k c); rw [HY.out] at q; exact q, HBR.out.setCell (Nat.le_refl _) _⟩
            case measure => simp only [intOf]; omega
          · have HY : Hid (upF U k c = c) := HSA2.out (by rw [if_neg (by omega)])
            have i97 : (97 : Int) ≤ (z : Int) := by omega
            have i122 : ¬ (z : Int) ≤ 122 := by omega
            go_wp2
            go_roundw
            case rel => exact ⟨k + 1, by go_num, hlt, by rw [HSK.out HY.out]; exact HR.out, HBR.out⟩
            case measure => simp only [intOf]; omega
        · have HY : Hid (upF U k c = c) := HSA2.out (by rw [if_neg (by omega)])
          have i97 : ¬ (97 : Int) ≤ (z : Int) := by omega
          go_wp2
          go_roundw
          case rel => exact ⟨k + 1, by go_num, hlt, by rw [HSK.out HY.out]; exact HR.out, HBR.out⟩
          case measure => simp only [intOf]; omega
      · have HY : Hid (upF U k c = c) := HSA2.out (by rw [if_neg (by omega)])
        have hq1 : ¬ (IntKind.u64.wrap ((U : Int) / (p : Int))).tmod 2 = 1 := by rw [ht]; omega
        clear ht
        go_wp2
        go_roundw
        case rel => exact ⟨k + 1, by go_num, hlt, by rw [HSK.out HY.out]; exact HR.out, HBR.out⟩
        case measure => simp only [intOf]; omega
    · obtain rfl : k = n := by omega
      obtain ⟨s, hs⟩ : ∃ s, upL U nm = s := ⟨_, rfl⟩
      have hsl : s.length = k := by rw [← hs, upL_len, HN.out]
      have HT : ByR wr M s := by
        have q := HR.out
        rw [mixF_all (upF U) nm (by rw [HN.out]; exact Nat.le_refl _)] at q
        rw [← hs]
        exact q
      have hback := row_text wr M k C s HT hsl
      have HLK := look_any s (by omega)
      have hup := HUP.out
      rw [hs] at hup
      rw [hup.1, hup.2] at HLK
      unfold aggS encS at HLK
      dsimp only at HLK
      have HLK2 := Lib.hid HLK
      have hlt' : ¬ (k : Int) < (k : Int) := by omega
      clear HT hup HLK hs
      go_wp2_with fail
      refine (HLK2.out _).mono ?_
      rintro e w4 ⟨rfl, hb4⟩
      have HB4 : Hid (Below M w1 w4) := HBR.out.trans (hb4.mono (by have := HBR.out.size; have := HM.out; omega))
      obtain ⟨Q, hQ⟩ : ∃ Q, w4.heap.size = Q := ⟨_, rfl⟩
      obtain ⟨w5, hw5⟩ : ∃ w5, w4.alloc (.cells #[.string ⟨nm.toArray⟩, .int .i64 g, .int .i64 ar, .bool wr_, .int .i64 f, .int .i64 la, .int .i64 st] 27) = w5 := ⟨_, rfl⟩
      have HX5 : Hid (Box7 w5 Q (.string ⟨nm.toArray⟩) (.int .i64 g) (.int .i64 ar) (.bool wr_) (.int .i64 f) (.int .i64 la) (.int .i64 st)) := by unfold Hid; rw [← hw5, ← hQ]; exact Box7.new ..
      have hb5 : Below w4.heap.size w4 w5 := by rw [← hw5]; exact (Below.refl _ _).alloc (Nat.le_refl _) _
      have HB5 : Hid (Below M w1 w5) := HB4.out.trans (hb5.mono (by have := HB4.out.size; have := HM.out; omega))
      have HW5 := Lib.hid hw5
      have HT5 := Lib.hid (HT1.out.below (show Below w1.heap.size w1 w5 from by rw [HM.out]; exact HB5.out))
      clear hb4 hb5 hw5
      go_wp2_with fail
      rw [HW5.out]
      obtain ⟨-, d0, d1, d2, d3, d4, d5, d6, -⟩ := HX5.out
      obtain ⟨b5, o5, e5, _, hc5⟩ := HT5.out.at_ (by omega)
      injection e5 with e5
      injection e5 with e5 e6
      subst e5 e6
      obtain ⟨y0, y1, y2, y3, y4, y5, y6⟩ := SpAt.seven hc5 HX.out
      dsimp only at y0 y1 y2 y3 y4 y5 y6
      have hne := agg_ne
      clear hc5
      go_quiet (fail)
      all_goals
        obtain ⟨w6, hw6⟩ : ∃ w6, w5.drewN nq = w6 := ⟨_, rfl⟩
        have HB6 : Hid (Below M w1 w6) := by unfold Hid; rw [← hw6]; exact HB5.out.trans (below_drewN _ _ _)
        have HT6 := Lib.hid (HT1.out.below (show Below w1.heap.size w1 w6 from by rw [HM.out]; exact HB6.out))
        rw [hw6]
        clear hw6 d0 d1 d2 d3 d4 d5 d6 y0 y1 y2 y3 y4 y5 y6
        go_wp2_with fail
        go_loopw [10] (fun iv wr => ∃ k : Nat, iv = .int .i64 k ∧ k ≤ 99 ∧ Below M w1 wr) (fun iv _ => 99 - (intOf iv).toNat)
        case atStart => exact ⟨0, rfl, Nat.zero_le _, HB6.out⟩
        case round =>
          obtain ⟨q, rfl, hq, hbq⟩ := hrel
          have HBQ := Lib.hid hbq
          by_cases hq99 : q < 99
          · have HTQ := Lib.hid (HT1.out.below (show Below w1.heap.size w1 wr from by rw [HM.out]; exact hbq))
            obtain ⟨⟨nm2, g2, ar2, wr2, f2, la2, st2⟩, hx2⟩ := HTQ.out.get hq99
            obtain ⟨b7, o7, e7, _, hc7⟩ := HTQ.out.at_ (by omega)
            injection e7 with e7
            injection e7 with e7 e8
            subst e7 e8
            obtain ⟨r0, -, -, -, -, -, -⟩ := SpAt.seven hc7 HX.out
            obtain ⟨t0, -, -, -, -, -, -⟩ := SpAt.seven hc7 hx2
            dsimp only at r0 t0
            have hql : (q : Int) < 99 := by omega
            have hq0 : (0 : Int) ≤ (q : Int) := by omega
            have hne2 := fun h => byN_ne HX.out hx2 h
            dsimp only at hne2
            clear hc7 hx2 hbq
            by_cases hqi : q = i
            · subst hqi
              clear hne2
              go_wp2_with fail
              go_quiet (fail)
              all_goals
                go_wp2
                go_roundw
                case rel => exact ⟨q + 1, by go_num, hq99, HBQ.out.trans (below_drewN _ _ _)⟩
                case measure => simp only [intOf]; omega
            · have hqi' : ¬ (q : Int) = (i : Int) := by omega
              have hEq : (nm2 == nm) = false := by simpa using hne2 hqi
              clear hne2 hqi
              go_wp2_with fail
              go_quiet (fail)
              all_goals
                go_wp2
                go_roundw
                case rel => exact ⟨q + 1, by go_num, hq99, HBQ.out.trans (below_drewN _ _ _)⟩
                case measure => simp only [intOf]; omega
          · obtain rfl : q = 99 := by omega
            have HB7 : Hid (Below B w wr) := HB1.out.trans (hbq.mono (by have := HB1.out.size; have := HBW.out; have := HM.out; omega))
            clear hbq
            go_wp2_with fail
            refine (HAL.out _).mono ?_
            rintro e w9 ⟨rfl, hb9⟩
            have HB9 : Hid (Below B w w9) := HB7.out.trans (hb9.mono (by have := HB7.out.size; have := HBW.out; omega))
            clear hb9
            go_wp2
            go_ret
            exact ⟨rfl, HB9.out⟩

end Go.Proofs.Ytinpimejiepahaa
