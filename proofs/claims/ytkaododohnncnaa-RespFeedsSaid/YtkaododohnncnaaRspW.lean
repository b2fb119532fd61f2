/-
  The walk of the document's own word. Conditions: the text is a text of at most a million bytes.
-/
import Derived.Test.YtkaododohnncnaaRspQ
import Derived.Laws.AppendOwnNone
namespace Go.Proofs.Ytkaododohnncnaa
open Go.RowKit
set_option maxHeartbeats 4000000 in
set_option maxRecDepth 100000 in
theorem rword_any (s : ByteArray) (at_ : Nat) (w : World) (hs : s.size ≤ 1000000) (hat : at_ ≤ s.size) :
    Calls Try.prog 31 #[.string s, .int .i64 at_] w fun e w' => e = .returned (wordV s.size (wordGo (s.size + 1) (s.data.toList.drop at_) [])) ∧ Below w.heap.size w w' := by
  obtain ⟨R, hR⟩ : ∃ R, wordGo (s.size + 1) (s.data.toList.drop at_) [] = R := ⟨_, rfl⟩
  have HR := Lib.hid hR
  rw [hR]
  clear hR
  obtain ⟨i0, hi, hy0, hy1, hy2⟩ := info_parts info_u8
  go_enter Try.func31, Try.ntmps31
  go_wp2
  go_loopw [1, 7, 8, 9, 10] (fun i v _ _ _ wr => ∃ (k : Nat) (acc : List UInt8) (f : Nat), i = .int .i64 k ∧ k ≤ s.size ∧ acc.length ≤ k ∧ s.size < f + k ∧ wr.ownsRow w.heap.size 5 1 v acc.length (Lib.byteCells acc) ∧ Below w.heap.size w wr ∧ Hid (wordGo f (s.data.toList.drop k) acc = R)) (fun i _ _ _ _ _ => s.size - (intOf i).toNat)
  case atStart => exact ⟨at_, [], s.size + 1, rfl, hat, by simp, by omega, ⟨rfl, .inl ⟨rfl, rfl⟩⟩, Below.refl _ _, HR.out⟩
  case round =>
    clear HR
    obtain ⟨k, acc, f, rfl, hk, hak, hf, hown, hb, HG⟩ := hrel
    by_cases hlt : k < s.size
    · have hd := drop_at s k hlt
      obtain ⟨c, hc⟩ : ∃ c : UInt8, (s[k]'hlt) = c := ⟨_, rfl⟩
      rw [hc] at hd
      have HD := Lib.hid hd
      clear hd
      obtain ⟨f, rfl⟩ : ∃ g, f = g + 1 := ⟨f - 1, by omega⟩
      cases hbl : blankS c with
      | true =>
        have HE : Hid (R = some (acc, s.data.toList.drop k)) := by
          unfold Hid; rw [← HG.out, HD.out]; exact wordGo_blank f c _ acc hbl
        have hbl2 := (blankS_iff c).1 hbl
        have hcv := conv_own _ _ _ _ hown
        clear HG hbl
        go_wp2_with (go_at_call 30; refine (rblank_yes _ _ hbl2).mono ?_; rintro e w' ⟨rfl, rfl⟩)
        go_ret3
        refine ⟨?_, hb⟩
        rw [HE.out, wordV, drop_len s k (by omega)]
        rfl
      | false =>
        have hbl2 : ¬ ((9 ≤ (c.toNat : Int) ∧ (c.toNat : Int) ≤ 13) ∨ (c.toNat : Int) = 32) := fun e => by have := (blankS_iff c).2 e; rw [hbl] at this; cases this
        have HB := Lib.hid hbl2
        clear hbl2
        by_cases hq : c = 34 ∨ c = 39
        · have HQ : Calls Try.prog 39 #[.string s, .int .i64 k] wr (QuotPost wr s.size (quotS c (s.size + 1) (s.data.toList.drop (k + 1)) [])) := by
            rcases hq with rfl | rfl
            · exact rquoted_34 s k wr hs hlt hc
            · exact rquoted_39 s k wr hs hlt hc
          have hfu : quotS c ((s.data.toList.drop (k + 1)).length + 1) (s.data.toList.drop (k + 1)) [] = quotS c (s.size + 1) (s.data.toList.drop (k + 1)) [] :=
            quotS_fuel c _ _ _ _ _ (Nat.le_refl _) (by omega) (by rw [List.length_drop, Array.length_toList]; show s.size - (k + 1) < s.size + 1; omega)
          have hlen : (s.data.toList.drop (k + 1)).length = s.size - (k + 1) := by rw [List.length_drop, Array.length_toList]; rfl
          have HLN := Lib.hid hlen
          have HFU := Lib.hid hfu
          have HQH := Lib.hid HQ
          clear hfu hlen HQ
          cases hQ : quotS c (s.size + 1) (s.data.toList.drop (k + 1)) [] with
          | none =>
            have HE : Hid (R = none) := by
              unfold Hid; rw [← HG.out, HD.out]; exact wordGo_bad f c _ acc hq (HFU.out.trans hQ)
            rw [hQ] at HQH
            clear HG hQ
            rcases hq with rfl | rfl
            all_goals
              go_wp2_with (first | (go_at_call 30; refine (rblank_no _ _ HB.out).mono ?_; rintro e w' ⟨rfl, rfl⟩) | fail)
              refine HQH.out.mono ?_
              rintro e w1 ⟨hb1, rfl⟩
              go_wp2
              go_ret3
              refine ⟨?_, hb.trans (hb1.mono hb.size)⟩
              rw [HE.out]
              rfl
          | some pr =>
            obtain ⟨p, r'⟩ := pr
            obtain ⟨j, j1, j2, hr', hpl⟩ := quotS_suffix c _ _ _ _ _ hQ
            rw [HLN.out] at j2
            rw [List.drop_drop] at hr'
            have hnx : s.size - r'.length = k + 1 + j := by rw [hr']; exact drop_len s _ (by omega)
            have HWQ := Lib.hid (HFU.out.trans hQ)
            rw [hQ] at HQH
            clear hQ
            rw [List.length_nil, Nat.zero_add] at hpl
            by_cases hend : k + 1 + j < s.size
            · have hd2 := drop_at s (k + 1 + j) hend
              cases hxb : blankS (s[k + 1 + j]'hend) with
              | true =>
                have HE : Hid (wordGo f (s.data.toList.drop (k + 1 + j)) (acc ++ p) = R) := by
                  unfold Hid; rw [← HG.out, HD.out, ← hr']
                  exact (wordGo_on f c _ acc p r' hq HWQ.out (by rw [hr', hd2]; simp [hxb])).symm
                have hxb := (blankS_iff _).1 hxb
                have HXB := Lib.hid hxb
                clear hxb hd2 HG
                have HNX := Lib.hid hnx
                clear hnx hr'
                rcases hq with rfl | rfl
                all_goals
                  go_wp2_with (first | (go_at_call 30; refine (rblank_no _ _ HB.out).mono ?_; rintro e w' ⟨rfl, rfl⟩) | fail)
                  refine HQH.out.mono ?_
                  rintro e w1 ⟨hb01, vp, rfl, hownp⟩
                  rw [HNX.out]
                  have hb1 : Below w.heap.size w w1 := hb.trans (hb01.mono hb.size)
                  have hown1 := ownsRow_below hown hb01
                  rcases hownp.2 with ⟨hv, hn⟩ | ⟨gp, capp, curp, hv, hgp, hhp, hnp, hcapp, hszp, htkp⟩
                  · subst hv
                    obtain rfl := List.length_eq_zero_iff.1 hn
                    rw [List.append_nil] at HE
                    go_wp2_with (first | (go_at_call 30; refine (rblank_yes _ _ HXB.out).mono ?_; rintro e w' ⟨rfl, rfl⟩) | (at_builtin; refine wpList_append_own_none rfl _ _ 27 rfl w.heap.size 5 i0 1 Try.underlying27 hi _ _ _ rfl hown1 rfl ?_))
                    clear hc
                    go_wp2
                    go_roundw
                    case rel => exact ⟨k + 1 + j, acc, f, by go_num, by omega, by omega, by omega, hown1, hb1, HE.out⟩
                    case measure => simp only [intOf]; omega
                  · subst hv
                    have hcells := hownp.cells (g := gp) rfl
                    go_wp2_with (first | (go_at_call 30; refine (rblank_yes _ _ HXB.out).mono ?_; rintro e w' ⟨rfl, rfl⟩) | (at_builtin; refine wpList_append_own _ rfl _ _ 27 rfl w.heap.size 5 i0 (.int .u8 0) 1 1 Try.underlying27 hi hy0 hy1 hy2 rfl (by decide) _ _ _ rfl hown1 ⟨gp, 0, none⟩ p.length capp (Lib.byteCells p) rfl (by rw [Lib.byteCells_length, Nat.mul_one]) hcells (one_bytes p) (by unfold maxLen; omega) (by omega) hb1.size ?_))
                    intro v' w3 hown3 hgr3 _
                    have hb3 : Below w.heap.size w w3 := hb1.grown hgr3 hb1.size (fun g hg => (hown1.lt g hg).1)
                    have hs' := byteCells_two acc p
                    rw [← hs', ← List.length_append] at hown3
                    clear hs' hc hgr3 hcells
                    go_wp2
                    go_roundw
                    case rel => exact ⟨k + 1 + j, acc ++ p, f, by go_num, by omega, by rw [List.length_append]; omega, by omega, hown3, hb3, HE.out⟩
                    case measure => simp only [intOf]; omega
              | false =>
                have HE : Hid (R = none) := by
                  unfold Hid; rw [← HG.out, HD.out]
                  exact wordGo_behind f c _ acc p r' hq HWQ.out (by rw [hr', hd2]; simp [hxb])
                have HXB : Hid (¬ ((9 ≤ ((s[k + 1 + j]'hend).toNat : Int) ∧ ((s[k + 1 + j]'hend).toNat : Int) ≤ 13) ∨ ((s[k + 1 + j]'hend).toNat : Int) = 32)) := fun e => by have := (blankS_iff _).2 e; rw [hxb] at this; cases this
                clear hxb hd2 HG
                have HNX := Lib.hid hnx
                clear hnx hr'
                rcases hq with rfl | rfl
                all_goals
                  go_wp2_with (first | (go_at_call 30; refine (rblank_no _ _ HB.out).mono ?_; rintro e w' ⟨rfl, rfl⟩) | fail)
                  refine HQH.out.mono ?_
                  rintro e w1 ⟨hb01, vp, rfl, hownp⟩
                  rw [HNX.out]
                  go_wp2_with (go_at_call 30; refine (rblank_no _ _ HXB.out).mono ?_; rintro e w' ⟨rfl, rfl⟩)
                  go_ret3
                  refine ⟨?_, hb.trans (hb01.mono hb.size)⟩
                  rw [HE.out]
                  rfl
            · have HE : Hid (wordGo f (s.data.toList.drop (k + 1 + j)) (acc ++ p) = R) := by
                unfold Hid; rw [← HG.out, HD.out, ← hr']
                exact (wordGo_on f c _ acc p r' hq HWQ.out (by rw [hr', drop_end s _ (by omega)]; rfl)).symm
              clear HG
              have HNX := Lib.hid hnx
              clear hnx hr'
              rcases hq with rfl | rfl
              all_goals
                go_wp2_with (first | (go_at_call 30; refine (rblank_no _ _ HB.out).mono ?_; rintro e w' ⟨rfl, rfl⟩) | fail)
                refine HQH.out.mono ?_
                rintro e w1 ⟨hb01, vp, rfl, hownp⟩
                rw [HNX.out]
                have hb1 : Below w.heap.size w w1 := hb.trans (hb01.mono hb.size)
                have hown1 := ownsRow_below hown hb01
                rcases hownp.2 with ⟨hv, hn⟩ | ⟨gp, capp, curp, hv, hgp, hhp, hnp, hcapp, hszp, htkp⟩
                · subst hv
                  obtain rfl := List.length_eq_zero_iff.1 hn
                  rw [List.append_nil] at HE
                  go_wp2_with (first | (at_builtin; refine wpList_append_own_none rfl _ _ 27 rfl w.heap.size 5 i0 1 Try.underlying27 hi _ _ _ rfl hown1 rfl ?_))
                  clear hc
                  go_wp2
                  go_roundw
                  case rel => exact ⟨k + 1 + j, acc, f, by go_num, by omega, by omega, by omega, hown1, hb1, HE.out⟩
                  case measure => simp only [intOf]; omega
                · subst hv
                  have hcells := hownp.cells (g := gp) rfl
                  go_wp2_with (first | (at_builtin; refine wpList_append_own _ rfl _ _ 27 rfl w.heap.size 5 i0 (.int .u8 0) 1 1 Try.underlying27 hi hy0 hy1 hy2 rfl (by decide) _ _ _ rfl hown1 ⟨gp, 0, none⟩ p.length capp (Lib.byteCells p) rfl (by rw [Lib.byteCells_length, Nat.mul_one]) hcells (one_bytes p) (by unfold maxLen; omega) (by omega) hb1.size ?_))
                  intro v' w3 hown3 hgr3 _
                  have hb3 : Below w.heap.size w w3 := hb1.grown hgr3 hb1.size (fun g hg => (hown1.lt g hg).1)
                  have hs' := byteCells_two acc p
                  rw [← hs', ← List.length_append] at hown3
                  clear hs' hc hgr3 hcells
                  go_wp2
                  go_roundw
                  case rel => exact ⟨k + 1 + j, acc ++ p, f, by go_num, by omega, by rw [List.length_append]; omega, by omega, hown3, hb3, HE.out⟩
                  case measure => simp only [intOf]; omega
        · have h1 : c ≠ 34 := fun e => hq (Or.inl e)
          have h2 : c ≠ 39 := fun e => hq (Or.inr e)
          have HE : Hid (wordGo f (s.data.toList.drop (k + 1)) (acc ++ [c]) = R) := by
            unfold Hid; rw [← HG.out, HD.out]; exact (wordGo_plain f c _ acc hbl h1 h2).symm
          clear HG hq hbl
          obtain ⟨x, hx⟩ : ∃ x : Nat, c.toNat = x := ⟨_, rfl⟩
          rw [hx] at HB
          have g1 : ((x : Int) != 34) = true := by have := neI hx h1; rw [bne, show ((34 : Int)) = (((34 : UInt8).toNat : Nat) : Int) from rfl, this]; rfl
          have g2 : ((x : Int) != 39) = true := by have := neI hx h2; rw [bne, show ((39 : Int)) = (((39 : UInt8).toNat : Nat) : Int) from rfl, this]; rfl
          clear h1 h2
          go_wp2_with (first | (go_at_call 30; refine (rblank_no _ _ HB.out).mono ?_; rintro e w' ⟨rfl, rfl⟩) | (at_builtin; refine wpList_append_own _ rfl _ _ 27 rfl w.heap.size 5 i0 (.int .u8 0) 1 1 Try.underlying27 hi hy0 hy1 hy2 rfl (by decide) _ _ _ rfl (hown.alloc _) ⟨wr.heap.size, 0, none⟩ 1 1 [.int .u8 (x : Int)] rfl rfl ?c1 ?c2 ?c3 ?c4 ?c5 ?_))
          case c1 =>
            intro j u hj
            cases j with
            | zero => simp at hj; subst hj; simp [Addr.add, World.cell?_alloc_at]
            | succ j => simp at hj
          case c2 => first | rfl | (intro u hu; simp at hu; subst hu; rfl)
          case c3 => unfold maxLen; omega
          case c4 => omega
          case c5 => (have := hb.size; first | omega | (rw [World.size_alloc]; omega) | (simp; omega))
          intro v' w3 hown3 hgr3 _
          have hb3 : Below w.heap.size w w3 := (hb.alloc hb.size _).grown hgr3 (by simp; have := hb.size; omega) (fun g hg => (hown.lt g hg).1)
          have hs' := bytes_snoc acc c
          rw [hx] at hs'
          rw [← hs'] at hown3
          clear hs' hc hgr3
          go_wp2
          go_roundw
          case rel => exact ⟨k + 1, acc ++ [c], f, by go_num, by omega, by rw [List.length_append]; simp only [List.length_singleton]; omega, by omega, by rw [List.length_append]; exact hown3, hb3, HE.out⟩
          case measure => simp only [intOf]; omega
    · have HE : Hid (R = some (acc, [])) := by
        obtain ⟨f, rfl⟩ : ∃ g, f = g + 1 := ⟨f - 1, by omega⟩
        unfold Hid; rw [← HG.out, drop_end s k (by omega)]; exact wordGo_nil f acc
      have hke : k = s.size := by omega
      have hcv := conv_own _ _ _ _ hown
      clear HG
      subst hke
      go_wp2
      go_ret3
      refine ⟨?_, hb⟩
      rw [HE.out]
      rfl

end Go.Proofs.Ytkaododohnncnaa
