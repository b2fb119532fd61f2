/-
  The walk of package resp's bulk. Conditions: the request that is being read holds what its state says.
-/
import Derived.Test.YtkaododohnncnaaDoorRpE
namespace Go.Proofs.YtkaododohnncnaaDoor
open Go.RowKit

theorem info_bs : (Tryd.prog.info? 23).map (fun i => (i.zero, i.size, i.bytes)) = some (some (.slice none 0 0), 1, 24) := by kernel_rfl

/-- What bulk tells. -/
def BulkPost (W : World) (B b : Nat) (tb : Option Nat) (l : List UInt8) (ts : List (List UInt8)) (e : Ending) (w' : World) : Prop :=
  match bulkS l with
  | none => e = .returned (.bool false) ∧ Mod W B tb w'
  | some (.inl f) => Thrown f e ∧ Mod W B tb w'
  | some (.inr (t, nx)) => e = .returned (.bool true) ∧ ∃ v' tv' vs', RSt W B b tb (l.drop nx) (ts ++ [t]) v' tv' vs' w'

set_option maxRecDepth 100000 in
set_option maxHeartbeats 1000000 in
theorem pbulk_end (W : World) (B b : Nat) (tb : Option Nat) (ts : List (List UInt8)) (v tv : Value) (vs : List Value) (w : World) (h : RSt W B b tb [] ts v tv vs w) :
    Calls Tryd.prog 91 #[.pointer (some ⟨B, 0, none⟩)] w (BulkPost W B b tb [] ts) := by
  have hc := h.c0
  obtain ⟨o, cap, rfl, _⟩ := h.left
  rw [List.length_nil] at hc
  go_enter Tryd.func91, Tryd.ntmps91
  go_wp2
  go_ret
  exact ⟨rfl, h.mod⟩

set_option maxRecDepth 100000 in
set_option maxHeartbeats 1000000 in
theorem pbulk_other (W : World) (B b : Nat) (tb : Option Nat) (c : UInt8) (r : List UInt8) (ts : List (List UInt8)) (v tv : Value) (vs : List Value) (w : World) (h : RSt W B b tb (c :: r) ts v tv vs w) (h36 : c ≠ 36) :
    Calls Tryd.prog 91 #[.pointer (some ⟨B, 0, none⟩)] w (BulkPost W B b tb (c :: r) ts) := by
  have hc := h.c0
  obtain ⟨o, cap, rfl, h1, h2, h3⟩ := h.bytes h.left
  have hcell := h3 0 (by simp)
  simp only [Nat.add_zero, List.getD_cons_zero] at hcell
  have HS := Lib.hid (bulkS_other c r h36)
  have HUN := Lib.hid (punexpected_any c w)
  have hne : ((c.toNat : Int) == 36) = false := neI rfl h36
  have HM := Lib.hid h.mod
  clear h3
  rw [List.length_cons] at h1 hc
  go_enter Tryd.func91, Tryd.ntmps91
  go_wp2_with fail
  refine HUN.out.mono ?_
  rintro e w' ⟨rfl, hb⟩
  go_wp2
  refine ⟨rfl, ?_⟩
  unfold BulkPost
  rw [HS.out]
  exact ⟨rfl, HM.out.below hb⟩

set_option maxRecDepth 100000 in
set_option maxHeartbeats 4000000 in
set_option maxRecDepth 100000 in
theorem pbulk_dollar (W : World) (B b : Nat) (tb : Option Nat) (r : List UInt8) (ts : List (List UInt8)) (v tv : Value) (vs : List Value) (w : World) (h : RSt W B b tb (36 :: r) ts v tv vs w) (hts : ts.length ≤ 1000000) :
    Calls Tryd.prog 91 #[.pointer (some ⟨B, 0, none⟩)] w (BulkPost W B b tb (36 :: r) ts) := by
  obtain ⟨i0, hi, hy0, hy1, hy2⟩ := info_parts info_bs
  have hc := h.c0
  obtain ⟨_, hnb, hb, hB, hWw⟩ := h.fresh
  have HCO := Lib.hid (pcount_any B b v 0 65536 bigB (perrB ++ badB) (36 :: r) w hB hb hnb hc h.f0 (h.bytes h.left) (by show (36 : UInt8) ≠ 13; decide))
  have HLEFT := Lib.hid h.left
  have HH := Lib.hid h
  obtain ⟨o, cap, rfl, h1, h2, h3⟩ := h.bytes h.left
  have hcell := h3 0 (by simp)
  simp only [Nat.add_zero, List.getD_cons_zero] at hcell
  clear h3 h
  have hc0 := Lib.hid hc
  rw [List.length_cons] at h1 hc
  cases hh : headS bigB (36 :: r) with
  | none =>
    have HS := Lib.hid (bulkS_wait hh)
    have HC2 := Lib.hid (fun e w' (k : CountPost w B b 0 65536 bigB (perrB ++ badB) (36 :: r) e w') => (by unfold CountPost at k; rw [hh] at k; exact k : e = .returned (.tuple #[.int .i64 0, .bool false]) ∧ ∃ v', Put w ⟨B, 0, none⟩ v' w'))
    clear hh
    go_enter Tryd.func91, Tryd.ntmps91
    go_wp2_with fail
    refine HCO.out.mono ?_
    rintro e w1 hpost
    obtain ⟨rfl, v1, hp1⟩ := HC2.out _ _ hpost
    go_wp2
    go_ret
    unfold BulkPost
    rw [HS.out]
    exact ⟨rfl, HH.out.mod.put hp1⟩
  | some x =>
    rcases x with f | ⟨t, nx⟩
    · have HS := Lib.hid (bulkS_big hh)
      have HC2 := Lib.hid (fun e w' (k : CountPost w B b 0 65536 bigB (perrB ++ badB) (36 :: r) e w') => (by unfold CountPost at k; rw [hh] at k; exact k : Thrown f e ∧ Below w.heap.size w w'))
      clear hh
      go_enter Tryd.func91, Tryd.ntmps91
      go_wp2_with fail
      refine HCO.out.mono ?_
      rintro e w1 hpost
      obtain ⟨rfl, hb1⟩ := HC2.out _ _ hpost
      go_wp2
      refine ⟨rfl, ?_⟩
      unfold BulkPost
      rw [HS.out]
      exact ⟨rfl, HH.out.mod.below hb1⟩
    · obtain ⟨n1, n2, n3⟩ := headS_inr hh
      cases hp : parseV t with
      | none =>
        have HS := Lib.hid (bulkS_nan hh hp)
        have HC2 := Lib.hid (fun e w' (k : CountPost w B b 0 65536 bigB (perrB ++ badB) (36 :: r) e w') => (by unfold CountPost at k; rw [hh] at k; dsimp only at k; rw [hp] at k; exact k : Thrown (perrB ++ badB) e ∧ ∃ v', Put w ⟨B, 0, none⟩ v' w'))
        clear hh hp
        go_enter Tryd.func91, Tryd.ntmps91
        go_wp2_with fail
        refine HCO.out.mono ?_
        rintro e w1 hpost
        obtain ⟨rfl, v1, hp1⟩ := HC2.out _ _ hpost
        go_wp2
        refine ⟨rfl, ?_⟩
        unfold BulkPost
        rw [HS.out]
        exact ⟨rfl, HH.out.mod.put hp1⟩
      | some n =>
        by_cases hn : n < 0 ∨ 65536 < n
        · have HS := Lib.hid (bulkS_out hh hp hn)
          have HC2 := Lib.hid (fun e w' (k : CountPost w B b 0 65536 bigB (perrB ++ badB) (36 :: r) e w') => (by unfold CountPost at k; rw [hh] at k; dsimp only at k; rw [hp] at k; dsimp only at k; rw [if_pos hn] at k; exact k : Thrown (perrB ++ badB) e ∧ ∃ v', Put w ⟨B, 0, none⟩ v' w'))
          clear hh hp hn
          go_enter Tryd.func91, Tryd.ntmps91
          go_wp2_with fail
          refine HCO.out.mono ?_
          rintro e w1 hpost
          obtain ⟨rfl, v1, hp1⟩ := HC2.out _ _ hpost
          go_wp2
          refine ⟨rfl, ?_⟩
          unfold BulkPost
          rw [HS.out]
          exact ⟨rfl, HH.out.mod.put hp1⟩
        · obtain ⟨m, rfl⟩ : ∃ m : Nat, n = m := ⟨n.toNat, by omega⟩
          have hm : m ≤ 65536 := by omega
          have HC2 := Lib.hid (fun e w' (k : CountPost w B b 0 65536 bigB (perrB ++ badB) (36 :: r) e w') => (by unfold CountPost at k; rw [hh] at k; dsimp only at k; rw [hp] at k; dsimp only at k; rw [if_neg hn] at k; exact k : ∃ v', e = .returned (.tuple #[.int .i64 m, .bool true]) ∧ LeftV w b v' ((36 :: r).drop nx) ∧ Put w ⟨B, 0, none⟩ v' w'))
          have hdl : ((36 :: r).drop nx).length = (36 :: r).length - nx := List.length_drop
          by_cases hs : (36 :: r).length - nx < m + 2
          · have HS := Lib.hid (bulkS_short hh hp hn hs)
            clear hh hp hn
            by_cases hs1 : ((36 :: r).drop nx).length < m
            · go_enter Tryd.func91, Tryd.ntmps91
              go_wp2_with fail
              refine HCO.out.mono ?_
              rintro e w1 hpost
              obtain ⟨v1, rfl, hv1, hp1⟩ := HC2.out _ _ hpost
              have HH1 := HH.out.put hp1 (HH.out.back hv1)
              go_wp2_with fail
              refine (ptake_no B b m v1 _ w1 HH1.c0 (HH1.bytes HH1.left) hs1).mono ?_
              rintro e w2 ⟨rfl, rfl⟩
              go_wp2
              go_ret
              unfold BulkPost
              rw [HS.out]
              exact ⟨rfl, HH1.mod⟩
            · go_enter Tryd.func91, Tryd.ntmps91
              go_wp2_with fail
              refine HCO.out.mono ?_
              rintro e w1 hpost
              obtain ⟨v1, rfl, hv1, hp1⟩ := HC2.out _ _ hpost
              have HH1 := HH.out.put hp1 (HH.out.back hv1)
              have hB1 := HH1.fresh.2.2.2.1
              go_wp2_with fail
              refine (ptake_ok B b m v1 _ w1 hB1 HH1.c0 HH1.f0 (HH1.bytes HH1.left) (by omega)).mono ?_
              rintro e w2 ⟨t2, v2, rfl, ht2, hv2, hp2⟩
              have HH2 := HH1.put hp2 (HH1.back hv2)
              have hB2 := HH2.fresh.2.2.2.1
              have hb2 := HH2.fresh.2.2.1
              have hc12 := HH2.c1
              have hf12 := HH2.f1
              have hown2 := HH2.own
              obtain ⟨tt, htt⟩ : ∃ tt, ((36 :: r).drop nx).take m = tt := ⟨_, rfl⟩
              rw [htt] at ht2
              have HTT := Lib.hid htt
              have HT2 := Lib.hid (HH2.bytes (HH1.back ht2))
              obtain ⟨o2, cp2, rfl, _⟩ := ht2
              clear htt
              clear hpost
              go_wp2_with (at_builtin; refine wpList_append_own_at _ rfl _ _ 67 rfl (B + 1) 23 i0 (.slice none 0 0) 1 24 Tryd.underlying67 hi hy0 hy1 hy2 rfl (by decide) _ _ _ rfl (hown2.alloc _) ⟨w2.heap.size, 0, none⟩ 1 1 [.slice (some ⟨b, o2, none⟩) tt.length cp2] rfl rfl ?c1s1 ?c2s1 ?c3s1 ?c4s1 ?c5s1 ?_)
              try case c1s1 =>
                intro j u hj
                cases j with
                | zero => simp at hj; subst hj; simp [Addr.add, World.cell?_alloc_at]
                | succ j => simp at hj
              case c2s1 => first | rfl | (intro u hu; simp at hu; subst hu; rfl)
              case c3s1 => unfold maxLen; omega
              case c4s1 => omega
              case c5s1 => (simp; omega)
              intro tv' w3 hown3 hgr3 _ hat3
              obtain ⟨A3, c3, rfl⟩ := ownsRow_form hown3
              have HG3 := Lib.hid hgr3
              clear hgr3
              have hal : RSt W B b tb _ ts v2 tv vs (w2.alloc (.cells #[.slice (some ⟨b, o2, none⟩) tt.length cp2] 23)) := HH2.below ((Below.refl _ _).alloc (Nat.le_refl _) _)
              have htx : TextV (w2.alloc (.cells #[.slice (some ⟨b, o2, none⟩) tt.length cp2] 23)) B tv (.slice (some ⟨b, o2, none⟩) tt.length cp2) tt := by
                obtain ⟨o, cap, e1, e2, e3, e4⟩ := HT2.out
                refine Or.inr ⟨b, o, cap, e1, e2, e4.below ((Below.refl _ _).alloc (Nat.le_refl _) _) hb2, by simp; omega, by have := HH2.lo; omega, fun e => ?_⟩
                rcases HH2.own.2 with ⟨h1, _⟩ | ⟨g, _, _, h1, h2, _⟩
                · rw [h1] at e; cases e
                · rw [h1] at e; simp only [Value.ownBlock, Option.some.injEq] at e; have := HH2.lo; omega
              have HM := hal.more htx HG3.out hown3 (by
                rcases hat3 with h | h
                · exact Or.inl h
                · exact Or.inr ⟨_, h, by simp⟩)
              have hBB := HM.fresh.2.2.2.1
              obtain ⟨hc13, hf13, hB3⟩ := hal.grown HG3.out
              go_wp2_with fail
              refine (ptake_no B b 2 v2 _ _ HM.c0 (HM.bytes HM.left) (by rw [List.length_drop, hdl]; omega)).mono ?_
              rintro e w4 ⟨rfl, rfl⟩
              go_wp2
              go_ret
              unfold BulkPost
              rw [HS.out]
              exact ⟨rfl, HM.mod⟩
          · have HS := Lib.hid (bulkS_whole hh hp hn hs)
            rw [Int.toNat_natCast] at HS
            clear hh hp hn
            go_enter Tryd.func91, Tryd.ntmps91
            go_wp2_with fail
            refine HCO.out.mono ?_
            rintro e w1 hpost
            obtain ⟨v1, rfl, hv1, hp1⟩ := HC2.out _ _ hpost
            have HH1 := HH.out.put hp1 (HH.out.back hv1)
            have hB1 := HH1.fresh.2.2.2.1
            go_wp2_with fail
            refine (ptake_ok B b m v1 _ w1 hB1 HH1.c0 HH1.f0 (HH1.bytes HH1.left) (by omega)).mono ?_
            rintro e w2 ⟨t2, v2, rfl, ht2, hv2, hp2⟩
            have HH2 := HH1.put hp2 (HH1.back hv2)
            have hB2 := HH2.fresh.2.2.2.1
            have hb2 := HH2.fresh.2.2.1
            have hc12 := HH2.c1
            have hf12 := HH2.f1
            have hown2 := HH2.own
            obtain ⟨tt, htt⟩ : ∃ tt, ((36 :: r).drop nx).take m = tt := ⟨_, rfl⟩
            rw [htt] at ht2
            have HTT := Lib.hid htt
            have HT2 := Lib.hid (HH2.bytes (HH1.back ht2))
            obtain ⟨o2, cp2, rfl, _⟩ := ht2
            clear htt
            clear hpost
            go_wp2_with (at_builtin; refine wpList_append_own_at _ rfl _ _ 67 rfl (B + 1) 23 i0 (.slice none 0 0) 1 24 Tryd.underlying67 hi hy0 hy1 hy2 rfl (by decide) _ _ _ rfl (hown2.alloc _) ⟨w2.heap.size, 0, none⟩ 1 1 [.slice (some ⟨b, o2, none⟩) tt.length cp2] rfl rfl ?c1s2 ?c2s2 ?c3s2 ?c4s2 ?c5s2 ?_)
            try case c1s2 =>
              intro j u hj
              cases j with
              | zero => simp at hj; subst hj; simp [Addr.add, World.cell?_alloc_at]
              | succ j => simp at hj
            case c2s2 => first | rfl | (intro u hu; simp at hu; subst hu; rfl)
            case c3s2 => unfold maxLen; omega
            case c4s2 => omega
            case c5s2 => (simp; omega)
            intro tv' w3 hown3 hgr3 _ hat3
            obtain ⟨A3, c3, rfl⟩ := ownsRow_form hown3
            have HG3 := Lib.hid hgr3
            clear hgr3
            have hal : RSt W B b tb _ ts v2 tv vs (w2.alloc (.cells #[.slice (some ⟨b, o2, none⟩) tt.length cp2] 23)) := HH2.below ((Below.refl _ _).alloc (Nat.le_refl _) _)
            have htx : TextV (w2.alloc (.cells #[.slice (some ⟨b, o2, none⟩) tt.length cp2] 23)) B tv (.slice (some ⟨b, o2, none⟩) tt.length cp2) tt := by
              obtain ⟨o, cap, e1, e2, e3, e4⟩ := HT2.out
              refine Or.inr ⟨b, o, cap, e1, e2, e4.below ((Below.refl _ _).alloc (Nat.le_refl _) _) hb2, by simp; omega, by have := HH2.lo; omega, fun e => ?_⟩
              rcases HH2.own.2 with ⟨h1, _⟩ | ⟨g, _, _, h1, h2, _⟩
              · rw [h1] at e; cases e
              · rw [h1] at e; simp only [Value.ownBlock, Option.some.injEq] at e; have := HH2.lo; omega
            have HM := hal.more htx HG3.out hown3 (by
              rcases hat3 with h | h
              · exact Or.inl h
              · exact Or.inr ⟨_, h, by simp⟩)
            have hBB := HM.fresh.2.2.2.1
            obtain ⟨hc13, hf13, hB3⟩ := hal.grown HG3.out
            go_wp2_with fail
            refine (ptake_ok B b 2 v2 _ _ hBB HM.c0 HM.f0 (HM.bytes HM.left) (by rw [List.length_drop, hdl]; omega)).mono ?_
            rintro e w4 ⟨t4, v4, rfl, ht4, hv4, hp4⟩
            go_wp2
            go_ret
            unfold BulkPost
            rw [HS.out]
            have HZ := HM.put hp4 (HM.back hv4)
            rw [List.drop_drop, List.drop_drop, show nx + (m + 2) = nx + m + 2 from by omega, ← HTT.out] at HZ
            exact ⟨rfl, _, _, _, HZ⟩

theorem pbulk_any (W : World) (B b : Nat) (tb : Option Nat) (l : List UInt8) (ts : List (List UInt8)) (v tv : Value) (vs : List Value) (w : World) (h : RSt W B b tb l ts v tv vs w) (hts : ts.length ≤ 1000000) :
    Calls Tryd.prog 91 #[.pointer (some ⟨B, 0, none⟩)] w (BulkPost W B b tb l ts) := by
  match l with
  | [] => exact pbulk_end W B b tb ts v tv vs w h
  | c :: r =>
    by_cases hc : c = 36
    · subst hc; exact pbulk_dollar W B b tb r ts v tv vs w h hts
    · exact pbulk_other W B b tb c r ts v tv vs w h hc

end Go.Proofs.YtkaododohnncnaaDoor
