/-
  The walks of package resp's quoted parts: doubleQuoted, singleQuoted. Conditions: what is left of the bytes lies in memory as a slice that reads as them; the word's bytes are a row of the call's own.
-/
import Derived.Test.YtkaododohnncnaaDoorRpC
import Derived.Laws.AppendOwnNone
namespace Go.Proofs.YtkaododohnncnaaDoor
open Go.RowKit

/-- What a quoted part's end tells: the word with it. -/
def QPost (W0 : World) (B b : Nat) (acc : List UInt8) (R : Option (List UInt8 × List UInt8)) (e : Ending) (w' : World) : Prop :=
  match R with
  | none => Thrown (perrB ++ unbL) e ∧ ∃ v', Put W0 ⟨B, 0, none⟩ v' w'
  | some (bs, r) => match r.head?.any (fun x => !blankS x) with
    | true => Thrown (perrB ++ unbL) e ∧ ∃ v', Put W0 ⟨B, 0, none⟩ v' w'
    | false => ∃ u' v', e = .returned u' ∧ w'.ownsRow W0.heap.size 5 1 u' (acc ++ bs).length (Lib.byteCells (acc ++ bs)) ∧ LeftV W0 b v' r ∧ Put W0 ⟨B, 0, none⟩ v' w'

set_option maxRecDepth 100000 in
set_option maxHeartbeats 4000000 in
theorem pdouble_any (W0 : World) (B b : Nat) (v0 v u : Value) (acc rest : List UInt8) (f : Nat) (w : World) (hB : B < W0.heap.size) (hb : b < W0.heap.size) (hn : b ≠ B) (hc : W0.cell? ⟨B, 0, none⟩ = some v0) (hf : W0.frozen? ⟨B, 0, none⟩ = false) (hp : Put W0 ⟨B, 0, none⟩ v w) (hl : LeftV W0 b v rest) (hown : w.ownsRow W0.heap.size 5 1 u acc.length (Lib.byteCells acc)) (hbnd : acc.length + rest.length ≤ 1000000) (hfu : rest.length < f) :
    Calls Tryd.prog 113 #[.pointer (some ⟨B, 0, none⟩), u] w (QPost W0 B b acc (quotS 34 f rest [])) := by
  obtain ⟨i0, hi, hy0, hy1, hy2⟩ := info_parts info_u8
  obtain ⟨R, hR⟩ : ∃ R, quotS 34 f rest [] = R := ⟨_, rfl⟩
  have HR : Hid (quotS 34 f rest [] = R) := hR
  rw [hR]
  clear hR
  go_enter Tryd.func113, Tryd.ntmps113
  go_wp2
  go_loopw [1, 5] (fun u _ wr => ∃ (v : Value) (part rest : List UInt8) (f : Nat), Put W0 ⟨B, 0, none⟩ v wr ∧ LeftV W0 b v rest ∧ wr.ownsRow W0.heap.size 5 1 u (acc ++ part).length (Lib.byteCells (acc ++ part)) ∧ (acc ++ part).length + rest.length ≤ 1000000 ∧ rest.length < f ∧ Hid (quotS 34 f rest part = R)) (fun _ _ wr => lenAt wr ⟨B, 0, none⟩)
  case atStart => exact ⟨v, [], rest, f, hp, hl, by rw [List.append_nil]; exact hown, by rw [List.append_nil]; exact hbnd, hfu, HR.out⟩
  case round =>
    clear HR hp hl hown hbnd hfu
    obtain ⟨v, part, rest, f, hpr, hlr, hown, hbnd, hfu, HG⟩ := hrel
    obtain ⟨f, rfl⟩ : ∃ g, f = g + 1 := ⟨f - 1, by omega⟩
    have HLEN : Hid (lenAt wr ⟨B, 0, none⟩ = rest.length) := by
      obtain ⟨o, cap, rfl, _⟩ := hlr
      exact lenAt_slice (hpr.cell hc)
    match rest with
    | [] =>
      have HE : Hid (R = none) := by unfold Hid; rw [← HG.out]; exact quotS_nil 34 (f + 1) part
      have HNE := Lib.hid (pnext_end B b v wr (hpr.cell hc) (hlr.put hpr hb hn))
      clear HG
      go_wp2_with fail
      refine HNE.out.mono ?_
      rintro e w' ⟨rfl, rfl⟩
      go_wp2
      rw [HE.out]
      exact ⟨rfl, rfl, _, hpr⟩
    | c :: rest =>
      have HNX := Lib.hid (pnext_ok B b v c rest wr (Nat.lt_of_lt_of_le hB hpr.size) (Nat.lt_of_lt_of_le hb hpr.size) hn (hpr.cell hc) ((hpr.frozen hB).trans hf) (hlr.put hpr hb hn))
      rw [List.length_cons] at hbnd hfu HLEN
      by_cases hq : c = 34
      · subst hq
        have HE : Hid (R = some (part, rest)) := by unfold Hid; rw [← HG.out]; exact quotS_end 34 f rest part
        clear HG
        go_wp2_with fail
        refine HNX.out.mono ?_
        rintro e w1 ⟨v1, rfl, hv1, hp1⟩
        have hpp := hpr.trans hp1
        have HPP := Lib.hid hpp
        have HV1 := Lib.hid (hv1.back hpr hb hn)
        have hown1 := own_put hown hp1 hB
        match rest with
        | [] =>
          go_wp2_with fail
          refine (pended_end B b v1 _ w1 (hpp.cell hc) (HV1.out.put hpp hb hn)).mono ?_
          rintro e w2 ⟨rfl, rfl⟩
          go_wp2
          go_ret
          rw [HE.out]
          exact ⟨_, _, rfl, hown1, HV1.out, HPP.out⟩
        | d :: rest =>
          cases hbl : blankS d with
          | true =>
            go_wp2_with fail
            refine (pended_blank B b v1 _ d rest w1 (hpp.cell hc) (HV1.out.put hpp hb hn) hbl).mono ?_
            rintro e w2 ⟨rfl, rfl⟩
            go_wp2
            go_ret
            rw [HE.out]
            unfold QPost
            simp only [List.head?_cons, Option.any_some, hbl]
            exact ⟨_, _, rfl, hown1, HV1.out, HPP.out⟩
          | false =>
            go_wp2_with fail
            refine (pended_bad B b v1 _ d rest w1 (hpp.cell hc) (HV1.out.put hpp hb hn) hbl).mono ?_
            rintro e w2 ⟨rfl, rfl⟩
            go_wp2
            rw [HE.out]
            refine ⟨rfl, ?_⟩
            unfold QPost
            simp only [List.head?_cons, Option.any_some, hbl]
            exact ⟨rfl, _, HPP.out⟩
      by_cases h92 : c = 92
      · subst h92
        match rest with
        | [] =>
          have HE : Hid (R = none) := by
            unfold Hid; rw [← HG.out, quotS_esc]; exact quotS_nil 34 f _
          clear HG
          go_wp2_with fail
          refine HNX.out.mono ?_
          rintro e w1 ⟨v1, rfl, hv1, hp1⟩
          have hpp := hpr.trans hp1
          go_wp2_with fail
          refine (pesc_end B b v1 w1 (hpp.cell hc) (hv1.put hp1 (Nat.lt_of_lt_of_le hb hpr.size) hn)).mono ?_
          rintro e w2 ⟨rfl, rfl⟩
          go_wp2
          rw [HE.out]
          exact ⟨rfl, rfl, _, hpp⟩
        | d :: rest =>
          have HE : Hid (quotS 34 f ((92 :: d :: rest).drop (escS (d :: rest)).2) (part ++ [(escS (d :: rest)).1]) = R) := by
            unfold Hid; rw [← HG.out]; exact (quotS_esc f (d :: rest) part).symm
          clear HG
          have hel := escS_le (d :: rest)
          go_wp2_with fail
          refine HNX.out.mono ?_
          rintro e w1 ⟨v1, rfl, hv1, hp1⟩
          have hpp1 := hpr.trans hp1
          have hlen1 : W0.heap.size ≤ w1.heap.size := hpp1.size
          go_wp2_with fail
          refine (pesc_any B b v1 d rest w1 (Nat.lt_of_lt_of_le hB hlen1) (Nat.lt_of_lt_of_le hb hlen1) hn (hpp1.cell hc) ((hpp1.frozen hB).trans hf) (hv1.put hp1 (Nat.lt_of_lt_of_le hb hpr.size) hn)).mono ?_
          unfold EscPost
          have hdl : ((92 :: d :: rest).drop (escS (d :: rest)).2).length = rest.length + 2 - (escS (d :: rest)).2 := by rw [List.length_drop]; rfl
          generalize (92 :: d :: rest).drop (escS (d :: rest)).2 = er at HE hdl ⊢
          generalize (escS (d :: rest)).1 = ev at HE ⊢
          generalize (escS (d :: rest)).2 = en at hel hdl
          obtain ⟨en1, en2⟩ := hel
          rw [List.length_cons] at hbnd hfu HLEN en2
          rintro e w2 ⟨v2, rfl, hv2, hp2⟩
          have hpp := hpp1.trans hp2
          have HV2 := Lib.hid (hv2.back hpp1 hb hn)
          have hown2 := own_put (own_put hown hp1 hB) hp2 hB
          go_wp2_with (at_builtin; refine wpList_append_own _ rfl _ _ 23 rfl W0.heap.size 5 i0 (.int .u8 0) 1 1 Tryd.underlying23 hi hy0 hy1 hy2 rfl (by decide) _ _ _ rfl (hown2.alloc _) ⟨w2.heap.size, 0, none⟩ 1 1 [.int .u8 (ev.toNat : Int)] rfl rfl ?c1x2 ?c2x2 ?c3x2 ?c4x2 ?c5x2 ?_)
          try case c1x2 =>
            intro j u hj
            cases j with
            | zero => simp at hj; subst hj; simp [Addr.add, World.cell?_alloc_at]
            | succ j => simp at hj
          case c2x2 => first | rfl | (intro u hu; simp at hu; subst hu; rfl)
          case c3x2 => unfold maxLen; omega
          case c4x2 => omega
          case c5x2 => (have := hpp.size; first | omega | (rw [World.size_alloc]; omega) | (simp; omega))
          intro v' w3 hown3 hgr3 _
          have hp3 : Put W0 ⟨B, 0, none⟩ v2 w3 := (hpp.alloc _).grow hgr3 (fun g hg => (hown2.lt g hg).1)
          rw [← bytes_snoc (acc ++ part) ev] at hown3
          have HG3 := Lib.hid hgr3
          clear hgr3
          go_wp2
          go_roundw
          case rel => exact ⟨v2, part ++ [ev], er, f, hp3, HV2.out, by rw [← List.append_assoc, List.length_append, List.length_append]; exact hown3, by rw [← List.append_assoc, List.length_append]; simp only [List.length_singleton]; omega, by omega, HE.out⟩
          case measure =>
            obtain ⟨o, cap, rfl, _⟩ := HV2.out
            rw [HLEN.out, lenAt_slice (hp3.cell hc)]; omega
      · have HE : Hid (quotS 34 f rest (part ++ [c]) = R) := by unfold Hid; rw [← HG.out]; exact (quotS_plain 34 f c rest part hq h92).symm
        clear HG
        obtain ⟨x, hx⟩ : ∃ x : Nat, c.toNat = x := ⟨_, rfl⟩
        have g1 : ((x : Int) == 34) = false := neI hx hq
        have g2 : ((x : Int) == 92) = false := neI hx h92
        rw [hx] at HNX
        clear hq h92
        go_wp2_with fail
        refine HNX.out.mono ?_
        rintro e w1 ⟨v1, rfl, hv1, hp1⟩
        have hpp := hpr.trans hp1
        have HV1 := Lib.hid (hv1.back hpr hb hn)
        have hown1 := own_put hown hp1 hB
        go_wp2_with (at_builtin; refine wpList_append_own _ rfl _ _ 23 rfl W0.heap.size 5 i0 (.int .u8 0) 1 1 Tryd.underlying23 hi hy0 hy1 hy2 rfl (by decide) _ _ _ rfl (hown1.alloc _) ⟨w1.heap.size, 0, none⟩ 1 1 [.int .u8 (x : Int)] rfl rfl ?c1x134 ?c2x134 ?c3x134 ?c4x134 ?c5x134 ?_)
        try case c1x134 =>
          intro j u hj
          cases j with
          | zero => simp at hj; subst hj; simp [Addr.add, World.cell?_alloc_at]
          | succ j => simp at hj
        case c2x134 => first | rfl | (intro u hu; simp at hu; subst hu; rfl)
        case c3x134 => unfold maxLen; omega
        case c4x134 => omega
        case c5x134 => (have := hpp.size; first | omega | (rw [World.size_alloc]; omega) | (simp; omega))
        intro v' w3 hown3 hgr3 _
        have hp3 : Put W0 ⟨B, 0, none⟩ v1 w3 := (hpp.alloc _).grow hgr3 (fun g hg => (hown1.lt g hg).1)
        rw [← hx, ← bytes_snoc (acc ++ part) c] at hown3
        have HG3 := Lib.hid hgr3
        clear hgr3
        go_wp2
        go_roundw
        case rel => exact ⟨v1, part ++ [c], rest, f, hp3, HV1.out, by rw [← List.append_assoc, List.length_append, List.length_append]; exact hown3, by rw [← List.append_assoc, List.length_append]; simp only [List.length_singleton]; omega, by omega, HE.out⟩
        case measure =>
          obtain ⟨o, cap, rfl, _⟩ := HV1.out
          rw [HLEN.out, lenAt_slice (hp3.cell hc)]; omega

set_option maxRecDepth 100000 in
set_option maxHeartbeats 4000000 in
theorem psingle_any (W0 : World) (B b : Nat) (v0 v u : Value) (acc rest : List UInt8) (f : Nat) (w : World) (hB : B < W0.heap.size) (hb : b < W0.heap.size) (hn : b ≠ B) (hc : W0.cell? ⟨B, 0, none⟩ = some v0) (hf : W0.frozen? ⟨B, 0, none⟩ = false) (hp : Put W0 ⟨B, 0, none⟩ v w) (hl : LeftV W0 b v rest) (hown : w.ownsRow W0.heap.size 5 1 u acc.length (Lib.byteCells acc)) (hbnd : acc.length + rest.length ≤ 1000000) (hfu : rest.length < f) :
    Calls Tryd.prog 114 #[.pointer (some ⟨B, 0, none⟩), u] w (QPost W0 B b acc (quotS 39 f rest [])) := by
  obtain ⟨i0, hi, hy0, hy1, hy2⟩ := info_parts info_u8
  obtain ⟨R, hR⟩ : ∃ R, quotS 39 f rest [] = R := ⟨_, rfl⟩
  have HR : Hid (quotS 39 f rest [] = R) := hR
  rw [hR]
  clear hR
  go_enter Tryd.func114, Tryd.ntmps114
  go_wp2
  go_loopw [1, 5] (fun u _ wr => ∃ (v : Value) (part rest : List UInt8) (f : Nat), Put W0 ⟨B, 0, none⟩ v wr ∧ LeftV W0 b v rest ∧ wr.ownsRow W0.heap.size 5 1 u (acc ++ part).length (Lib.byteCells (acc ++ part)) ∧ (acc ++ part).length + rest.length ≤ 1000000 ∧ rest.length < f ∧ Hid (quotS 39 f rest part = R)) (fun _ _ wr => lenAt wr ⟨B, 0, none⟩)
  case atStart => exact ⟨v, [], rest, f, hp, hl, by rw [List.append_nil]; exact hown, by rw [List.append_nil]; exact hbnd, hfu, HR.out⟩
  case round =>
    clear HR hp hl hown hbnd hfu
    obtain ⟨v, part, rest, f, hpr, hlr, hown, hbnd, hfu, HG⟩ := hrel
    obtain ⟨f, rfl⟩ : ∃ g, f = g + 1 := ⟨f - 1, by omega⟩
    have HLEN : Hid (lenAt wr ⟨B, 0, none⟩ = rest.length) := by
      obtain ⟨o, cap, rfl, _⟩ := hlr
      exact lenAt_slice (hpr.cell hc)
    match rest with
    | [] =>
      have HE : Hid (R = none) := by unfold Hid; rw [← HG.out]; exact quotS_nil 39 (f + 1) part
      have HNE := Lib.hid (pnext_end B b v wr (hpr.cell hc) (hlr.put hpr hb hn))
      clear HG
      go_wp2_with fail
      refine HNE.out.mono ?_
      rintro e w' ⟨rfl, rfl⟩
      go_wp2
      rw [HE.out]
      exact ⟨rfl, rfl, _, hpr⟩
    | c :: rest =>
      have HNX := Lib.hid (pnext_ok B b v c rest wr (Nat.lt_of_lt_of_le hB hpr.size) (Nat.lt_of_lt_of_le hb hpr.size) hn (hpr.cell hc) ((hpr.frozen hB).trans hf) (hlr.put hpr hb hn))
      rw [List.length_cons] at hbnd hfu HLEN
      by_cases hq : c = 39
      · subst hq
        have HE : Hid (R = some (part, rest)) := by unfold Hid; rw [← HG.out]; exact quotS_end 39 f rest part
        clear HG
        go_wp2_with fail
        refine HNX.out.mono ?_
        rintro e w1 ⟨v1, rfl, hv1, hp1⟩
        have hpp := hpr.trans hp1
        have HPP := Lib.hid hpp
        have HV1 := Lib.hid (hv1.back hpr hb hn)
        have hown1 := own_put hown hp1 hB
        match rest with
        | [] =>
          go_wp2_with fail
          refine (pended_end B b v1 _ w1 (hpp.cell hc) (HV1.out.put hpp hb hn)).mono ?_
          rintro e w2 ⟨rfl, rfl⟩
          go_wp2
          go_ret
          rw [HE.out]
          exact ⟨_, _, rfl, hown1, HV1.out, HPP.out⟩
        | d :: rest =>
          cases hbl : blankS d with
          | true =>
            go_wp2_with fail
            refine (pended_blank B b v1 _ d rest w1 (hpp.cell hc) (HV1.out.put hpp hb hn) hbl).mono ?_
            rintro e w2 ⟨rfl, rfl⟩
            go_wp2
            go_ret
            rw [HE.out]
            unfold QPost
            simp only [List.head?_cons, Option.any_some, hbl]
            exact ⟨_, _, rfl, hown1, HV1.out, HPP.out⟩
          | false =>
            go_wp2_with fail
            refine (pended_bad B b v1 _ d rest w1 (hpp.cell hc) (HV1.out.put hpp hb hn) hbl).mono ?_
            rintro e w2 ⟨rfl, rfl⟩
            go_wp2
            rw [HE.out]
            refine ⟨rfl, ?_⟩
            unfold QPost
            simp only [List.head?_cons, Option.any_some, hbl]
            exact ⟨rfl, _, HPP.out⟩
      by_cases h92 : c = 92
      · subst h92
        match rest with
        | [] =>
          have HE : Hid (quotS 39 f [] (part ++ [92]) = R) := by unfold Hid; rw [← HG.out]; exact (quotS_back f [] part (by simp)).symm
          clear HG
          rw [List.length_nil] at HLEN hbnd hfu
          go_wp2_with fail
          refine HNX.out.mono ?_
          rintro e w1 ⟨v1, rfl, hv1, hp1⟩
          have hpp := hpr.trans hp1
          have HV1 := Lib.hid (hv1.back hpr hb hn)
          have hown1 := own_put hown hp1 hB
          obtain ⟨o, cap, rfl, g1, g2, g3⟩ := hv1.put hp1 (Nat.lt_of_lt_of_le hb hpr.size) hn
          have hcv := hpp.cell hc
          have G3 := Lib.hid g3
          clear g3 hv1
          rw [List.length_nil] at hcv
          go_wp2_with (at_builtin; refine wpList_append_own _ rfl _ _ 23 rfl W0.heap.size 5 i0 (.int .u8 0) 1 1 Tryd.underlying23 hi hy0 hy1 hy2 rfl (by decide) _ _ _ rfl (hown1.alloc _) ⟨w1.heap.size, 0, none⟩ 1 1 [.int .u8 92] rfl rfl ?c1x5 ?c2x5 ?c3x5 ?c4x5 ?c5x5 ?_)
          try case c1x5 =>
            intro j u hj
            cases j with
            | zero => simp at hj; subst hj; simp [Addr.add, World.cell?_alloc_at]
            | succ j => simp at hj
          case c2x5 => first | rfl | (intro u hu; simp at hu; subst hu; rfl)
          case c3x5 => unfold maxLen; omega
          case c4x5 => omega
          case c5x5 => (have := hpp.size; first | omega | (rw [World.size_alloc]; omega) | (simp; omega))
          intro v' w3 hown3 hgr3 _
          have hp3 : Put W0 ⟨B, 0, none⟩ _ w3 := (hpp.alloc _).grow hgr3 (fun g hg => (hown1.lt g hg).1)
          rw [show (92 : Int) = ((92 : UInt8).toNat : Int) from rfl, ← bytes_snoc (acc ++ part) 92] at hown3
          have HG3 := Lib.hid hgr3
          clear hgr3
          go_wp2
          go_roundw
          case rel => exact ⟨_, part ++ [92], [], f, hp3, HV1.out, by rw [← List.append_assoc, List.length_append, List.length_append]; exact hown3, by rw [← List.append_assoc, List.length_append]; simp only [List.length_singleton, List.length_nil]; omega, by rw [List.length_nil]; omega, HE.out⟩
          case measure =>
            rw [HLEN.out, lenAt_slice (hp3.cell hc), List.length_nil]; omega
        | d :: rest =>
          by_cases h39 : d = 39
          · subst h39
            have HE : Hid (quotS 39 f rest (part ++ [39]) = R) := by unfold Hid; rw [← HG.out]; exact (quotS_tick f rest part).symm
            clear HG
            go_wp2_with fail
            refine HNX.out.mono ?_
            rintro e w1 ⟨v1, rfl, hv1, hp1⟩
            have hpp := hpr.trans hp1
            have hv1' := hv1.put hp1 (Nat.lt_of_lt_of_le hb hpr.size) hn
            have HNX2 := Lib.hid (pnext_ok B b v1 39 rest w1 (Nat.lt_of_lt_of_le hB hpp.size) (Nat.lt_of_lt_of_le hb hpp.size) hn (hpp.cell hc) ((hpp.frozen hB).trans hf) hv1')
            have HV1 := Lib.hid hv1
            obtain ⟨o, cap, rfl, g1, g2, g3⟩ := hv1'
            have hcell := g3 0 (by simp)
            have hcv := hpp.cell hc
            simp only [Nat.add_zero, List.getD_cons_zero] at hcell
            rw [List.length_cons] at g1 hcv hbnd hfu HLEN
            clear g3 hv1
            go_wp2_with fail
            refine HNX2.out.mono ?_
            rintro e w2 ⟨v2, rfl, hv2, hp2⟩
            have hpp2 := hpp.trans hp2
            have HV2 := Lib.hid (hv2.back hpp hb hn)
            have hown2 := own_put (own_put hown hp1 hB) hp2 hB
            go_wp2_with (at_builtin; refine wpList_append_own _ rfl _ _ 23 rfl W0.heap.size 5 i0 (.int .u8 0) 1 1 Tryd.underlying23 hi hy0 hy1 hy2 rfl (by decide) _ _ _ rfl (hown2.alloc _) ⟨w2.heap.size, 0, none⟩ 1 1 [.int .u8 39] rfl rfl ?c1x4 ?c2x4 ?c3x4 ?c4x4 ?c5x4 ?_)
            try case c1x4 =>
              intro j u hj
              cases j with
              | zero => simp at hj; subst hj; simp [Addr.add, World.cell?_alloc_at]
              | succ j => simp at hj
            case c2x4 => first | rfl | (intro u hu; simp at hu; subst hu; rfl)
            case c3x4 => unfold maxLen; omega
            case c4x4 => omega
            case c5x4 => (have := hpp2.size; first | omega | (rw [World.size_alloc]; omega) | (simp; omega))
            intro v' w3 hown3 hgr3 _
            have hp3 : Put W0 ⟨B, 0, none⟩ v2 w3 := (hpp2.alloc _).grow hgr3 (fun g hg => (hown2.lt g hg).1)
            rw [show (39 : Int) = ((39 : UInt8).toNat : Int) from rfl, ← bytes_snoc (acc ++ part) 39] at hown3
            have HG3 := Lib.hid hgr3
            clear hgr3
            go_wp2
            go_roundw
            case rel => exact ⟨v2, part ++ [39], rest, f, hp3, HV2.out, by rw [← List.append_assoc, List.length_append, List.length_append]; exact hown3, by rw [← List.append_assoc, List.length_append]; simp only [List.length_singleton]; omega, by omega, HE.out⟩
            case measure =>
              obtain ⟨o, cap, rfl, _⟩ := HV2.out
              rw [HLEN.out, lenAt_slice (hp3.cell hc)]; omega
          · have HE : Hid (quotS 39 f (d :: rest) (part ++ [92]) = R) := by unfold Hid; rw [← HG.out]; exact (quotS_back f (d :: rest) part (by simpa using h39)).symm
            clear HG
            have hgd : ((d.toNat : Int) == 39) = false := neI rfl h39
            go_wp2_with fail
            refine HNX.out.mono ?_
            rintro e w1 ⟨v1, rfl, hv1, hp1⟩
            have hpp := hpr.trans hp1
            have HV1 := Lib.hid (hv1.back hpr hb hn)
            have hown1 := own_put hown hp1 hB
            obtain ⟨o, cap, rfl, g1, g2, g3⟩ := hv1.put hp1 (Nat.lt_of_lt_of_le hb hpr.size) hn
            have hcell := g3 0 (by simp)
            have hcv := hpp.cell hc
            simp only [Nat.add_zero, List.getD_cons_zero] at hcell
            rw [List.length_cons] at g1 hcv
            clear g3 hv1
            go_wp2_with (at_builtin; refine wpList_append_own _ rfl _ _ 23 rfl W0.heap.size 5 i0 (.int .u8 0) 1 1 Tryd.underlying23 hi hy0 hy1 hy2 rfl (by decide) _ _ _ rfl (hown1.alloc _) ⟨w1.heap.size, 0, none⟩ 1 1 [.int .u8 92] rfl rfl ?c1x3 ?c2x3 ?c3x3 ?c4x3 ?c5x3 ?_)
            try case c1x3 =>
              intro j u hj
              cases j with
              | zero => simp at hj; subst hj; simp [Addr.add, World.cell?_alloc_at]
              | succ j => simp at hj
            case c2x3 => first | rfl | (intro u hu; simp at hu; subst hu; rfl)
            case c3x3 => unfold maxLen; omega
            case c4x3 => omega
            case c5x3 => (have := hpp.size; first | omega | (rw [World.size_alloc]; omega) | (simp; omega))
            intro v' w3 hown3 hgr3 _
            have hp3 : Put W0 ⟨B, 0, none⟩ _ w3 := (hpp.alloc _).grow hgr3 (fun g hg => (hown1.lt g hg).1)
            rw [show (92 : Int) = ((92 : UInt8).toNat : Int) from rfl, ← bytes_snoc (acc ++ part) 92] at hown3
            have HG3 := Lib.hid hgr3
            clear hgr3
            go_wp2
            go_roundw
            case rel => exact ⟨_, part ++ [92], d :: rest, f, hp3, HV1.out, by rw [← List.append_assoc, List.length_append, List.length_append]; exact hown3, by rw [← List.append_assoc, List.length_append]; simp only [List.length_singleton]; omega, by omega, HE.out⟩
            case measure =>
              rw [HLEN.out, lenAt_slice (hp3.cell hc)]; omega
      · have HE : Hid (quotS 39 f rest (part ++ [c]) = R) := by unfold Hid; rw [← HG.out]; exact (quotS_plain 39 f c rest part hq h92).symm
        clear HG
        obtain ⟨x, hx⟩ : ∃ x : Nat, c.toNat = x := ⟨_, rfl⟩
        have g1 : ((x : Int) == 39) = false := neI hx hq
        have g2 : ((x : Int) == 92) = false := neI hx h92
        rw [hx] at HNX
        clear hq h92
        go_wp2_with fail
        refine HNX.out.mono ?_
        rintro e w1 ⟨v1, rfl, hv1, hp1⟩
        have hpp := hpr.trans hp1
        have HV1 := Lib.hid (hv1.back hpr hb hn)
        have hown1 := own_put hown hp1 hB
        go_wp2_with (at_builtin; refine wpList_append_own _ rfl _ _ 23 rfl W0.heap.size 5 i0 (.int .u8 0) 1 1 Tryd.underlying23 hi hy0 hy1 hy2 rfl (by decide) _ _ _ rfl (hown1.alloc _) ⟨w1.heap.size, 0, none⟩ 1 1 [.int .u8 (x : Int)] rfl rfl ?c1x139 ?c2x139 ?c3x139 ?c4x139 ?c5x139 ?_)
        try case c1x139 =>
          intro j u hj
          cases j with
          | zero => simp at hj; subst hj; simp [Addr.add, World.cell?_alloc_at]
          | succ j => simp at hj
        case c2x139 => first | rfl | (intro u hu; simp at hu; subst hu; rfl)
        case c3x139 => unfold maxLen; omega
        case c4x139 => omega
        case c5x139 => (have := hpp.size; first | omega | (rw [World.size_alloc]; omega) | (simp; omega))
        intro v' w3 hown3 hgr3 _
        have hp3 : Put W0 ⟨B, 0, none⟩ v1 w3 := (hpp.alloc _).grow hgr3 (fun g hg => (hown1.lt g hg).1)
        rw [← hx, ← bytes_snoc (acc ++ part) c] at hown3
        have HG3 := Lib.hid hgr3
        clear hgr3
        go_wp2
        go_roundw
        case rel => exact ⟨v1, part ++ [c], rest, f, hp3, HV1.out, by rw [← List.append_assoc, List.length_append, List.length_append]; exact hown3, by rw [← List.append_assoc, List.length_append]; simp only [List.length_singleton]; omega, by omega, HE.out⟩
        case measure =>
          obtain ⟨o, cap, rfl, _⟩ := HV1.out
          rw [HLEN.out, lenAt_slice (hp3.cell hc)]; omega

end Go.Proofs.YtkaododohnncnaaDoor
