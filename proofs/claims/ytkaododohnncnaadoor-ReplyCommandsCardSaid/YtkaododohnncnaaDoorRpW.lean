/-
  The walk of package resp's word. Conditions: what is left of the bytes lies in memory as a slice that reads as them.
-/
import Derived.Test.YtkaododohnncnaaDoorRpQ
namespace Go.Proofs.YtkaododohnncnaaDoor
open Go.RowKit

/-- What word tells. -/
def WPost (w : World) (B b : Nat) (R : Option (List UInt8 × List UInt8)) (e : Ending) (w' : World) : Prop :=
  match R with
  | none => Thrown (perrB ++ unbL) e ∧ ∃ v', Put w ⟨B, 0, none⟩ v' w'
  | some (t, r) => ∃ u' v', e = .returned u' ∧ w'.ownsRow w.heap.size 5 1 u' t.length (Lib.byteCells t) ∧ LeftV w b v' r ∧ Put w ⟨B, 0, none⟩ v' w'

set_option maxRecDepth 100000 in
set_option maxHeartbeats 4000000 in
theorem pword_any (B b : Nat) (v : Value) (rest : List UInt8) (f : Nat) (w : World) (hB : B < w.heap.size) (hb : b < w.heap.size) (hn : b ≠ B) (hc : w.cell? ⟨B, 0, none⟩ = some v) (hf : w.frozen? ⟨B, 0, none⟩ = false) (hl : LeftV w b v rest) (hbnd : rest.length ≤ 1000000) (hfu : rest.length < f) :
    Calls Tryd.prog 94 #[.pointer (some ⟨B, 0, none⟩)] w (WPost w B b (wordGo f rest [])) := by
  obtain ⟨i0, hi, hy0, hy1, hy2⟩ := info_parts info_u8
  obtain ⟨R, hR⟩ : ∃ R, wordGo f rest [] = R := ⟨_, rfl⟩
  have HR : Hid (wordGo f rest [] = R) := hR
  rw [hR]
  clear hR
  go_enter Tryd.func94, Tryd.ntmps94
  go_wp2
  go_loopw [3, 4] (fun u _ wr => ∃ (v : Value) (acc rest : List UInt8) (f : Nat), Put w ⟨B, 0, none⟩ v wr ∧ LeftV w b v rest ∧ wr.ownsRow w.heap.size 5 1 u acc.length (Lib.byteCells acc) ∧ acc.length + rest.length ≤ 1000000 ∧ rest.length < f ∧ Hid (wordGo f rest acc = R)) (fun _ _ wr => lenAt wr ⟨B, 0, none⟩)
  case atStart => exact ⟨v, [], rest, f, Put.refl hc hB, hl, ⟨rfl, .inl ⟨rfl, rfl⟩⟩, by simpa using hbnd, hfu, HR.out⟩
  case round =>
    clear HR hl hbnd hfu
    obtain ⟨v1, acc, rest, f, hpr, hlr, hown, hbnd, hfu, HG⟩ := hrel
    obtain ⟨f, rfl⟩ : ∃ g, f = g + 1 := ⟨f - 1, by omega⟩
    have HLEN : Hid (lenAt wr ⟨B, 0, none⟩ = rest.length) := by
      obtain ⟨o, cap, rfl, _⟩ := hlr
      exact lenAt_slice (hpr.cell hc)
    have HLR := Lib.hid hlr
    have hcv := hpr.cell hc
    match rest with
    | [] =>
      have HE : Hid (R = some (acc, [])) := by unfold Hid; rw [← HG.out]; exact wordGo_nil f acc
      clear HG
      obtain ⟨o, cap, rfl, g1, g2, g3⟩ := hlr
      rw [List.length_nil] at hcv
      obtain ⟨A, c', rfl⟩ := ownsRow_form hown
      go_wp2
      go_ret
      rw [HE.out]
      exact ⟨_, _, rfl, hown, HLR.out, hpr⟩
    | c :: rest =>
      have HNX := Lib.hid (pnext_ok B b v1 c rest wr (Nat.lt_of_lt_of_le hB hpr.size) (Nat.lt_of_lt_of_le hb hpr.size) hn (hpr.cell hc) ((hpr.frozen hB).trans hf) (hlr.put hpr hb hn))
      obtain ⟨o, cap, rfl, g1, g2, g3⟩ := hlr
      have hcell := (g3.put hpr hb hn) 0 (by simp)
      simp only [Nat.add_zero, List.getD_cons_zero] at hcell
      rw [List.length_cons] at hbnd hfu HLEN g1 hcv
      clear g3
      cases hbl : blankS c with
      | true =>
        have HE : Hid (R = some (acc, c :: rest)) := by unfold Hid; rw [← HG.out]; exact wordGo_blank f c rest acc hbl
        clear HG
        obtain ⟨A, c', rfl⟩ := ownsRow_form hown
        go_wp2_with (go_at_call 111; refine (pblank_any _ _).mono ?_; rintro e w' ⟨rfl, rfl⟩; rw [hbl])
        go_ret
        rw [HE.out]
        exact ⟨_, _, rfl, hown, HLR.out, hpr⟩
      | false =>
        have HBK := Lib.hid (pblank_any c wr)
        rw [hbl] at HBK
        by_cases h34 : c = 34
        · subst h34
          clear hbl
          go_wp2_with fail
          refine HBK.out.mono ?_
          rintro e w' ⟨rfl, rfl⟩
          have HQ := Lib.hid (fun W1 v1 u1 => pdouble_any w B b v v1 u1 acc rest (rest.length + 1) W1 hB hb hn hc hf)
          have HB1 := Lib.hid (fun hq => wordGo_bad f 34 rest acc (Or.inl rfl) hq)
          have HB2 := Lib.hid (fun p r' hq hb => wordGo_behind f 34 rest acc p r' (Or.inl rfl) hq hb)
          have HB3 := Lib.hid (fun p r' hq hb => wordGo_on f 34 rest acc p r' (Or.inl rfl) hq hb)
          go_wp2_with fail
          refine HNX.out.mono ?_
          rintro e w1 ⟨v1, rfl, hv1, hp1⟩
          have hpp := hpr.trans hp1
          go_wp2_with fail
          refine (HQ.out w1 v1 _ hpp (hv1.back hpr hb hn) (own_put hown hp1 hB) (by omega) (by omega)).mono ?_
          rintro e w2 hpost
          cases hR1 : quotS 34 (rest.length + 1) rest [] with
          | none =>
            rw [hR1] at hpost
            obtain ⟨rfl, hput⟩ := hpost
            have HE : Hid (R = none) := by unfold Hid; rw [← HG.out]; exact HB1.out hR1
            clear HG HB1 HB2 HB3 HQ
            go_wp2
            rw [HE.out]
            exact ⟨rfl, rfl, hput⟩
          | some x =>
            obtain ⟨p, r'⟩ := x
            rw [hR1] at hpost
            unfold QPost at hpost
            cases hany : r'.head?.any (fun x => !blankS x) with
            | true =>
              simp only [hany] at hpost
              obtain ⟨rfl, hput⟩ := hpost
              have HE : Hid (R = none) := by unfold Hid; rw [← HG.out]; exact HB2.out p r' hR1 hany
              clear HG HB1 HB2 HB3 HQ
              go_wp2
              rw [HE.out]
              exact ⟨rfl, rfl, hput⟩
            | false =>
              simp only [hany] at hpost
              obtain ⟨u', v2, rfl, hown2, hv2, hp2⟩ := hpost
              have HE : Hid (R = some (acc ++ p, r')) := by
                unfold Hid; rw [← HG.out, HB3.out p r' hR1 hany]
                match r', hany with
                | [], _ => rw [show f = f - 1 + 1 from by omega]; exact wordGo_nil _ _
                | y :: r', hany => rw [show f = f - 1 + 1 from by omega]; exact wordGo_blank _ y r' _ (by simpa using hany)
              clear HG HB1 HB2 HB3 HQ hany
              go_wp2
              go_ret
              rw [HE.out]
              exact ⟨_, _, rfl, hown2, hv2, hp2⟩
        by_cases h39 : c = 39
        · subst h39
          clear hbl h34
          go_wp2_with fail
          refine HBK.out.mono ?_
          rintro e w' ⟨rfl, rfl⟩
          have HQ := Lib.hid (fun W1 v1 u1 => psingle_any w B b v v1 u1 acc rest (rest.length + 1) W1 hB hb hn hc hf)
          have HB1 := Lib.hid (fun hq => wordGo_bad f 39 rest acc (Or.inr rfl) hq)
          have HB2 := Lib.hid (fun p r' hq hb => wordGo_behind f 39 rest acc p r' (Or.inr rfl) hq hb)
          have HB3 := Lib.hid (fun p r' hq hb => wordGo_on f 39 rest acc p r' (Or.inr rfl) hq hb)
          go_wp2_with fail
          refine HNX.out.mono ?_
          rintro e w1 ⟨v1, rfl, hv1, hp1⟩
          have hpp := hpr.trans hp1
          go_wp2_with fail
          refine (HQ.out w1 v1 _ hpp (hv1.back hpr hb hn) (own_put hown hp1 hB) (by omega) (by omega)).mono ?_
          rintro e w2 hpost
          cases hR1 : quotS 39 (rest.length + 1) rest [] with
          | none =>
            rw [hR1] at hpost
            obtain ⟨rfl, hput⟩ := hpost
            have HE : Hid (R = none) := by unfold Hid; rw [← HG.out]; exact HB1.out hR1
            clear HG HB1 HB2 HB3 HQ
            go_wp2
            rw [HE.out]
            exact ⟨rfl, rfl, hput⟩
          | some x =>
            obtain ⟨p, r'⟩ := x
            rw [hR1] at hpost
            unfold QPost at hpost
            cases hany : r'.head?.any (fun x => !blankS x) with
            | true =>
              simp only [hany] at hpost
              obtain ⟨rfl, hput⟩ := hpost
              have HE : Hid (R = none) := by unfold Hid; rw [← HG.out]; exact HB2.out p r' hR1 hany
              clear HG HB1 HB2 HB3 HQ
              go_wp2
              rw [HE.out]
              exact ⟨rfl, rfl, hput⟩
            | false =>
              simp only [hany] at hpost
              obtain ⟨u', v2, rfl, hown2, hv2, hp2⟩ := hpost
              have HE : Hid (R = some (acc ++ p, r')) := by
                unfold Hid; rw [← HG.out, HB3.out p r' hR1 hany]
                match r', hany with
                | [], _ => rw [show f = f - 1 + 1 from by omega]; exact wordGo_nil _ _
                | y :: r', hany => rw [show f = f - 1 + 1 from by omega]; exact wordGo_blank _ y r' _ (by simpa using hany)
              clear HG HB1 HB2 HB3 HQ hany
              go_wp2
              go_ret
              rw [HE.out]
              exact ⟨_, _, rfl, hown2, hv2, hp2⟩
        have HE : Hid (wordGo f rest (acc ++ [c]) = R) := by unfold Hid; rw [← HG.out]; exact (wordGo_plain f c rest acc hbl h34 h39).symm
        clear HG
        go_wp2_with fail
        refine HBK.out.mono ?_
        rintro e w' ⟨rfl, rfl⟩
        obtain ⟨x, hx⟩ : ∃ x : Nat, c.toNat = x := ⟨_, rfl⟩
        have k1 : ((x : Int) == 34) = false := neI hx h34
        have k2 : ((x : Int) == 39) = false := neI hx h39
        rw [hx] at HNX
        clear hbl h34 h39
        go_wp2_with fail
        refine HNX.out.mono ?_
        rintro e w1 ⟨v1, rfl, hv1, hp1⟩
        have hpp := hpr.trans hp1
        have HV1 := Lib.hid (hv1.back hpr hb hn)
        have hown1 := own_put hown hp1 hB
        go_wp2_with (at_builtin; refine wpList_append_own _ rfl _ _ 23 rfl w.heap.size 5 i0 (.int .u8 0) 1 1 Tryd.underlying23 hi hy0 hy1 hy2 rfl (by decide) _ _ _ rfl (hown1.alloc _) ⟨w1.heap.size, 0, none⟩ 1 1 [.int .u8 (x : Int)] rfl rfl ?c1x1 ?c2x1 ?c3x1 ?c4x1 ?c5x1 ?_)
        try case c1x1 =>
          intro j u hj
          cases j with
          | zero => simp at hj; subst hj; simp [Addr.add, World.cell?_alloc_at]
          | succ j => simp at hj
        case c2x1 => first | rfl | (intro u hu; simp at hu; subst hu; rfl)
        case c3x1 => unfold maxLen; omega
        case c4x1 => omega
        case c5x1 => (have := hpp.size; first | omega | (rw [World.size_alloc]; omega) | (simp; omega))
        intro v' w3 hown3 hgr3 _
        have hp3 : Put w ⟨B, 0, none⟩ v1 w3 := (hpp.alloc _).grow hgr3 (fun g hg => (hown1.lt g hg).1)
        rw [← hx, ← bytes_snoc (acc) c] at hown3
        have HG3 := Lib.hid hgr3
        clear hgr3
        go_wp2
        go_roundw
        case rel => exact ⟨v1, acc ++ [c], rest, f, hp3, HV1.out, by rw [List.length_append]; exact hown3, by rw [List.length_append]; simp only [List.length_singleton]; omega, by omega, HE.out⟩
        case measure =>
          obtain ⟨o, cap, rfl, _⟩ := HV1.out
          rw [HLEN.out, lenAt_slice (hp3.cell hc)]; omega

end Go.Proofs.YtkaododohnncnaaDoor
