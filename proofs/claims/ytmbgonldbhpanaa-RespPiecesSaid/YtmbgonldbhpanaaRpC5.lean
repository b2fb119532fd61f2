/-
  The walk of the statement RespPieces: it answers true. Conditions: the bytes lie in memory as slices that read as them.
-/
import Derived.Test.YtmbgonldbhpanaaRpP
import Derived.Test.YtmbgonldbhpanaaRpC3
namespace Go.Proofs.Ytmbgonldbhpanaa
open Go.RowKit

/-- How long a slice is. -/
def lenV : Value → Nat | .slice _ m _ => m | _ => 0

set_option maxRecDepth 100000 in
set_option maxHeartbeats 8000000 in
theorem respPieces_some (b o cap cb co cc : Nat) (CA : Option Addr) (l cl : List UInt8) (w : World) (hl : l.length ≤ cap) (hcap : cap ≤ 9223372036854775807) (hb : b < w.heap.size) (hc : BytesAt w b o l) (hcb : cl ≠ [] → cb < w.heap.size) (hcu : BytesAt w cb co cl) (hca : cl ≠ [] → CA = some ⟨cb, co, none⟩) :
    Calls Try.prog 5 #[.slice (some ⟨b, o, none⟩) l.length cap, .slice CA cl.length cc] w fun e w' => e = .returned (.bool true) ∧ Below w.heap.size w w' := by
  obtain ⟨i0, hi, hy0, hy1, hy2⟩ := info_parts info_sl
  have HCUT := Lib.hid (fun W => cut_any b o cap l W hl hcap)
  have hx : (l.take 300000).length = min 300000 l.length := List.length_take
  have hct := hc.take 300000
  have HCT := Lib.hid hct
  have HCU := Lib.hid hcu
  have HCB := Lib.hid hcb
  have HCA := Lib.hid hca
  obtain ⟨x, hxx⟩ : ∃ x, l.take 300000 = x := ⟨_, rfl⟩
  rw [hxx] at HCUT HCT hx
  have hx1 : x.length ≤ cap := by omega
  have hx2 : x.length ≤ 300000 := by omega
  have HSP := Lib.hid (fun W (hb' : Below w.heap.size w W) => psplit_any b o cap x W hx1 hcap (by omega) (Nat.lt_of_lt_of_le hb hb'.size) (HCT.out.below hb' hb))
  have hrows := splitS_rows x
  obtain ⟨S, hS⟩ : ∃ S, splitS x = S := ⟨_, rfl⟩
  obtain ⟨L, N0, F⟩ := S
  rw [hS] at HSP hrows
  have HS := Lib.hid hS
  have HROW := Lib.hid hrows
  have HAW := Lib.hid (awake_any w)
  clear hc hct hx hS hrows hxx hl hcu hcb hca
  go_enter Try.func5, Try.ntmps5
  go_wp2_with fail
  refine HAW.out.mono ?_
  rintro e w0 ⟨rfl, hb0⟩
  have HB0 := Lib.hid hb0
  clear hb0 HAW
  go_wp2_with fail
  refine (HCUT.out w0).mono ?_
  rintro e w' ⟨rfl, rfl⟩
  go_wp2_with fail
  refine (HSP.out _ HB0.out).mono ?_
  rintro e w1 ⟨hb1, vl, rfl, hvl⟩
  have HB1 := Lib.hid (HB0.out.trans (hb1.mono HB0.out.size))
  have HVL := Lib.hid hvl
  obtain ⟨A1, c1, rfl⟩ := hvl.len
  clear hvl hb1 HCUT HSP
  dsimp only
  go_wp2_with fail
  refine (pnew_any w1).mono ?_
  rintro e w2 ⟨rfl, hw2⟩
  have R2 := Lib.hid (rds_new w1)
  rw [← hw2] at R2
  have hb2 : Below w1.heap.size w1 w2 := by rw [hw2]; exact (Below.refl _ _).alloc (Nat.le_refl _) _
  obtain ⟨G, hG⟩ : ∃ G, w1.heap.size = G := ⟨_, rfl⟩
  have hwG : w.heap.size ≤ G := by rw [← hG]; exact HB1.out.size
  rw [hG] at R2 hb2 ⊢
  have HBG0 := Lib.hid hb2
  have HW1 := Lib.hid hG
  clear hw2 hb2 hG
  go_wp2
  go_loopw [0, 9, 10, 11, 12, 13, 14, 15] (fun bv vg tv iv _ _ _ _ wr => ∃ (fed rest : List UInt8) (o' cap' i : Nat) (gotL : List (List (List UInt8))) (kv : Value) (kept T : List UInt8) (done : Bool), x = fed ++ rest ∧ bv = .slice (some ⟨b, o', none⟩) rest.length cap' ∧ rest.length ≤ cap' ∧ cap' ≤ 9223372036854775807 ∧ BytesAt wr b o' rest ∧ tv = .string ⟨T.toArray⟩ ∧ iv = .int .i64 i ∧ i ≤ 201 ∧ (i = 201 → rest = []) ∧ OwnsReqs wr (G + 1) vg gotL ∧ RdS wr G kv kept done ∧ Below G w1 wr ∧ Hid ((T = [] ∧ done = false ∧ (splitS fed).2.2 = [] ∧ (splitS fed).1 = gotL ∧ kept = restS fed) ∨ (T ≠ [] ∧ T = F ∧ gotL = L))) (fun bv _ _ iv _ _ _ _ _ => lenV bv + (201 - (intOf iv).toNat))
  case atStart => exact ⟨[], x, o, cap, 0, [], _, [], [], false, rfl, rfl, hx1, hcap, HCT.out.below ((HB1.out).trans (HBG0.out.mono hwG)) hb, rfl, rfl, by omega, by omega, ⟨[], rfl, ⟨rfl, .inl ⟨rfl, rfl⟩⟩, fun i u r h => by cases h⟩, R2.out, HBG0.out, Or.inl ⟨rfl, rfl, by rw [split_nil], by rw [split_nil], by unfold restS; rw [split_nil]; rfl⟩⟩
  case round =>
    obtain ⟨fed, rest, o', cap', i, gotL, kv, kept, T, done, hxe, rfl, hrc, hcx, hby, rfl, rfl, hi1, hi2, hgot, hrd, hbg, HST⟩ := hrel
    have HGOT := Lib.hid hgot
    rcases HST.out with ⟨rfl, rfl, h1, h2, h3⟩ | ⟨hT, hTF, hgL⟩
    · by_cases hr0 : rest = []
      · subst hr0
        rw [List.append_nil] at hxe
        subst hxe
        rw [HS.out] at h1 h2
        dsimp only at h1 h2
        subst h1
        subst h2
        have HSA := Lib.hid (rsame_own wr (G + 1) w0.heap.size _ _ L hgot (HVL.out.below (by rw [HW1.out]; exact hbg)) (by have := HROW.out.1; omega) (fun r hr => (HROW.out.2 r hr).2))
        have HFI := Lib.hid (fun q => below_drewN (HB1.out.trans (hbg.mono hwG)) q)
        obtain ⟨Ag, cg, rfl⟩ := hgot.len
        clear hgot hrd hbg hby HST
        go_wp2_with fail
        refine HSA.out.mono ?_
        rintro e w3 ⟨rfl, q, rfl⟩
        go_wp2
        go_ret
        exact ⟨rfl, HFI.out q⟩
      · have HKE := Lib.hid h3
        have HGL := Lib.hid h2
        have HNF := Lib.hid h1
        have HXE := Lib.hid hxe
        have hr0' : 0 < rest.length := List.length_pos_iff.2 hr0
        have hrest : rest.length ≤ 300000 := by have := congrArg List.length hxe; rw [List.length_append] at this; omega
        have hkept : kept.length ≤ 300000 := by
          have h := congrArg List.length hxe
          rw [List.length_append] at h
          rw [h3]
          unfold restS
          rw [if_pos h1, List.length_drop]
          omega
        have hi200 : i ≤ 200 := by
          rcases Nat.lt_or_ge i 201 with h | h
          · omega
          · exact absurd (hi2 (by omega)) hr0
        have hbG : b < G := by omega
        have hbg' := Lib.hid hbg
        have HRD := Lib.hid hrd
        have HBY := Lib.hid hby
        have HFDn := Lib.hid (fun (n : Nat) (hn : n ≤ rest.length) => (show Calls Try.prog 15 #[.pointer (some ⟨G, 0, none⟩), .slice (some ⟨b, o', none⟩) n cap'] wr (FeedPost wr G kv (kept ++ rest.take n)) from by
          have h := pfeed_some G kv kept b o' cap' (rest.take n) wr HRD.out (HBY.out.take n) (by rw [List.length_take]; omega)
          rwa [show (rest.take n).length = n from by rw [List.length_take]; omega] at h))
        clear hgot hbg hrd hby HST h1 h2 h3 hxe
        rcases Nat.lt_or_ge i cl.length with hlt | hge
        · obtain rfl : CA = some ⟨cb, co, none⟩ := HCA.out (fun e => by rw [e] at hlt; simp at hlt)
          rcases Nat.lt_or_ge i 200 with h200 | h200
          · have hcbw : cb < w.heap.size := HCB.out (fun e => by rw [e] at hlt; simp at hlt)
            have hcell := (HCU.out.below (HB1.out.trans (hbg'.out.mono hwG)) hcbw) i hlt
            obtain ⟨m, hm⟩ : ∃ m : Nat, (cl.getD i 0).toNat = m := ⟨_, rfl⟩
            have hm2 : m < 256 := by rw [← hm]; exact UInt8.toNat_lt _
            rw [hm] at hcell
            clear hm
            rcases Nat.lt_or_ge m rest.length with hmr | hmr
            · have HPL := Lib.hid (show (rest.take m).length = m from by rw [List.length_take]; omega)
              have HFD := Lib.hid (HFDn.out m (by omega))
              clear HFDn
              rcases Nat.lt_or_ge m cap' with hnc | hnc
              · go_wp2_with fail
                refine HFD.out.mono ?_
                rintro e w3 ⟨hm, ⟨v2, rfl, hv2⟩, kv', hr', hk'⟩
                have hz3 := hm.size
                have hlowG : Below G wr w3 := hm.low (Nat.le_refl _) (fun q hq => by have := (own_lt HRD.out.own hq).1; omega)
                have hgot1 := HGOT.out.modu HRD.out.own hm (Nat.lt_succ_self G)
                have hv2' := hv2.base (base' := G + 1) (by have := HRD.out.lt; omega)
                obtain ⟨ys, y1, y2, y3⟩ := hgot1
                obtain ⟨us, u1, u2, u3⟩ := hv2'
                have hfed := split_more fed (rest.take m) HNF.out
                rw [← HKE.out, HGL.out] at hfed
                have hrw := (splitS_rows (fed ++ rest.take m)).1
                obtain ⟨S2, hS2⟩ : ∃ S, splitS (kept ++ rest.take m) = S := ⟨_, rfl⟩
                obtain ⟨A2, n2, F2⟩ := S2
                rw [hS2] at hfed hr' u1 u2 u3 ⊢
                dsimp only at hfed hr' u1 u2 u3 ⊢
                obtain ⟨hfed, hfed2⟩ := hfed
                rw [hfed] at hrw
                dsimp only at hrw
                rw [List.length_append, List.length_append, HPL.out] at hrw
                have hxl := congrArg List.length HXE.out
                rw [List.length_append] at hxl
                have hsum : gotL.length + A2.length ≤ 300000 := by omega
                obtain ⟨Ag, cg, rfl⟩ := ownsRow_form y2
                obtain ⟨Av, cv, rfl⟩ := ownsRow_form u2
                have hNEXT : Hid ((F2 = [] ∧ decide (F2 ≠ []) = false ∧ (splitS (fed ++ rest.take m)).2.2 = [] ∧ (splitS (fed ++ rest.take m)).1 = gotL ++ A2 ∧ restS (kept ++ rest.take m) = restS (fed ++ rest.take m)) ∨ (F2 ≠ [] ∧ F2 = F ∧ gotL ++ A2 = L)) := by
                  by_cases hF2 : F2 = []
                  · refine Or.inl ⟨hF2, by simp [hF2], by rw [hfed]; exact hF2, by rw [hfed], hfed2.symm⟩
                  · refine Or.inr ⟨hF2, ?_⟩
                    have hx' := split_fault (fed ++ rest.take m) (rest.drop m) (by rw [hfed]; exact hF2)
                    rw [List.append_assoc, List.take_append_drop, ← HXE.out, HS.out, hfed] at hx'
                    injection hx' with e1 e2
                    injection e2 with e2 e3
                    exact ⟨e3.symm, e1.symm⟩
                have HNX := Lib.hid hNEXT
                have HRN := Lib.hid hr'
                have HBN := Lib.hid (hbg'.out.trans hlowG)
                have HBY3 := Lib.hid (HBY.out.below hlowG hbG)
                have Y2 := Lib.hid y2
                have U2 := Lib.hid u2
                have YY := Lib.hid (And.intro y1 y3)
                have UU := Lib.hid (And.intro u1 u3)
                clear hv2 hm hr' hk' hlowG hfed hfed2 hS2 hrw hxl y1 y3 u1 u3 HFD hNEXT hz3
                rcases U2.out.2 with ⟨hnil, hz⟩ | ⟨g2, cap2, cur2, hsl, hg2, hh2, hcap2, hmx2, _⟩
                · simp only [Value.slice.injEq] at hnil
                  obtain ⟨rfl, hz', rfl⟩ := hnil
                  have hA2 : A2 = [] := List.length_eq_zero_iff.1 hz'
                  subst hA2
                  simp only [List.length_nil]
                  go_wp2_with (at_builtin; refine wpList_append_own_none rfl _ _ 24 rfl (G + 1) 55 i0 1 Try.underlying24 hi _ _ _ rfl Y2.out rfl ?_)
                  go_roundw
                  case rel => exact ⟨fed ++ rest.take m, rest.drop m, _, _, i + 1, gotL ++ [], kv', _, F2, _, by rw [List.append_assoc, List.take_append_drop]; exact HXE.out, by rw [List.length_drop], by rw [List.length_drop]; omega, by omega, HBY3.out.cut m, rfl, by go_num, by omega, fun h => by apply List.drop_eq_nil_of_le; omega, by rw [List.append_nil]; exact ⟨ys, YY.out.1, Y2.out, YY.out.2⟩, HRN.out, HBN.out, HNX.out⟩
                  case measure => simp only [lenV, intOf]; omega
                · simp only [Value.slice.injEq, true_and] at hsl
                  obtain ⟨rfl, rfl⟩ := hsl
                  go_wp2_with (at_builtin; refine wpList_append_own _ rfl _ _ 24 rfl (G + 1) 55 i0 (.slice none 0 0) 1 24 Try.underlying24 hi hy0 hy1 hy2 rfl (by decide) _ _ _ rfl Y2.out ⟨g2, 0, none⟩ A2.length cv us rfl ?c1x1a ?c2x1a ?c3x1a ?c4x1a ?c5x1a ?c6x1a ?_)
                  case c1x1a => rw [UU.out.1, Nat.mul_one]
                  case c2x1a => intro j u hj; exact U2.out.cells (g := g2) rfl j u hj
                  case c3x1a => exact fun u hu => one_row UU.out.1 UU.out.2 u hu
                  case c4x1a => unfold maxLen; omega
                  case c5x1a => omega
                  case c6x1a => have := HRN.out.lt; omega
                  intro vg' w4 hown4 hgr4 _
                  have HJ := Lib.hid (OwnsReqs.join YY.out.1 UU.out.1 YY.out.2 UU.out.2 Y2.out hown4 hgr4)
                  have hgrG : Below G w3 w4 := (Below.refl G w3).grown hgr4 (by have := HRN.out.lt; omega) (fun q hq => by have := (own_lt Y2.out hq).1; omega)
                  have HR4 := Lib.hid (RdS.grown HRN.out hgr4 Y2.out)
                  have HB4 := Lib.hid (HBN.out.trans hgrG)
                  have HBY4 := Lib.hid (HBY3.out.below hgrG hbG)
                  obtain ⟨Aq, cq, rfl⟩ := ownsRow_form hown4
                  clear hown4 hgr4 hgrG
                  go_wp2
                  go_roundw
                  case rel => exact ⟨fed ++ rest.take m, rest.drop m, _, _, i + 1, gotL ++ A2, kv', _, F2, _, by rw [List.append_assoc, List.take_append_drop]; exact HXE.out, by rw [List.length_drop], by rw [List.length_drop]; omega, by omega, HBY4.out.cut m, rfl, by go_num, by omega, fun h => by apply List.drop_eq_nil_of_le; omega, HJ.out, HR4.out, HB4.out, HNX.out⟩
                  case measure => simp only [lenV, intOf]; omega
              · exfalso
                omega
            · have HPL := Lib.hid (show (rest.take rest.length).length = rest.length from by rw [List.length_take]; omega)
              have HFD := Lib.hid (HFDn.out rest.length (by omega))
              clear HFDn
              rcases Nat.lt_or_ge rest.length cap' with hnc | hnc
              · go_wp2_with fail
                refine HFD.out.mono ?_
                rintro e w3 ⟨hm, ⟨v2, rfl, hv2⟩, kv', hr', hk'⟩
                have hz3 := hm.size
                have hlowG : Below G wr w3 := hm.low (Nat.le_refl _) (fun q hq => by have := (own_lt HRD.out.own hq).1; omega)
                have hgot1 := HGOT.out.modu HRD.out.own hm (Nat.lt_succ_self G)
                have hv2' := hv2.base (base' := G + 1) (by have := HRD.out.lt; omega)
                obtain ⟨ys, y1, y2, y3⟩ := hgot1
                obtain ⟨us, u1, u2, u3⟩ := hv2'
                have hfed := split_more fed (rest.take rest.length) HNF.out
                rw [← HKE.out, HGL.out] at hfed
                have hrw := (splitS_rows (fed ++ rest.take rest.length)).1
                obtain ⟨S2, hS2⟩ : ∃ S, splitS (kept ++ rest.take rest.length) = S := ⟨_, rfl⟩
                obtain ⟨A2, n2, F2⟩ := S2
                rw [hS2] at hfed hr' u1 u2 u3 ⊢
                dsimp only at hfed hr' u1 u2 u3 ⊢
                obtain ⟨hfed, hfed2⟩ := hfed
                rw [hfed] at hrw
                dsimp only at hrw
                rw [List.length_append, List.length_append, HPL.out] at hrw
                have hxl := congrArg List.length HXE.out
                rw [List.length_append] at hxl
                have hsum : gotL.length + A2.length ≤ 300000 := by omega
                obtain ⟨Ag, cg, rfl⟩ := ownsRow_form y2
                obtain ⟨Av, cv, rfl⟩ := ownsRow_form u2
                have hNEXT : Hid ((F2 = [] ∧ decide (F2 ≠ []) = false ∧ (splitS (fed ++ rest.take rest.length)).2.2 = [] ∧ (splitS (fed ++ rest.take rest.length)).1 = gotL ++ A2 ∧ restS (kept ++ rest.take rest.length) = restS (fed ++ rest.take rest.length)) ∨ (F2 ≠ [] ∧ F2 = F ∧ gotL ++ A2 = L)) := by
                  by_cases hF2 : F2 = []
                  · refine Or.inl ⟨hF2, by simp [hF2], by rw [hfed]; exact hF2, by rw [hfed], hfed2.symm⟩
                  · refine Or.inr ⟨hF2, ?_⟩
                    have hx' := split_fault (fed ++ rest.take rest.length) (rest.drop rest.length) (by rw [hfed]; exact hF2)
                    rw [List.append_assoc, List.take_append_drop, ← HXE.out, HS.out, hfed] at hx'
                    injection hx' with e1 e2
                    injection e2 with e2 e3
                    exact ⟨e3.symm, e1.symm⟩
                have HNX := Lib.hid hNEXT
                have HRN := Lib.hid hr'
                have HBN := Lib.hid (hbg'.out.trans hlowG)
                have HBY3 := Lib.hid (HBY.out.below hlowG hbG)
                have Y2 := Lib.hid y2
                have U2 := Lib.hid u2
                have YY := Lib.hid (And.intro y1 y3)
                have UU := Lib.hid (And.intro u1 u3)
                clear hv2 hm hr' hk' hlowG hfed hfed2 hS2 hrw hxl y1 y3 u1 u3 HFD hNEXT hz3
                rcases U2.out.2 with ⟨hnil, hz⟩ | ⟨g2, cap2, cur2, hsl, hg2, hh2, hcap2, hmx2, _⟩
                · simp only [Value.slice.injEq] at hnil
                  obtain ⟨rfl, hz', rfl⟩ := hnil
                  have hA2 : A2 = [] := List.length_eq_zero_iff.1 hz'
                  subst hA2
                  simp only [List.length_nil]
                  go_wp2_with (at_builtin; refine wpList_append_own_none rfl _ _ 24 rfl (G + 1) 55 i0 1 Try.underlying24 hi _ _ _ rfl Y2.out rfl ?_)
                  go_roundw
                  case rel => exact ⟨fed ++ rest.take rest.length, rest.drop rest.length, _, _, i + 1, gotL ++ [], kv', _, F2, _, by rw [List.append_assoc, List.take_append_drop]; exact HXE.out, by rw [List.length_drop, show rest.length - rest.length = 0 from by omega], by rw [List.length_drop]; omega, by omega, HBY3.out.cut rest.length, rfl, by go_num, by omega, fun h => by apply List.drop_eq_nil_of_le; omega, by rw [List.append_nil]; exact ⟨ys, YY.out.1, Y2.out, YY.out.2⟩, HRN.out, HBN.out, HNX.out⟩
                  case measure => simp only [lenV, intOf]; omega
                · simp only [Value.slice.injEq, true_and] at hsl
                  obtain ⟨rfl, rfl⟩ := hsl
                  go_wp2_with (at_builtin; refine wpList_append_own _ rfl _ _ 24 rfl (G + 1) 55 i0 (.slice none 0 0) 1 24 Try.underlying24 hi hy0 hy1 hy2 rfl (by decide) _ _ _ rfl Y2.out ⟨g2, 0, none⟩ A2.length cv us rfl ?c1x2a ?c2x2a ?c3x2a ?c4x2a ?c5x2a ?c6x2a ?_)
                  case c1x2a => rw [UU.out.1, Nat.mul_one]
                  case c2x2a => intro j u hj; exact U2.out.cells (g := g2) rfl j u hj
                  case c3x2a => exact fun u hu => one_row UU.out.1 UU.out.2 u hu
                  case c4x2a => unfold maxLen; omega
                  case c5x2a => omega
                  case c6x2a => have := HRN.out.lt; omega
                  intro vg' w4 hown4 hgr4 _
                  have HJ := Lib.hid (OwnsReqs.join YY.out.1 UU.out.1 YY.out.2 UU.out.2 Y2.out hown4 hgr4)
                  have hgrG : Below G w3 w4 := (Below.refl G w3).grown hgr4 (by have := HRN.out.lt; omega) (fun q hq => by have := (own_lt Y2.out hq).1; omega)
                  have HR4 := Lib.hid (RdS.grown HRN.out hgr4 Y2.out)
                  have HB4 := Lib.hid (HBN.out.trans hgrG)
                  have HBY4 := Lib.hid (HBY3.out.below hgrG hbG)
                  obtain ⟨Aq, cq, rfl⟩ := ownsRow_form hown4
                  clear hown4 hgr4 hgrG
                  go_wp2
                  go_roundw
                  case rel => exact ⟨fed ++ rest.take rest.length, rest.drop rest.length, _, _, i + 1, gotL ++ A2, kv', _, F2, _, by rw [List.append_assoc, List.take_append_drop]; exact HXE.out, by rw [List.length_drop, show rest.length - rest.length = 0 from by omega], by rw [List.length_drop]; omega, by omega, HBY4.out.cut rest.length, rfl, by go_num, by omega, fun h => by apply List.drop_eq_nil_of_le; omega, HJ.out, HR4.out, HB4.out, HNX.out⟩
                  case measure => simp only [lenV, intOf]; omega
              · obtain rfl : cap' = rest.length := by omega
                go_wp2_with fail
                refine HFD.out.mono ?_
                rintro e w3 ⟨hm, ⟨v2, rfl, hv2⟩, kv', hr', hk'⟩
                have hz3 := hm.size
                have hlowG : Below G wr w3 := hm.low (Nat.le_refl _) (fun q hq => by have := (own_lt HRD.out.own hq).1; omega)
                have hgot1 := HGOT.out.modu HRD.out.own hm (Nat.lt_succ_self G)
                have hv2' := hv2.base (base' := G + 1) (by have := HRD.out.lt; omega)
                obtain ⟨ys, y1, y2, y3⟩ := hgot1
                obtain ⟨us, u1, u2, u3⟩ := hv2'
                have hfed := split_more fed (rest.take rest.length) HNF.out
                rw [← HKE.out, HGL.out] at hfed
                have hrw := (splitS_rows (fed ++ rest.take rest.length)).1
                obtain ⟨S2, hS2⟩ : ∃ S, splitS (kept ++ rest.take rest.length) = S := ⟨_, rfl⟩
                obtain ⟨A2, n2, F2⟩ := S2
                rw [hS2] at hfed hr' u1 u2 u3 ⊢
                dsimp only at hfed hr' u1 u2 u3 ⊢
                obtain ⟨hfed, hfed2⟩ := hfed
                rw [hfed] at hrw
                dsimp only at hrw
                rw [List.length_append, List.length_append, HPL.out] at hrw
                have hxl := congrArg List.length HXE.out
                rw [List.length_append] at hxl
                have hsum : gotL.length + A2.length ≤ 300000 := by omega
                obtain ⟨Ag, cg, rfl⟩ := ownsRow_form y2
                obtain ⟨Av, cv, rfl⟩ := ownsRow_form u2
                have hNEXT : Hid ((F2 = [] ∧ decide (F2 ≠ []) = false ∧ (splitS (fed ++ rest.take rest.length)).2.2 = [] ∧ (splitS (fed ++ rest.take rest.length)).1 = gotL ++ A2 ∧ restS (kept ++ rest.take rest.length) = restS (fed ++ rest.take rest.length)) ∨ (F2 ≠ [] ∧ F2 = F ∧ gotL ++ A2 = L)) := by
                  by_cases hF2 : F2 = []
                  · refine Or.inl ⟨hF2, by simp [hF2], by rw [hfed]; exact hF2, by rw [hfed], hfed2.symm⟩
                  · refine Or.inr ⟨hF2, ?_⟩
                    have hx' := split_fault (fed ++ rest.take rest.length) (rest.drop rest.length) (by rw [hfed]; exact hF2)
                    rw [List.append_assoc, List.take_append_drop, ← HXE.out, HS.out, hfed] at hx'
                    injection hx' with e1 e2
                    injection e2 with e2 e3
                    exact ⟨e3.symm, e1.symm⟩
                have HNX := Lib.hid hNEXT
                have HRN := Lib.hid hr'
                have HBN := Lib.hid (hbg'.out.trans hlowG)
                have HBY3 := Lib.hid (HBY.out.below hlowG hbG)
                have Y2 := Lib.hid y2
                have U2 := Lib.hid u2
                have YY := Lib.hid (And.intro y1 y3)
                have UU := Lib.hid (And.intro u1 u3)
                clear hv2 hm hr' hk' hlowG hfed hfed2 hS2 hrw hxl y1 y3 u1 u3 HFD hNEXT hz3
                rcases U2.out.2 with ⟨hnil, hz⟩ | ⟨g2, cap2, cur2, hsl, hg2, hh2, hcap2, hmx2, _⟩
                · simp only [Value.slice.injEq] at hnil
                  obtain ⟨rfl, hz', rfl⟩ := hnil
                  have hA2 : A2 = [] := List.length_eq_zero_iff.1 hz'
                  subst hA2
                  simp only [List.length_nil]
                  go_wp2_with (at_builtin; refine wpList_append_own_none rfl _ _ 24 rfl (G + 1) 55 i0 1 Try.underlying24 hi _ _ _ rfl Y2.out rfl ?_)
                  go_roundw
                  case rel => exact ⟨fed ++ rest.take rest.length, rest.drop rest.length, _, _, i + 1, gotL ++ [], kv', _, F2, _, by rw [List.append_assoc, List.take_append_drop]; exact HXE.out, by rw [List.length_drop, show rest.length - rest.length = 0 from by omega], by rw [List.length_drop]; omega, by omega, (by rw [List.drop_eq_nil_of_le (by omega)]; exact bytes_nil _ _ _), rfl, by go_num, by omega, fun h => by apply List.drop_eq_nil_of_le; omega, by rw [List.append_nil]; exact ⟨ys, YY.out.1, Y2.out, YY.out.2⟩, HRN.out, HBN.out, HNX.out⟩
                  case measure => simp only [lenV, intOf]; omega
                · simp only [Value.slice.injEq, true_and] at hsl
                  obtain ⟨rfl, rfl⟩ := hsl
                  go_wp2_with (at_builtin; refine wpList_append_own _ rfl _ _ 24 rfl (G + 1) 55 i0 (.slice none 0 0) 1 24 Try.underlying24 hi hy0 hy1 hy2 rfl (by decide) _ _ _ rfl Y2.out ⟨g2, 0, none⟩ A2.length cv us rfl ?c1x2b ?c2x2b ?c3x2b ?c4x2b ?c5x2b ?c6x2b ?_)
                  case c1x2b => rw [UU.out.1, Nat.mul_one]
                  case c2x2b => intro j u hj; exact U2.out.cells (g := g2) rfl j u hj
                  case c3x2b => exact fun u hu => one_row UU.out.1 UU.out.2 u hu
                  case c4x2b => unfold maxLen; omega
                  case c5x2b => omega
                  case c6x2b => have := HRN.out.lt; omega
                  intro vg' w4 hown4 hgr4 _
                  have HJ := Lib.hid (OwnsReqs.join YY.out.1 UU.out.1 YY.out.2 UU.out.2 Y2.out hown4 hgr4)
                  have hgrG : Below G w3 w4 := (Below.refl G w3).grown hgr4 (by have := HRN.out.lt; omega) (fun q hq => by have := (own_lt Y2.out hq).1; omega)
                  have HR4 := Lib.hid (RdS.grown HRN.out hgr4 Y2.out)
                  have HB4 := Lib.hid (HBN.out.trans hgrG)
                  have HBY4 := Lib.hid (HBY3.out.below hgrG hbG)
                  obtain ⟨Aq, cq, rfl⟩ := ownsRow_form hown4
                  clear hown4 hgr4 hgrG
                  go_wp2
                  go_roundw
                  case rel => exact ⟨fed ++ rest.take rest.length, rest.drop rest.length, _, _, i + 1, gotL ++ A2, kv', _, F2, _, by rw [List.append_assoc, List.take_append_drop]; exact HXE.out, by rw [List.length_drop, show rest.length - rest.length = 0 from by omega], by rw [List.length_drop]; omega, by omega, (by rw [List.drop_eq_nil_of_le (by omega)]; exact bytes_nil _ _ _), rfl, by go_num, by omega, fun h => by apply List.drop_eq_nil_of_le; omega, HJ.out, HR4.out, HB4.out, HNX.out⟩
                  case measure => simp only [lenV, intOf]; omega
          · have HPL := Lib.hid (show (rest.take rest.length).length = rest.length from by rw [List.length_take]; omega)
            have HFD := Lib.hid (HFDn.out rest.length (by omega))
            clear HFDn
            rcases Nat.lt_or_ge rest.length cap' with hnc | hnc
            · go_wp2_with fail
              refine HFD.out.mono ?_
              rintro e w3 ⟨hm, ⟨v2, rfl, hv2⟩, kv', hr', hk'⟩
              have hz3 := hm.size
              have hlowG : Below G wr w3 := hm.low (Nat.le_refl _) (fun q hq => by have := (own_lt HRD.out.own hq).1; omega)
              have hgot1 := HGOT.out.modu HRD.out.own hm (Nat.lt_succ_self G)
              have hv2' := hv2.base (base' := G + 1) (by have := HRD.out.lt; omega)
              obtain ⟨ys, y1, y2, y3⟩ := hgot1
              obtain ⟨us, u1, u2, u3⟩ := hv2'
              have hfed := split_more fed (rest.take rest.length) HNF.out
              rw [← HKE.out, HGL.out] at hfed
              have hrw := (splitS_rows (fed ++ rest.take rest.length)).1
              obtain ⟨S2, hS2⟩ : ∃ S, splitS (kept ++ rest.take rest.length) = S := ⟨_, rfl⟩
              obtain ⟨A2, n2, F2⟩ := S2
              rw [hS2] at hfed hr' u1 u2 u3 ⊢
              dsimp only at hfed hr' u1 u2 u3 ⊢
              obtain ⟨hfed, hfed2⟩ := hfed
              rw [hfed] at hrw
              dsimp only at hrw
              rw [List.length_append, List.length_append, HPL.out] at hrw
              have hxl := congrArg List.length HXE.out
              rw [List.length_append] at hxl
              have hsum : gotL.length + A2.length ≤ 300000 := by omega
              obtain ⟨Ag, cg, rfl⟩ := ownsRow_form y2
              obtain ⟨Av, cv, rfl⟩ := ownsRow_form u2
              have hNEXT : Hid ((F2 = [] ∧ decide (F2 ≠ []) = false ∧ (splitS (fed ++ rest.take rest.length)).2.2 = [] ∧ (splitS (fed ++ rest.take rest.length)).1 = gotL ++ A2 ∧ restS (kept ++ rest.take rest.length) = restS (fed ++ rest.take rest.length)) ∨ (F2 ≠ [] ∧ F2 = F ∧ gotL ++ A2 = L)) := by
                by_cases hF2 : F2 = []
                · refine Or.inl ⟨hF2, by simp [hF2], by rw [hfed]; exact hF2, by rw [hfed], hfed2.symm⟩
                · refine Or.inr ⟨hF2, ?_⟩
                  have hx' := split_fault (fed ++ rest.take rest.length) (rest.drop rest.length) (by rw [hfed]; exact hF2)
                  rw [List.append_assoc, List.take_append_drop, ← HXE.out, HS.out, hfed] at hx'
                  injection hx' with e1 e2
                  injection e2 with e2 e3
                  exact ⟨e3.symm, e1.symm⟩
              have HNX := Lib.hid hNEXT
              have HRN := Lib.hid hr'
              have HBN := Lib.hid (hbg'.out.trans hlowG)
              have HBY3 := Lib.hid (HBY.out.below hlowG hbG)
              have Y2 := Lib.hid y2
              have U2 := Lib.hid u2
              have YY := Lib.hid (And.intro y1 y3)
              have UU := Lib.hid (And.intro u1 u3)
              clear hv2 hm hr' hk' hlowG hfed hfed2 hS2 hrw hxl y1 y3 u1 u3 HFD hNEXT hz3
              rcases U2.out.2 with ⟨hnil, hz⟩ | ⟨g2, cap2, cur2, hsl, hg2, hh2, hcap2, hmx2, _⟩
              · simp only [Value.slice.injEq] at hnil
                obtain ⟨rfl, hz', rfl⟩ := hnil
                have hA2 : A2 = [] := List.length_eq_zero_iff.1 hz'
                subst hA2
                simp only [List.length_nil]
                go_wp2_with (at_builtin; refine wpList_append_own_none rfl _ _ 24 rfl (G + 1) 55 i0 1 Try.underlying24 hi _ _ _ rfl Y2.out rfl ?_)
                go_roundw
                case rel => exact ⟨fed ++ rest.take rest.length, rest.drop rest.length, _, _, i + 1, gotL ++ [], kv', _, F2, _, by rw [List.append_assoc, List.take_append_drop]; exact HXE.out, by rw [List.length_drop, show rest.length - rest.length = 0 from by omega], by rw [List.length_drop]; omega, by omega, HBY3.out.cut rest.length, rfl, by go_num, by omega, fun h => by apply List.drop_eq_nil_of_le; omega, by rw [List.append_nil]; exact ⟨ys, YY.out.1, Y2.out, YY.out.2⟩, HRN.out, HBN.out, HNX.out⟩
                case measure => simp only [lenV, intOf]; omega
              · simp only [Value.slice.injEq, true_and] at hsl
                obtain ⟨rfl, rfl⟩ := hsl
                go_wp2_with (at_builtin; refine wpList_append_own _ rfl _ _ 24 rfl (G + 1) 55 i0 (.slice none 0 0) 1 24 Try.underlying24 hi hy0 hy1 hy2 rfl (by decide) _ _ _ rfl Y2.out ⟨g2, 0, none⟩ A2.length cv us rfl ?c1x3a ?c2x3a ?c3x3a ?c4x3a ?c5x3a ?c6x3a ?_)
                case c1x3a => rw [UU.out.1, Nat.mul_one]
                case c2x3a => intro j u hj; exact U2.out.cells (g := g2) rfl j u hj
                case c3x3a => exact fun u hu => one_row UU.out.1 UU.out.2 u hu
                case c4x3a => unfold maxLen; omega
                case c5x3a => omega
                case c6x3a => have := HRN.out.lt; omega
                intro vg' w4 hown4 hgr4 _
                have HJ := Lib.hid (OwnsReqs.join YY.out.1 UU.out.1 YY.out.2 UU.out.2 Y2.out hown4 hgr4)
                have hgrG : Below G w3 w4 := (Below.refl G w3).grown hgr4 (by have := HRN.out.lt; omega) (fun q hq => by have := (own_lt Y2.out hq).1; omega)
                have HR4 := Lib.hid (RdS.grown HRN.out hgr4 Y2.out)
                have HB4 := Lib.hid (HBN.out.trans hgrG)
                have HBY4 := Lib.hid (HBY3.out.below hgrG hbG)
                obtain ⟨Aq, cq, rfl⟩ := ownsRow_form hown4
                clear hown4 hgr4 hgrG
                go_wp2
                go_roundw
                case rel => exact ⟨fed ++ rest.take rest.length, rest.drop rest.length, _, _, i + 1, gotL ++ A2, kv', _, F2, _, by rw [List.append_assoc, List.take_append_drop]; exact HXE.out, by rw [List.length_drop, show rest.length - rest.length = 0 from by omega], by rw [List.length_drop]; omega, by omega, HBY4.out.cut rest.length, rfl, by go_num, by omega, fun h => by apply List.drop_eq_nil_of_le; omega, HJ.out, HR4.out, HB4.out, HNX.out⟩
                case measure => simp only [lenV, intOf]; omega
            · obtain rfl : cap' = rest.length := by omega
              go_wp2_with fail
              refine HFD.out.mono ?_
              rintro e w3 ⟨hm, ⟨v2, rfl, hv2⟩, kv', hr', hk'⟩
              have hz3 := hm.size
              have hlowG : Below G wr w3 := hm.low (Nat.le_refl _) (fun q hq => by have := (own_lt HRD.out.own hq).1; omega)
              have hgot1 := HGOT.out.modu HRD.out.own hm (Nat.lt_succ_self G)
              have hv2' := hv2.base (base' := G + 1) (by have := HRD.out.lt; omega)
              obtain ⟨ys, y1, y2, y3⟩ := hgot1
              obtain ⟨us, u1, u2, u3⟩ := hv2'
              have hfed := split_more fed (rest.take rest.length) HNF.out
              rw [← HKE.out, HGL.out] at hfed
              have hrw := (splitS_rows (fed ++ rest.take rest.length)).1
              obtain ⟨S2, hS2⟩ : ∃ S, splitS (kept ++ rest.take rest.length) = S := ⟨_, rfl⟩
              obtain ⟨A2, n2, F2⟩ := S2
              rw [hS2] at hfed hr' u1 u2 u3 ⊢
              dsimp only at hfed hr' u1 u2 u3 ⊢
              obtain ⟨hfed, hfed2⟩ := hfed
              rw [hfed] at hrw
              dsimp only at hrw
              rw [List.length_append, List.length_append, HPL.out] at hrw
              have hxl := congrArg List.length HXE.out
              rw [List.length_append] at hxl
              have hsum : gotL.length + A2.length ≤ 300000 := by omega
              obtain ⟨Ag, cg, rfl⟩ := ownsRow_form y2
              obtain ⟨Av, cv, rfl⟩ := ownsRow_form u2
              have hNEXT : Hid ((F2 = [] ∧ decide (F2 ≠ []) = false ∧ (splitS (fed ++ rest.take rest.length)).2.2 = [] ∧ (splitS (fed ++ rest.take rest.length)).1 = gotL ++ A2 ∧ restS (kept ++ rest.take rest.length) = restS (fed ++ rest.take rest.length)) ∨ (F2 ≠ [] ∧ F2 = F ∧ gotL ++ A2 = L)) := by
                by_cases hF2 : F2 = []
                · refine Or.inl ⟨hF2, by simp [hF2], by rw [hfed]; exact hF2, by rw [hfed], hfed2.symm⟩
                · refine Or.inr ⟨hF2, ?_⟩
                  have hx' := split_fault (fed ++ rest.take rest.length) (rest.drop rest.length) (by rw [hfed]; exact hF2)
                  rw [List.append_assoc, List.take_append_drop, ← HXE.out, HS.out, hfed] at hx'
                  injection hx' with e1 e2
                  injection e2 with e2 e3
                  exact ⟨e3.symm, e1.symm⟩
              have HNX := Lib.hid hNEXT
              have HRN := Lib.hid hr'
              have HBN := Lib.hid (hbg'.out.trans hlowG)
              have HBY3 := Lib.hid (HBY.out.below hlowG hbG)
              have Y2 := Lib.hid y2
              have U2 := Lib.hid u2
              have YY := Lib.hid (And.intro y1 y3)
              have UU := Lib.hid (And.intro u1 u3)
              clear hv2 hm hr' hk' hlowG hfed hfed2 hS2 hrw hxl y1 y3 u1 u3 HFD hNEXT hz3
              rcases U2.out.2 with ⟨hnil, hz⟩ | ⟨g2, cap2, cur2, hsl, hg2, hh2, hcap2, hmx2, _⟩
              · simp only [Value.slice.injEq] at hnil
                obtain ⟨rfl, hz', rfl⟩ := hnil
                have hA2 : A2 = [] := List.length_eq_zero_iff.1 hz'
                subst hA2
                simp only [List.length_nil]
                go_wp2_with (at_builtin; refine wpList_append_own_none rfl _ _ 24 rfl (G + 1) 55 i0 1 Try.underlying24 hi _ _ _ rfl Y2.out rfl ?_)
                go_roundw
                case rel => exact ⟨fed ++ rest.take rest.length, rest.drop rest.length, _, _, i + 1, gotL ++ [], kv', _, F2, _, by rw [List.append_assoc, List.take_append_drop]; exact HXE.out, by rw [List.length_drop, show rest.length - rest.length = 0 from by omega], by rw [List.length_drop]; omega, by omega, (by rw [List.drop_eq_nil_of_le (by omega)]; exact bytes_nil _ _ _), rfl, by go_num, by omega, fun h => by apply List.drop_eq_nil_of_le; omega, by rw [List.append_nil]; exact ⟨ys, YY.out.1, Y2.out, YY.out.2⟩, HRN.out, HBN.out, HNX.out⟩
                case measure => simp only [lenV, intOf]; omega
              · simp only [Value.slice.injEq, true_and] at hsl
                obtain ⟨rfl, rfl⟩ := hsl
                go_wp2_with (at_builtin; refine wpList_append_own _ rfl _ _ 24 rfl (G + 1) 55 i0 (.slice none 0 0) 1 24 Try.underlying24 hi hy0 hy1 hy2 rfl (by decide) _ _ _ rfl Y2.out ⟨g2, 0, none⟩ A2.length cv us rfl ?c1x3b ?c2x3b ?c3x3b ?c4x3b ?c5x3b ?c6x3b ?_)
                case c1x3b => rw [UU.out.1, Nat.mul_one]
                case c2x3b => intro j u hj; exact U2.out.cells (g := g2) rfl j u hj
                case c3x3b => exact fun u hu => one_row UU.out.1 UU.out.2 u hu
                case c4x3b => unfold maxLen; omega
                case c5x3b => omega
                case c6x3b => have := HRN.out.lt; omega
                intro vg' w4 hown4 hgr4 _
                have HJ := Lib.hid (OwnsReqs.join YY.out.1 UU.out.1 YY.out.2 UU.out.2 Y2.out hown4 hgr4)
                have hgrG : Below G w3 w4 := (Below.refl G w3).grown hgr4 (by have := HRN.out.lt; omega) (fun q hq => by have := (own_lt Y2.out hq).1; omega)
                have HR4 := Lib.hid (RdS.grown HRN.out hgr4 Y2.out)
                have HB4 := Lib.hid (HBN.out.trans hgrG)
                have HBY4 := Lib.hid (HBY3.out.below hgrG hbG)
                obtain ⟨Aq, cq, rfl⟩ := ownsRow_form hown4
                clear hown4 hgr4 hgrG
                go_wp2
                go_roundw
                case rel => exact ⟨fed ++ rest.take rest.length, rest.drop rest.length, _, _, i + 1, gotL ++ A2, kv', _, F2, _, by rw [List.append_assoc, List.take_append_drop]; exact HXE.out, by rw [List.length_drop, show rest.length - rest.length = 0 from by omega], by rw [List.length_drop]; omega, by omega, (by rw [List.drop_eq_nil_of_le (by omega)]; exact bytes_nil _ _ _), rfl, by go_num, by omega, fun h => by apply List.drop_eq_nil_of_le; omega, HJ.out, HR4.out, HB4.out, HNX.out⟩
                case measure => simp only [lenV, intOf]; omega
        · have HPL := Lib.hid (show (rest.take rest.length).length = rest.length from by rw [List.length_take]; omega)
          have HFD := Lib.hid (HFDn.out rest.length (by omega))
          clear HFDn
          rcases Nat.lt_or_ge rest.length cap' with hnc | hnc
          · go_wp2_with fail
            refine HFD.out.mono ?_
            rintro e w3 ⟨hm, ⟨v2, rfl, hv2⟩, kv', hr', hk'⟩
            have hz3 := hm.size
            have hlowG : Below G wr w3 := hm.low (Nat.le_refl _) (fun q hq => by have := (own_lt HRD.out.own hq).1; omega)
            have hgot1 := HGOT.out.modu HRD.out.own hm (Nat.lt_succ_self G)
            have hv2' := hv2.base (base' := G + 1) (by have := HRD.out.lt; omega)
            obtain ⟨ys, y1, y2, y3⟩ := hgot1
            obtain ⟨us, u1, u2, u3⟩ := hv2'
            have hfed := split_more fed (rest.take rest.length) HNF.out
            rw [← HKE.out, HGL.out] at hfed
            have hrw := (splitS_rows (fed ++ rest.take rest.length)).1
            obtain ⟨S2, hS2⟩ : ∃ S, splitS (kept ++ rest.take rest.length) = S := ⟨_, rfl⟩
            obtain ⟨A2, n2, F2⟩ := S2
            rw [hS2] at hfed hr' u1 u2 u3 ⊢
            dsimp only at hfed hr' u1 u2 u3 ⊢
            obtain ⟨hfed, hfed2⟩ := hfed
            rw [hfed] at hrw
            dsimp only at hrw
            rw [List.length_append, List.length_append, HPL.out] at hrw
            have hxl := congrArg List.length HXE.out
            rw [List.length_append] at hxl
            have hsum : gotL.length + A2.length ≤ 300000 := by omega
            obtain ⟨Ag, cg, rfl⟩ := ownsRow_form y2
            obtain ⟨Av, cv, rfl⟩ := ownsRow_form u2
            have hNEXT : Hid ((F2 = [] ∧ decide (F2 ≠ []) = false ∧ (splitS (fed ++ rest.take rest.length)).2.2 = [] ∧ (splitS (fed ++ rest.take rest.length)).1 = gotL ++ A2 ∧ restS (kept ++ rest.take rest.length) = restS (fed ++ rest.take rest.length)) ∨ (F2 ≠ [] ∧ F2 = F ∧ gotL ++ A2 = L)) := by
              by_cases hF2 : F2 = []
              · refine Or.inl ⟨hF2, by simp [hF2], by rw [hfed]; exact hF2, by rw [hfed], hfed2.symm⟩
              · refine Or.inr ⟨hF2, ?_⟩
                have hx' := split_fault (fed ++ rest.take rest.length) (rest.drop rest.length) (by rw [hfed]; exact hF2)
                rw [List.append_assoc, List.take_append_drop, ← HXE.out, HS.out, hfed] at hx'
                injection hx' with e1 e2
                injection e2 with e2 e3
                exact ⟨e3.symm, e1.symm⟩
            have HNX := Lib.hid hNEXT
            have HRN := Lib.hid hr'
            have HBN := Lib.hid (hbg'.out.trans hlowG)
            have HBY3 := Lib.hid (HBY.out.below hlowG hbG)
            have Y2 := Lib.hid y2
            have U2 := Lib.hid u2
            have YY := Lib.hid (And.intro y1 y3)
            have UU := Lib.hid (And.intro u1 u3)
            clear hv2 hm hr' hk' hlowG hfed hfed2 hS2 hrw hxl y1 y3 u1 u3 HFD hNEXT hz3
            rcases U2.out.2 with ⟨hnil, hz⟩ | ⟨g2, cap2, cur2, hsl, hg2, hh2, hcap2, hmx2, _⟩
            · simp only [Value.slice.injEq] at hnil
              obtain ⟨rfl, hz', rfl⟩ := hnil
              have hA2 : A2 = [] := List.length_eq_zero_iff.1 hz'
              subst hA2
              simp only [List.length_nil]
              go_wp2_with (at_builtin; refine wpList_append_own_none rfl _ _ 24 rfl (G + 1) 55 i0 1 Try.underlying24 hi _ _ _ rfl Y2.out rfl ?_)
              go_roundw
              case rel => exact ⟨fed ++ rest.take rest.length, rest.drop rest.length, _, _, i + 1, gotL ++ [], kv', _, F2, _, by rw [List.append_assoc, List.take_append_drop]; exact HXE.out, by rw [List.length_drop, show rest.length - rest.length = 0 from by omega], by rw [List.length_drop]; omega, by omega, HBY3.out.cut rest.length, rfl, by go_num, by omega, fun h => by apply List.drop_eq_nil_of_le; omega, by rw [List.append_nil]; exact ⟨ys, YY.out.1, Y2.out, YY.out.2⟩, HRN.out, HBN.out, HNX.out⟩
              case measure => simp only [lenV, intOf]; omega
            · simp only [Value.slice.injEq, true_and] at hsl
              obtain ⟨rfl, rfl⟩ := hsl
              go_wp2_with (at_builtin; refine wpList_append_own _ rfl _ _ 24 rfl (G + 1) 55 i0 (.slice none 0 0) 1 24 Try.underlying24 hi hy0 hy1 hy2 rfl (by decide) _ _ _ rfl Y2.out ⟨g2, 0, none⟩ A2.length cv us rfl ?c1x4a ?c2x4a ?c3x4a ?c4x4a ?c5x4a ?c6x4a ?_)
              case c1x4a => rw [UU.out.1, Nat.mul_one]
              case c2x4a => intro j u hj; exact U2.out.cells (g := g2) rfl j u hj
              case c3x4a => exact fun u hu => one_row UU.out.1 UU.out.2 u hu
              case c4x4a => unfold maxLen; omega
              case c5x4a => omega
              case c6x4a => have := HRN.out.lt; omega
              intro vg' w4 hown4 hgr4 _
              have HJ := Lib.hid (OwnsReqs.join YY.out.1 UU.out.1 YY.out.2 UU.out.2 Y2.out hown4 hgr4)
              have hgrG : Below G w3 w4 := (Below.refl G w3).grown hgr4 (by have := HRN.out.lt; omega) (fun q hq => by have := (own_lt Y2.out hq).1; omega)
              have HR4 := Lib.hid (RdS.grown HRN.out hgr4 Y2.out)
              have HB4 := Lib.hid (HBN.out.trans hgrG)
              have HBY4 := Lib.hid (HBY3.out.below hgrG hbG)
              obtain ⟨Aq, cq, rfl⟩ := ownsRow_form hown4
              clear hown4 hgr4 hgrG
              go_wp2
              go_roundw
              case rel => exact ⟨fed ++ rest.take rest.length, rest.drop rest.length, _, _, i + 1, gotL ++ A2, kv', _, F2, _, by rw [List.append_assoc, List.take_append_drop]; exact HXE.out, by rw [List.length_drop, show rest.length - rest.length = 0 from by omega], by rw [List.length_drop]; omega, by omega, HBY4.out.cut rest.length, rfl, by go_num, by omega, fun h => by apply List.drop_eq_nil_of_le; omega, HJ.out, HR4.out, HB4.out, HNX.out⟩
              case measure => simp only [lenV, intOf]; omega
          · obtain rfl : cap' = rest.length := by omega
            go_wp2_with fail
            refine HFD.out.mono ?_
            rintro e w3 ⟨hm, ⟨v2, rfl, hv2⟩, kv', hr', hk'⟩
            have hz3 := hm.size
            have hlowG : Below G wr w3 := hm.low (Nat.le_refl _) (fun q hq => by have := (own_lt HRD.out.own hq).1; omega)
            have hgot1 := HGOT.out.modu HRD.out.own hm (Nat.lt_succ_self G)
            have hv2' := hv2.base (base' := G + 1) (by have := HRD.out.lt; omega)
            obtain ⟨ys, y1, y2, y3⟩ := hgot1
            obtain ⟨us, u1, u2, u3⟩ := hv2'
            have hfed := split_more fed (rest.take rest.length) HNF.out
            rw [← HKE.out, HGL.out] at hfed
            have hrw := (splitS_rows (fed ++ rest.take rest.length)).1
            obtain ⟨S2, hS2⟩ : ∃ S, splitS (kept ++ rest.take rest.length) = S := ⟨_, rfl⟩
            obtain ⟨A2, n2, F2⟩ := S2
            rw [hS2] at hfed hr' u1 u2 u3 ⊢
            dsimp only at hfed hr' u1 u2 u3 ⊢
            obtain ⟨hfed, hfed2⟩ := hfed
            rw [hfed] at hrw
            dsimp only at hrw
            rw [List.length_append, List.length_append, HPL.out] at hrw
            have hxl := congrArg List.length HXE.out
            rw [List.length_append] at hxl
            have hsum : gotL.length + A2.length ≤ 300000 := by omega
            obtain ⟨Ag, cg, rfl⟩ := ownsRow_form y2
            obtain ⟨Av, cv, rfl⟩ := ownsRow_form u2
            have hNEXT : Hid ((F2 = [] ∧ decide (F2 ≠ []) = false ∧ (splitS (fed ++ rest.take rest.length)).2.2 = [] ∧ (splitS (fed ++ rest.take rest.length)).1 = gotL ++ A2 ∧ restS (kept ++ rest.take rest.length) = restS (fed ++ rest.take rest.length)) ∨ (F2 ≠ [] ∧ F2 = F ∧ gotL ++ A2 = L)) := by
              by_cases hF2 : F2 = []
              · refine Or.inl ⟨hF2, by simp [hF2], by rw [hfed]; exact hF2, by rw [hfed], hfed2.symm⟩
              · refine Or.inr ⟨hF2, ?_⟩
                have hx' := split_fault (fed ++ rest.take rest.length) (rest.drop rest.length) (by rw [hfed]; exact hF2)
                rw [List.append_assoc, List.take_append_drop, ← HXE.out, HS.out, hfed] at hx'
                injection hx' with e1 e2
                injection e2 with e2 e3
                exact ⟨e3.symm, e1.symm⟩
            have HNX := Lib.hid hNEXT
            have HRN := Lib.hid hr'
            have HBN := Lib.hid (hbg'.out.trans hlowG)
            have HBY3 := Lib.hid (HBY.out.below hlowG hbG)
            have Y2 := Lib.hid y2
            have U2 := Lib.hid u2
            have YY := Lib.hid (And.intro y1 y3)
            have UU := Lib.hid (And.intro u1 u3)
            clear hv2 hm hr' hk' hlowG hfed hfed2 hS2 hrw hxl y1 y3 u1 u3 HFD hNEXT hz3
            rcases U2.out.2 with ⟨hnil, hz⟩ | ⟨g2, cap2, cur2, hsl, hg2, hh2, hcap2, hmx2, _⟩
            · simp only [Value.slice.injEq] at hnil
              obtain ⟨rfl, hz', rfl⟩ := hnil
              have hA2 : A2 = [] := List.length_eq_zero_iff.1 hz'
              subst hA2
              simp only [List.length_nil]
              go_wp2_with (at_builtin; refine wpList_append_own_none rfl _ _ 24 rfl (G + 1) 55 i0 1 Try.underlying24 hi _ _ _ rfl Y2.out rfl ?_)
              go_roundw
              case rel => exact ⟨fed ++ rest.take rest.length, rest.drop rest.length, _, _, i + 1, gotL ++ [], kv', _, F2, _, by rw [List.append_assoc, List.take_append_drop]; exact HXE.out, by rw [List.length_drop, show rest.length - rest.length = 0 from by omega], by rw [List.length_drop]; omega, by omega, (by rw [List.drop_eq_nil_of_le (by omega)]; exact bytes_nil _ _ _), rfl, by go_num, by omega, fun h => by apply List.drop_eq_nil_of_le; omega, by rw [List.append_nil]; exact ⟨ys, YY.out.1, Y2.out, YY.out.2⟩, HRN.out, HBN.out, HNX.out⟩
              case measure => simp only [lenV, intOf]; omega
            · simp only [Value.slice.injEq, true_and] at hsl
              obtain ⟨rfl, rfl⟩ := hsl
              go_wp2_with (at_builtin; refine wpList_append_own _ rfl _ _ 24 rfl (G + 1) 55 i0 (.slice none 0 0) 1 24 Try.underlying24 hi hy0 hy1 hy2 rfl (by decide) _ _ _ rfl Y2.out ⟨g2, 0, none⟩ A2.length cv us rfl ?c1x4b ?c2x4b ?c3x4b ?c4x4b ?c5x4b ?c6x4b ?_)
              case c1x4b => rw [UU.out.1, Nat.mul_one]
              case c2x4b => intro j u hj; exact U2.out.cells (g := g2) rfl j u hj
              case c3x4b => exact fun u hu => one_row UU.out.1 UU.out.2 u hu
              case c4x4b => unfold maxLen; omega
              case c5x4b => omega
              case c6x4b => have := HRN.out.lt; omega
              intro vg' w4 hown4 hgr4 _
              have HJ := Lib.hid (OwnsReqs.join YY.out.1 UU.out.1 YY.out.2 UU.out.2 Y2.out hown4 hgr4)
              have hgrG : Below G w3 w4 := (Below.refl G w3).grown hgr4 (by have := HRN.out.lt; omega) (fun q hq => by have := (own_lt Y2.out hq).1; omega)
              have HR4 := Lib.hid (RdS.grown HRN.out hgr4 Y2.out)
              have HB4 := Lib.hid (HBN.out.trans hgrG)
              have HBY4 := Lib.hid (HBY3.out.below hgrG hbG)
              obtain ⟨Aq, cq, rfl⟩ := ownsRow_form hown4
              clear hown4 hgr4 hgrG
              go_wp2
              go_roundw
              case rel => exact ⟨fed ++ rest.take rest.length, rest.drop rest.length, _, _, i + 1, gotL ++ A2, kv', _, F2, _, by rw [List.append_assoc, List.take_append_drop]; exact HXE.out, by rw [List.length_drop, show rest.length - rest.length = 0 from by omega], by rw [List.length_drop]; omega, by omega, (by rw [List.drop_eq_nil_of_le (by omega)]; exact bytes_nil _ _ _), rfl, by go_num, by omega, fun h => by apply List.drop_eq_nil_of_le; omega, HJ.out, HR4.out, HB4.out, HNX.out⟩
              case measure => simp only [lenV, intOf]; omega
    · subst hgL
      subst hTF
      have hTs : 0 < (⟨T.toArray⟩ : ByteArray).size := by
        rcases str_cases T with h | h
        · exact absurd h hT
        · exact h.1
      obtain ⟨TT, hTT⟩ : ∃ TT : ByteArray, ⟨T.toArray⟩ = TT := ⟨_, rfl⟩
      rw [hTT] at hTs
      obtain ⟨j1, j2, j3, j4⟩ := toList_cons TT hTs
      have HTT := Lib.hid hTT
      rw [hTT]
      clear j4
      clear hTT hT hTs
      by_cases hr0 : rest.length = 0
      · have HSA := Lib.hid (rsame_own wr (G + 1) w0.heap.size _ _ gotL hgot (HVL.out.below (by rw [HW1.out]; exact hbg)) (by have := HROW.out.1; omega) (fun r hr => (HROW.out.2 r hr).2))
        have HFI := Lib.hid (fun q => below_drewN (HB1.out.trans (hbg.mono hwG)) q)
        obtain ⟨Ag, cg, rfl⟩ := hgot.len
        clear hgot hrd hbg hby HST
        go_wp2_with fail
        refine HSA.out.mono ?_
        rintro e w3 ⟨rfl, q, rfl⟩
        go_wp2
        go_ret
        exact ⟨rfl, HFI.out q⟩
      · have hr1 : 0 < rest.length := by omega
        have HSA := Lib.hid (rsame_own wr (G + 1) w0.heap.size _ _ gotL hgot (HVL.out.below (by rw [HW1.out]; exact hbg)) (by have := HROW.out.1; omega) (fun r hr => (HROW.out.2 r hr).2))
        have HFI := Lib.hid (fun q => below_drewN (HB1.out.trans (hbg.mono hwG)) q)
        obtain ⟨Ag, cg, rfl⟩ := hgot.len
        clear hgot hrd hbg hby HST
        go_wp2_with fail
        refine HSA.out.mono ?_
        rintro e w3 ⟨rfl, q, rfl⟩
        go_wp2
        go_ret
        exact ⟨rfl, HFI.out q⟩

end Go.Proofs.Ytmbgonldbhpanaa
