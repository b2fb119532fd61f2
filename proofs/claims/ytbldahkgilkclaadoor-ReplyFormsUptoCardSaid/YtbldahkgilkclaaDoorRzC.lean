/-
  The walk of package reply's number, at any bytes. Conditions: what is left lies in memory as a slice that reads as its bytes.
-/
import Derived.Test.YtbldahkgilkclaaDoorRzB
import Derived.Test.YtbldahkgilkclaaDoorRyE
namespace Go.Proofs.YtbldahkgilkclaaDoor
open Go.RowKit

/-- What Parse tells of a beginning that goes one byte further. -/
theorem num_parse {bs : List UInt8} {lo : Nat} {least most M : Int} {i o k n c : Nat} (hb : Begun bs lo most i o M) (hL : least = -(lo : Int)) (hlo : lo ≤ 9223372036854775808) (hm1 : most ≤ 9223372036854775807) (hlm : least ≤ most) (hm0 : -1 ≤ most) (h : NumK bs M i o k n) (hl : ¬ bs.length ≤ i + o + k) (hc : (bs.getD (i + o + k) 0).toNat = c) :
    (Acc o M k n c ∧ ∃ V : Int, parseV ((bs.drop i).take (o + k + 1)) = some V ∧ least ≤ V ∧ V ≤ most ∧ V = if o = 0 then ((n * 10 + (c - 48) : Nat) : Int) else -((n * 10 + (c - 48) : Nat) : Int)) ∨
    (¬ Acc o M k n c ∧ (parseV ((bs.drop i).take (o + k + 1)) = none ∨ ∃ V, parseV ((bs.drop i).take (o + k + 1)) = some V ∧ (V < least ∨ most < V))) := by
  by_cases ha : Acc o M k n c
  · left
    refine ⟨ha, ?_⟩
    have h4 := ha.2.2.2
    obtain ⟨h0, ⟨rfl, h45, rfl⟩ | ⟨rfl, h45, rfl⟩⟩ := hb
    · rw [Nat.add_zero] at hc hl
      have := (parse_pos h hl hc h45 hm1).1 ha
      rw [Nat.zero_add]
      exact ⟨_, this, by omega, h4, by rw [if_pos rfl]⟩
    · have := (parse_neg h hl hc h45 (by omega)).1 ha
      rw [show 1 + k + 1 = k + 2 from by omega]
      refine ⟨_, this, by omega, ?_, by rw [if_neg (by decide)]⟩
      have : n * 10 + (c - 48) ≠ 0 := by
        rcases ha.2.2.1 with ⟨g1, g2⟩ | g
        · have := ha.1; omega
        · omega
      omega
  · right
    refine ⟨ha, ?_⟩
    obtain ⟨h0, ⟨rfl, h45, rfl⟩ | ⟨rfl, h45, rfl⟩⟩ := hb
    · rw [Nat.add_zero] at hc hl
      rw [Nat.zero_add]
      rcases (parse_pos h hl hc h45 hm1).2 ha with g | ⟨V, g, g2⟩
      · exact Or.inl g
      · exact Or.inr ⟨V, g, Or.inr g2⟩
    · rw [show 1 + k + 1 = k + 2 from by omega]
      rcases (parse_neg h hl hc h45 (by omega)).2 ha with g | ⟨V, g, g2⟩
      · exact Or.inl g
      · exact Or.inr ⟨V, g, Or.inl (by omega)⟩

set_option maxRecDepth 100000 in
set_option maxHeartbeats 8000000 in
theorem ynumber_any (B b : Nat) (v : Value) (bs : List UInt8) (i lo : Nat) (least most : Int) (w : World) (hB : B < w.heap.size) (hb : b < w.heap.size) (hn : b ≠ B) (hc : w.cell? ⟨B, 0, none⟩ = some v) (hf : w.frozen? ⟨B, 0, none⟩ = false) (hl : LeftV w b v (bs.drop i))
    (hL : least = -(lo : Int)) (hlo : lo ≤ 9223372036854775808) (hm0 : -1 ≤ most) (hm1 : most ≤ 9223372036854775807) (hlm : least ≤ most) (N : Int) (X : Nat × Nat) (hX : numS bs lo most i = (N, X)) :
    Calls Tryd.prog 41 #[.pointer (some ⟨B, 0, none⟩), .int .i64 least, .int .i64 most] w (LPost w B b bs X (· = .int .i64 N)) := by
  have HXX := Lib.hid hX
  have hl0 : -9223372036854775808 ≤ least := by omega
  by_cases hi : bs.length ≤ i
  · have HEE : Hid (X = (i, 31)) := by have := HXX.out; unfold numS at this; rw [if_pos hi] at this; exact (Prod.mk.inj this).2.symm
    have HN := Lib.hid (ynext_end B b v w hc (by rwa [List.drop_eq_nil_of_le hi] at hl))
    have HFI := Lib.hid (show LPost w B b bs X (· = .int .i64 N) (.panicked [{ v := faultR 31, recovered := false }]) w from by rw [HEE.out]; exact LPost.bad (by decide) hl (Put.refl hc hB))
    obtain ⟨oo, cap, rfl, h1, h2, _⟩ := hl
    clear hX HXX hL hlm
    go_enter Tryd.func41, Tryd.ntmps41
    go_wp2_with fail
    refine HN.out.mono ?_
    rintro e w' ⟨rfl, rfl⟩
    go_wp2
    exact ⟨rfl, HFI.out⟩
  obtain ⟨x0, hx0, hdr0⟩ := drop_at hi rfl
  have HNX0 := Lib.hid (ynext_ok B b v x0 (bs.drop (i + 1)) w hc (by rwa [hdr0] at hl))
  have HTK0 := Lib.hid (ytake_ok B b 1 v (x0 :: bs.drop (i + 1)) w hB hc hf (by rwa [hdr0] at hl) (by simp))
  have HL := Lib.hid hl
  clear hdr0
  obtain ⟨oo, cap, rfl, h1, h2, h3⟩ := hl
  have H3 := Lib.hid h3
  clear h3
  obtain ⟨NN, hNN⟩ : ∃ NN, (bs.drop i).length = NN := ⟨_, rfl⟩
  have HNN := Lib.hid hNN
  rw [hNN] at hc h1 HL
  have hNB : NN + i = bs.length := by rw [← hNN, List.length_drop]; omega
  clear hNN
  obtain ⟨c0, hc0⟩ : ∃ c0, x0.toNat = c0 := ⟨_, rfl⟩
  rw [hc0] at HNX0 hx0
  have HX0 := Lib.hid hx0
  clear hc0 hx0
  by_cases h45 : c0 = 45
  · have hbg : Begun bs lo most i 1 (lo : Int) := ⟨hi, Or.inr ⟨rfl, HX0.out.symm.trans h45, rfl⟩⟩
    have HBG := Lib.hid hbg
    have HPA := Lib.hid (fun k n c h hl hc => num_parse (k := k) (n := n) (c := c) hbg hL hlo hm1 hlm hm0 h hl hc)
    rw [h45, show (((45 : Nat) : Nat) : Int) = 45 from rfl] at HNX0
    clear hX hL hbg hlm
    go_enter Tryd.func41, Tryd.ntmps41
    go_wp2_with fail
    refine HNX0.out.mono ?_
    rintro e w' ⟨rfl, rfl⟩
    go_wp2_with fail
    refine HTK0.out.mono ?_
    rintro e w1 ⟨t0, v1, rfl, _, hv1, hp1⟩
    have HP1 := Lib.hid hp1
    have HV1 := Lib.hid (show LeftV w b v1 (bs.drop (i + 1 + 0)) from hv1)
    clear hv1 hp1
    go_wp2
    go_loopw [8, 9] (fun _ _ wr => ∃ (k n : Nat) (v : Value), NumK bs (lo : Int) i 1 k n ∧ Put w ⟨B, 0, none⟩ v wr ∧ LeftV w b v (bs.drop (i + 1 + k)) ∧ (0 < k → ¬ bs.length ≤ i + 1 + k ∧ (bs.getD (i + 1 + k) 0).toNat ≠ 13)) (fun _ _ wr => lenAt wr ⟨B, 0, none⟩)
    case atStart => exact ⟨0, 0, v1, NumK.start _ _ _ _, HP1.out, HV1.out, fun h => absurd h (by decide)⟩
    case round =>
      obtain ⟨k, n, v, hk, hp, hv, h13⟩ := hrel
      have hcv := hp.cell hc
      have hfv := (hp.frozen (q := ⟨B, 0, none⟩) hB).trans hf
      have hzr := hp.size
      have HK := Lib.hid hk
      have HP := Lib.hid hp
      have HV := Lib.hid hv
      have HVR := Lib.hid (hv.put hp hb hn)
      have HB3 := Lib.hid (H3.out.put hp hb hn)
      have HCV := Lib.hid hcv
      have HFV := Lib.hid hfv
      have H13 := Lib.hid h13
      have hbr : b < wr.heap.size := by omega
      have hBr : B < wr.heap.size := by omega
      clear hp hfv HL HP1 HV1 HTK0 HNX0 hk h13
      by_cases hik : bs.length ≤ i + 1 + k
      · have HEE : Hid (X = (i + 1 + k, 31)) := by have := num_short HBG.out HK.out hik; rw [HXX.out] at this; exact this
        have HN := Lib.hid (ynext_end B b v wr hcv (by have := HVR.out; rwa [List.drop_eq_nil_of_le hik] at this))
        have HFI := Lib.hid (show LPost w B b bs X (· = .int .i64 N) (.panicked [{ v := faultR 31, recovered := false }]) wr from by rw [HEE.out]; exact LPost.bad (by decide) HV.out HP.out)
        obtain ⟨o', cap', rfl, _⟩ := hv
        clear HPA
        go_wp2_with fail
        refine HN.out.mono ?_
        rintro e w' ⟨rfl, rfl⟩
        go_wp2
        exact ⟨rfl, HFI.out⟩
      · obtain ⟨c, hcc, hdr⟩ := drop_at hik rfl
        have HN := Lib.hid (ynext_ok B b v c (bs.drop (i + 1 + k + 1)) wr hcv (by have := HVR.out; rwa [hdr] at this))
        have HTK := Lib.hid (fun w2 h1 h2 h3 (h4 : LeftV w2 b v (bs.drop (i + 1 + k))) => ytake_ok B b 1 v (c :: bs.drop (i + 1 + k + 1)) w2 h1 h2 h3 (by rwa [hdr] at h4) (by simp))
        obtain ⟨cN, hcN⟩ : ∃ cN, c.toNat = cN := ⟨_, rfl⟩
        rw [hcN] at HN hcc
        have HCC := Lib.hid hcc
        clear hcN hcc
        obtain ⟨o', cap', rfl, g1, g2, g3⟩ := hv
        obtain ⟨R, hR⟩ : ∃ R, (bs.drop (i + 1 + k)).length = R := ⟨_, rfl⟩
        have hRB : R + (i + 1 + k) = bs.length := by rw [← hR, List.length_drop]; omega
        rw [hR] at hcv HCV g1 HTK HP HV HVR
        have HCVM := Lib.hid hcv
        clear g3 hdr
        obtain ⟨K, hK⟩ : ∃ K, 1 + k + 1 = K := ⟨_, rfl⟩
        have hKN : (NN : Int) - (R : Int) + 1 = (K : Int) := by omega
        have hKc : K ≤ NN := by omega
        have hcvt := conv_left wr b oo cap ((bs.drop i).take K) (HB3.out.take K)
        have hlenK : ((bs.drop i).take K).length = K := by rw [List.length_take, HNN.out]; omega
        obtain ⟨TB, hTB⟩ : ∃ T : ByteArray, (⟨((bs.drop i).take K).toArray⟩ : ByteArray) = T := ⟨_, rfl⟩
        have hTsz : TB.size = K := by rw [← hTB]; show ((bs.drop i).take K).toArray.size = K; rw [List.size_toArray, hlenK]
        have HPR := Lib.hid (parse_any TB wr (by rw [hTsz]; omega))
        rw [show TB.data.toList = (bs.drop i).take K from by rw [← hTB]] at HPR
        rw [hlenK, hTB] at hcvt
        clear hTB hlenK hTsz
        have hpa := HPA.out k n cN HK.out hik HCC.out.symm
        rw [hK] at hpa
        have HKK := Lib.hid hK
        clear hK
        rcases hpa with ⟨hacc, V, hpv, hV0, hV1, hV2⟩ | ⟨hacc, hno⟩
        · rw [hpv] at HPR
          simp only [valV, errV, Option.getD_some, Option.isSome_some, if_true] at HPR
          have HKM := Lib.hid (HK.out.more hik HCC.out.symm hacc (by omega))
          have HV2 := Lib.hid hV2
          have hV3 : ¬ (V < least) := by omega
          have hV4 : ¬ (most < V) := by omega
          clear HPA hpv hacc hV2
          go_wp2_with fail
          refine HN.out.mono ?_
          rintro e w' ⟨rfl, rfl⟩
          go_wp2_with fail
          refine HPR.out.mono ?_
          rintro e w2 ⟨rfl, hb2⟩
          have HP2 := Lib.hid (HP.out.below hb2)
          have hz2 := hb2.size
          have HT2 := Lib.hid (HTK.out w2 (by omega) (HP2.out.cell hc) ((HP2.out.frozen (q := ⟨B, 0, none⟩) hB).trans hf) (HV.out.put HP2.out hb hn))
          clear hb2 hcv hcvt HN HPR HTK HV HVR HCV HFV HB3
          go_wp2_with fail
          refine HT2.out.mono ?_
          rintro e w3 ⟨t3, v3, rfl, _, hv3, hp3⟩
          have HP3 := Lib.hid (HP2.out.trans hp3)
          have HV3 := Lib.hid (LeftV.back (show LeftV w2 b v3 (bs.drop (i + 1 + (k + 1))) from hv3) HP2.out hb hn)
          have hc3 := HP3.out.cell hc
          have hz3 := HP3.out.size
          have HVR3 := Lib.hid (HV3.out.put HP3.out hb hn)
          have HC3 := Lib.hid hc3
          have HF3 := Lib.hid ((HP3.out.frozen (q := ⟨B, 0, none⟩) hB).trans hf)
          clear hv3 hp3 hc3 HT2
          by_cases hj : bs.length ≤ i + 1 + (k + 1)
          · have HEE : Hid (X = (i + 1 + (k + 1), 31)) := by have := num_short HBG.out HKM.out hj; rw [HXX.out] at this; exact this
            have HN3 := Lib.hid (ynext_end B b v3 w3.drew HC3.out (by have := HVR3.out; rwa [List.drop_eq_nil_of_le hj] at this))
            have HFI := Lib.hid (show LPost w B b bs X (· = .int .i64 N) (.panicked [{ v := faultR 31, recovered := false }]) w3.drew from by rw [HEE.out]; exact LPost.bad (by decide) HV3.out HP3.out.drew)
            go_wp2
            refine wp_region_any (by kernel_rfl) ?_
            change wpAny _ _ _ _ _ _ _ (World.drew _)
            refine wpAny_take (i := 0) (v := ?v01) rfl (by kernel_rfl) (by kernel_rfl) (by kernel_rfl) (fun _ _ _ h => h) (Or.inl ⟨by rfl, ?h01⟩) ?r01
            case h01 => (intro w; go_simp; try with_reducible rfl)
            refine wpAny_ready (rs := [1, 2]) (by kernel_rfl) (by simp) ?_
            refine AllReady.cons rfl (fun K hK => ?_) (AllReady.cons rfl (fun K hK => ?_) AllReady.nil)
            · go_simp
              refine HN3.out.mono ?_
              rintro e w' ⟨rfl, rfl⟩
              exact ⟨rfl, HFI.out⟩
            · go_simp
              refine hK _ _ ?_
              clear hK K
              refine wpAny_ready (rs := [1]) (by kernel_rfl) (by simp) ?_
              refine AllReady.cons rfl (fun K hK => ?_) AllReady.nil
              go_simp
              refine HN3.out.mono ?_
              rintro e w' ⟨rfl, rfl⟩
              exact ⟨rfl, HFI.out⟩
          · obtain ⟨c2, hcc2, hdr2⟩ := drop_at hj rfl
            have HN3 := Lib.hid (fun q => (ynext_ok B b v3 c2 (bs.drop (i + 1 + (k + 1) + 1)) (w3.drewN q) HC3.out (by have := HVR3.out; rwa [hdr2] at this)))
            obtain ⟨d, hd⟩ : ∃ d, c2.toNat = d := ⟨_, rfl⟩
            rw [hd] at HN3 hcc2
            have HCC2 := Lib.hid hcc2
            clear hd hcc2 hdr2
            by_cases h13 : d = 13
            · subst h13
              have hen := num_end HBG.out HKM.out (by omega) hj HCC2.out.symm
              have HNV : Hid (N = V) := by unfold Hid; have := (Prod.mk.inj (HXX.out.symm.trans hen)).1; rw [this, HV2.out] <;> simp
              have HXE : Hid (X = endS bs (i + 1 + (k + 1), 0)) := (Prod.mk.inj (HXX.out.symm.trans hen)).2
              clear hen
              rw [show (((13 : Nat) : Nat) : Int) = 13 from rfl] at HN3
              go_wp2
              go_quiet ((go_at_call 37; exact Calls.quiet_of_same ((HN3.out _).mono fun _ _ h => ⟨h.1, h.2.symm⟩)))
              have HE := Lib.hid (yend_any B b v3 bs (i + 1 + (k + 1)) (w3.drewN nq) (by show B < w3.heap.size; omega) (by show b < w3.heap.size; omega) hn HC3.out HF3.out HVR3.out)
              go_wp2_with fail
              refine HE.out.mono ?_
              rintro e w4 ⟨hres, v4, hv4, hp4⟩
              have HP4 := Lib.hid (HP3.out.trans (Put.after (below_drewN (Below.refl _ _) nq) hp4 (by show B < w3.heap.size; omega)))
              have HV4 := Lib.hid (LeftV.back (show LeftV w3 b v4 _ from hv4) HP3.out hb hn)
              rw [← HXE.out] at hres HV4
              clear hv4 hp4
              rcases hres with ⟨hs0, x, rfl, rfl⟩ | ⟨hs1, hth⟩
              · go_wp2
                go_ret
                exact ⟨Or.inl ⟨hs0, _, rfl, show Value.int .i64 V = Value.int .i64 N from by rw [HNV.out]⟩, v4, HV4.out, HP4.out⟩
              · unfold ThrownR at hth
                have HFI := Lib.hid (show LPost w B b bs X (· = .int .i64 N) (.panicked [{ v := faultR X.2, recovered := false }]) w4 from ⟨Or.inr ⟨hs1, rfl⟩, v4, HV4.out, HP4.out⟩)
                obtain ⟨F, hF⟩ : ∃ F : Value, faultR X.2 = F := ⟨_, rfl⟩
                rw [hF] at HFI hth
                clear hF
                subst hth
                go_wp2
                exact ⟨rfl, HFI.out⟩
            · go_wp2
              go_quiet ((go_at_call 37; exact Calls.quiet_of_same ((HN3.out _).mono fun _ _ h => ⟨h.1, h.2.symm⟩)))
              rw [show ((d : Int) == (({ data := #[13, 10] } : ByteArray)[0].toNat : Int)) = false from by rw [beq_eq_false_iff_ne]; show (d : Int) ≠ 13; omega]
              go_wp2
              go_roundw
              case rel => exact ⟨k + 1, _, v3, HKM.out, HP3.out.below (below_drewN (Below.refl _ _) _), HV3.out, fun _ => ⟨hj, by rw [← HCC2.out]; exact h13⟩⟩
              case measure =>
                have h3c := HC3.out
                obtain ⟨o3, cap3, rfl, _⟩ := HVR3.out
                have a1 := lenAt_slice (w := wr) HCVM.out
                have a2 := lenAt_slice (w := w3) h3c
                show lenAt w3 ⟨B, 0, none⟩ < lenAt wr ⟨B, 0, none⟩
                rw [a1, a2, List.length_drop]
                omega
        · have HEE : Hid (X = (i + 1 + k, 30)) := by
            have := num_stop HBG.out HK.out hik HCC.out.symm hacc (by rcases Nat.eq_zero_or_pos k with g | g; exact Or.inr g; exact Or.inl (fun q => (H13.out g).2 (HCC.out.symm.trans q)))
            rw [HXX.out] at this
            exact this
          have HFI := Lib.hid (fun w2 (hb2 : Below wr.heap.size wr w2) => (show LPost w B b bs X (· = .int .i64 N) (.panicked [{ v := faultR 30, recovered := false }]) w2 from by rw [HEE.out]; exact LPost.bad (by decide) HV.out (HP.out.below hb2)))
          clear HPA hacc
          rcases hno with hpv | ⟨V, hpv, hV⟩
          · rw [hpv] at HPR
            simp only [valV, errV, Option.getD_none, Option.isSome_none, Bool.false_eq_true, if_false] at HPR
            clear hpv
            go_wp2_with fail
            refine HN.out.mono ?_
            rintro e w' ⟨rfl, rfl⟩
            go_wp2_with fail
            refine HPR.out.mono ?_
            rintro e w2 ⟨rfl, hb2⟩
            go_wp2
            exact ⟨rfl, HFI.out _ hb2⟩
          · rw [hpv] at HPR
            simp only [valV, errV, Option.getD_some, Option.isSome_some, if_true] at HPR
            clear hpv
            by_cases hlt : V < least
            · go_wp2_with fail
              refine HN.out.mono ?_
              rintro e w' ⟨rfl, rfl⟩
              go_wp2_with fail
              refine HPR.out.mono ?_
              rintro e w2 ⟨rfl, hb2⟩
              go_wp2
              exact ⟨rfl, HFI.out _ hb2⟩
            · have hgt : most < V := by rcases hV with q | q; exact absurd q hlt; exact q
              clear hV
              go_wp2_with fail
              refine HN.out.mono ?_
              rintro e w' ⟨rfl, rfl⟩
              go_wp2_with fail
              refine HPR.out.mono ?_
              rintro e w2 ⟨rfl, hb2⟩
              go_wp2
              exact ⟨rfl, HFI.out _ hb2⟩
  · have hbg : Begun bs lo most i 0 most := ⟨hi, Or.inl ⟨rfl, fun q => h45 (HX0.out.trans q), rfl⟩⟩
    have HBG := Lib.hid hbg
    have HPA := Lib.hid (fun k n c h hl hc => num_parse (k := k) (n := n) (c := c) hbg hL hlo hm1 hlm hm0 h hl hc)
    have q45 : ((c0 : Int) == 45) = false := by rw [beq_eq_false_iff_ne]; omega
    have HP1 := Lib.hid (Put.refl hc hB)
    have HV1 := Lib.hid (show LeftV w b _ (bs.drop (i + 0 + 0)) from HL.out)
    clear hX hL hbg hlm
    go_enter Tryd.func41, Tryd.ntmps41
    go_wp2_with fail
    refine HNX0.out.mono ?_
    rintro e w' ⟨rfl, rfl⟩
    go_wp2
    go_loopw [8, 9] (fun _ _ wr => ∃ (k n : Nat) (v : Value), NumK bs most i 0 k n ∧ Put w ⟨B, 0, none⟩ v wr ∧ LeftV w b v (bs.drop (i + 0 + k)) ∧ (0 < k → ¬ bs.length ≤ i + 0 + k ∧ (bs.getD (i + 0 + k) 0).toNat ≠ 13)) (fun _ _ wr => lenAt wr ⟨B, 0, none⟩)
    case atStart => exact ⟨0, 0, _, NumK.start _ _ _ _, HP1.out, HV1.out, fun h => absurd h (by decide)⟩
    case round =>
      obtain ⟨k, n, v, hk, hp, hv, h13⟩ := hrel
      have hcv := hp.cell hc
      have hfv := (hp.frozen (q := ⟨B, 0, none⟩) hB).trans hf
      have hzr := hp.size
      have HK := Lib.hid hk
      have HP := Lib.hid hp
      have HV := Lib.hid hv
      have HVR := Lib.hid (hv.put hp hb hn)
      have HB3 := Lib.hid (H3.out.put hp hb hn)
      have HCV := Lib.hid hcv
      have HFV := Lib.hid hfv
      have H13 := Lib.hid h13
      have hbr : b < wr.heap.size := by omega
      have hBr : B < wr.heap.size := by omega
      clear hp hfv HL HP1 HV1 HTK0 HNX0 hk h13
      by_cases hik : bs.length ≤ i + 0 + k
      · have HEE : Hid (X = (i + 0 + k, 31)) := by have := num_short HBG.out HK.out hik; rw [HXX.out] at this; exact this
        have HN := Lib.hid (ynext_end B b v wr hcv (by have := HVR.out; rwa [List.drop_eq_nil_of_le hik] at this))
        have HFI := Lib.hid (show LPost w B b bs X (· = .int .i64 N) (.panicked [{ v := faultR 31, recovered := false }]) wr from by rw [HEE.out]; exact LPost.bad (by decide) HV.out HP.out)
        obtain ⟨o', cap', rfl, _⟩ := hv
        clear HPA
        go_wp2_with fail
        refine HN.out.mono ?_
        rintro e w' ⟨rfl, rfl⟩
        go_wp2
        exact ⟨rfl, HFI.out⟩
      · obtain ⟨c, hcc, hdr⟩ := drop_at hik rfl
        have HN := Lib.hid (ynext_ok B b v c (bs.drop (i + 0 + k + 1)) wr hcv (by have := HVR.out; rwa [hdr] at this))
        have HTK := Lib.hid (fun w2 h1 h2 h3 (h4 : LeftV w2 b v (bs.drop (i + 0 + k))) => ytake_ok B b 1 v (c :: bs.drop (i + 0 + k + 1)) w2 h1 h2 h3 (by rwa [hdr] at h4) (by simp))
        obtain ⟨cN, hcN⟩ : ∃ cN, c.toNat = cN := ⟨_, rfl⟩
        rw [hcN] at HN hcc
        have HCC := Lib.hid hcc
        clear hcN hcc
        obtain ⟨o', cap', rfl, g1, g2, g3⟩ := hv
        obtain ⟨R, hR⟩ : ∃ R, (bs.drop (i + 0 + k)).length = R := ⟨_, rfl⟩
        have hRB : R + (i + 0 + k) = bs.length := by rw [← hR, List.length_drop]; omega
        rw [hR] at hcv HCV g1 HTK HP HV HVR
        have HCVM := Lib.hid hcv
        clear g3 hdr
        obtain ⟨K, hK⟩ : ∃ K, 0 + k + 1 = K := ⟨_, rfl⟩
        have hKN : (NN : Int) - (R : Int) + 1 = (K : Int) := by omega
        have hKc : K ≤ NN := by omega
        have hcvt := conv_left wr b oo cap ((bs.drop i).take K) (HB3.out.take K)
        have hlenK : ((bs.drop i).take K).length = K := by rw [List.length_take, HNN.out]; omega
        obtain ⟨TB, hTB⟩ : ∃ T : ByteArray, (⟨((bs.drop i).take K).toArray⟩ : ByteArray) = T := ⟨_, rfl⟩
        have hTsz : TB.size = K := by rw [← hTB]; show ((bs.drop i).take K).toArray.size = K; rw [List.size_toArray, hlenK]
        have HPR := Lib.hid (parse_any TB wr (by rw [hTsz]; omega))
        rw [show TB.data.toList = (bs.drop i).take K from by rw [← hTB]] at HPR
        rw [hlenK, hTB] at hcvt
        clear hTB hlenK hTsz
        have hpa := HPA.out k n cN HK.out hik HCC.out.symm
        rw [hK] at hpa
        have HKK := Lib.hid hK
        clear hK
        rcases hpa with ⟨hacc, V, hpv, hV0, hV1, hV2⟩ | ⟨hacc, hno⟩
        · rw [hpv] at HPR
          simp only [valV, errV, Option.getD_some, Option.isSome_some, if_true] at HPR
          have HKM := Lib.hid (HK.out.more hik HCC.out.symm hacc (by omega))
          have HV2 := Lib.hid hV2
          have hV3 : ¬ (V < least) := by omega
          have hV4 : ¬ (most < V) := by omega
          clear HPA hpv hacc hV2
          go_wp2_with fail
          refine HN.out.mono ?_
          rintro e w' ⟨rfl, rfl⟩
          go_wp2_with fail
          refine HPR.out.mono ?_
          rintro e w2 ⟨rfl, hb2⟩
          have HP2 := Lib.hid (HP.out.below hb2)
          have hz2 := hb2.size
          have HT2 := Lib.hid (HTK.out w2 (by omega) (HP2.out.cell hc) ((HP2.out.frozen (q := ⟨B, 0, none⟩) hB).trans hf) (HV.out.put HP2.out hb hn))
          clear hb2 hcv hcvt HN HPR HTK HV HVR HCV HFV HB3
          go_wp2_with fail
          refine HT2.out.mono ?_
          rintro e w3 ⟨t3, v3, rfl, _, hv3, hp3⟩
          have HP3 := Lib.hid (HP2.out.trans hp3)
          have HV3 := Lib.hid (LeftV.back (show LeftV w2 b v3 (bs.drop (i + 0 + (k + 1))) from hv3) HP2.out hb hn)
          have hc3 := HP3.out.cell hc
          have hz3 := HP3.out.size
          have HVR3 := Lib.hid (HV3.out.put HP3.out hb hn)
          have HC3 := Lib.hid hc3
          have HF3 := Lib.hid ((HP3.out.frozen (q := ⟨B, 0, none⟩) hB).trans hf)
          clear hv3 hp3 hc3 HT2
          by_cases hj : bs.length ≤ i + 0 + (k + 1)
          · have HEE : Hid (X = (i + 0 + (k + 1), 31)) := by have := num_short HBG.out HKM.out hj; rw [HXX.out] at this; exact this
            have HN3 := Lib.hid (ynext_end B b v3 w3.drew HC3.out (by have := HVR3.out; rwa [List.drop_eq_nil_of_le hj] at this))
            have HFI := Lib.hid (show LPost w B b bs X (· = .int .i64 N) (.panicked [{ v := faultR 31, recovered := false }]) w3.drew from by rw [HEE.out]; exact LPost.bad (by decide) HV3.out HP3.out.drew)
            go_wp2
            refine wp_region_any (by kernel_rfl) ?_
            change wpAny _ _ _ _ _ _ _ (World.drew _)
            refine wpAny_take (i := 0) (v := ?v00) rfl (by kernel_rfl) (by kernel_rfl) (by kernel_rfl) (fun _ _ _ h => h) (Or.inl ⟨by rfl, ?h00⟩) ?r00
            case h00 => (intro w; go_simp; try with_reducible rfl)
            refine wpAny_ready (rs := [1, 2]) (by kernel_rfl) (by simp) ?_
            refine AllReady.cons rfl (fun K hK => ?_) (AllReady.cons rfl (fun K hK => ?_) AllReady.nil)
            · go_simp
              refine HN3.out.mono ?_
              rintro e w' ⟨rfl, rfl⟩
              exact ⟨rfl, HFI.out⟩
            · go_simp
              refine hK _ _ ?_
              clear hK K
              refine wpAny_ready (rs := [1]) (by kernel_rfl) (by simp) ?_
              refine AllReady.cons rfl (fun K hK => ?_) AllReady.nil
              go_simp
              refine HN3.out.mono ?_
              rintro e w' ⟨rfl, rfl⟩
              exact ⟨rfl, HFI.out⟩
          · obtain ⟨c2, hcc2, hdr2⟩ := drop_at hj rfl
            have HN3 := Lib.hid (fun q => (ynext_ok B b v3 c2 (bs.drop (i + 0 + (k + 1) + 1)) (w3.drewN q) HC3.out (by have := HVR3.out; rwa [hdr2] at this)))
            obtain ⟨d, hd⟩ : ∃ d, c2.toNat = d := ⟨_, rfl⟩
            rw [hd] at HN3 hcc2
            have HCC2 := Lib.hid hcc2
            clear hd hcc2 hdr2
            by_cases h13 : d = 13
            · subst h13
              have hen := num_end HBG.out HKM.out (by omega) hj HCC2.out.symm
              have HNV : Hid (N = V) := by unfold Hid; have := (Prod.mk.inj (HXX.out.symm.trans hen)).1; rw [this, HV2.out] <;> simp
              have HXE : Hid (X = endS bs (i + 0 + (k + 1), 0)) := (Prod.mk.inj (HXX.out.symm.trans hen)).2
              clear hen
              rw [show (((13 : Nat) : Nat) : Int) = 13 from rfl] at HN3
              go_wp2
              go_quiet ((go_at_call 37; exact Calls.quiet_of_same ((HN3.out _).mono fun _ _ h => ⟨h.1, h.2.symm⟩)))
              have HE := Lib.hid (yend_any B b v3 bs (i + 0 + (k + 1)) (w3.drewN nq) (by show B < w3.heap.size; omega) (by show b < w3.heap.size; omega) hn HC3.out HF3.out HVR3.out)
              go_wp2_with fail
              refine HE.out.mono ?_
              rintro e w4 ⟨hres, v4, hv4, hp4⟩
              have HP4 := Lib.hid (HP3.out.trans (Put.after (below_drewN (Below.refl _ _) nq) hp4 (by show B < w3.heap.size; omega)))
              have HV4 := Lib.hid (LeftV.back (show LeftV w3 b v4 _ from hv4) HP3.out hb hn)
              rw [← HXE.out] at hres HV4
              clear hv4 hp4
              rcases hres with ⟨hs0, x, rfl, rfl⟩ | ⟨hs1, hth⟩
              · go_wp2
                go_ret
                exact ⟨Or.inl ⟨hs0, _, rfl, show Value.int .i64 V = Value.int .i64 N from by rw [HNV.out]⟩, v4, HV4.out, HP4.out⟩
              · unfold ThrownR at hth
                have HFI := Lib.hid (show LPost w B b bs X (· = .int .i64 N) (.panicked [{ v := faultR X.2, recovered := false }]) w4 from ⟨Or.inr ⟨hs1, rfl⟩, v4, HV4.out, HP4.out⟩)
                obtain ⟨F, hF⟩ : ∃ F : Value, faultR X.2 = F := ⟨_, rfl⟩
                rw [hF] at HFI hth
                clear hF
                subst hth
                go_wp2
                exact ⟨rfl, HFI.out⟩
            · go_wp2
              go_quiet ((go_at_call 37; exact Calls.quiet_of_same ((HN3.out _).mono fun _ _ h => ⟨h.1, h.2.symm⟩)))
              rw [show ((d : Int) == (({ data := #[13, 10] } : ByteArray)[0].toNat : Int)) = false from by rw [beq_eq_false_iff_ne]; show (d : Int) ≠ 13; omega]
              go_wp2
              go_roundw
              case rel => exact ⟨k + 1, _, v3, HKM.out, HP3.out.below (below_drewN (Below.refl _ _) _), HV3.out, fun _ => ⟨hj, by rw [← HCC2.out]; exact h13⟩⟩
              case measure =>
                have h3c := HC3.out
                obtain ⟨o3, cap3, rfl, _⟩ := HVR3.out
                have a1 := lenAt_slice (w := wr) HCVM.out
                have a2 := lenAt_slice (w := w3) h3c
                show lenAt w3 ⟨B, 0, none⟩ < lenAt wr ⟨B, 0, none⟩
                rw [a1, a2, List.length_drop]
                omega
        · have HEE : Hid (X = (i + 0 + k, 30)) := by
            have := num_stop HBG.out HK.out hik HCC.out.symm hacc (by rcases Nat.eq_zero_or_pos k with g | g; exact Or.inr g; exact Or.inl (fun q => (H13.out g).2 (HCC.out.symm.trans q)))
            rw [HXX.out] at this
            exact this
          have HFI := Lib.hid (fun w2 (hb2 : Below wr.heap.size wr w2) => (show LPost w B b bs X (· = .int .i64 N) (.panicked [{ v := faultR 30, recovered := false }]) w2 from by rw [HEE.out]; exact LPost.bad (by decide) HV.out (HP.out.below hb2)))
          clear HPA hacc
          rcases hno with hpv | ⟨V, hpv, hV⟩
          · rw [hpv] at HPR
            simp only [valV, errV, Option.getD_none, Option.isSome_none, Bool.false_eq_true, if_false] at HPR
            clear hpv
            go_wp2_with fail
            refine HN.out.mono ?_
            rintro e w' ⟨rfl, rfl⟩
            go_wp2_with fail
            refine HPR.out.mono ?_
            rintro e w2 ⟨rfl, hb2⟩
            go_wp2
            exact ⟨rfl, HFI.out _ hb2⟩
          · rw [hpv] at HPR
            simp only [valV, errV, Option.getD_some, Option.isSome_some, if_true] at HPR
            clear hpv
            by_cases hlt : V < least
            · go_wp2_with fail
              refine HN.out.mono ?_
              rintro e w' ⟨rfl, rfl⟩
              go_wp2_with fail
              refine HPR.out.mono ?_
              rintro e w2 ⟨rfl, hb2⟩
              go_wp2
              exact ⟨rfl, HFI.out _ hb2⟩
            · have hgt : most < V := by rcases hV with q | q; exact absurd q hlt; exact q
              clear hV
              go_wp2_with fail
              refine HN.out.mono ?_
              rintro e w' ⟨rfl, rfl⟩
              go_wp2_with fail
              refine HPR.out.mono ?_
              rintro e w2 ⟨rfl, hb2⟩
              go_wp2
              exact ⟨rfl, HFI.out _ hb2⟩

end Go.Proofs.YtbldahkgilkclaaDoor
