/-
  The walk of package reply's line end, at any bytes: what is left, or the fault. Conditions: what is left lies in memory as a slice that reads as its bytes.
-/
import Derived.Test.YtbldahkgilkclaaDoorRyI
import Derived.Test.YtbldahkgilkclaaDoorRdG
namespace Go.Proofs.YtbldahkgilkclaaDoor
open Go.RowKit

/-- What a reader of bytes has told: a value where there is no fault, else the fault; and what is left begins at the place. -/
def LPost (w : World) (B b : Nat) (bs : List UInt8) (s : Nat × Nat) (ok : Value → Prop) (e : Ending) (w' : World) : Prop :=
  ((s.2 = 0 ∧ ∃ x, e = .returned x ∧ ok x) ∨ (s.2 ≠ 0 ∧ ThrownR s.2 e)) ∧ ∃ v', LeftV w b v' (bs.drop s.1) ∧ Put w ⟨B, 0, none⟩ v' w'

theorem LPost.ok {w w' : World} {B b : Nat} {bs : List UInt8} {i : Nat} {p : Value → Prop} {v v' : Value} (hv : p v) (h1 : LeftV w b v' (bs.drop i)) (h2 : Put w ⟨B, 0, none⟩ v' w') : LPost w B b bs (i, 0) p (.returned v) w' :=
  ⟨Or.inl ⟨rfl, v, rfl, hv⟩, v', h1, h2⟩

theorem LPost.bad {w w' : World} {B b : Nat} {bs : List UInt8} {i f : Nat} {p : Value → Prop} {v' : Value} (hf : f ≠ 0) (h1 : LeftV w b v' (bs.drop i)) (h2 : Put w ⟨B, 0, none⟩ v' w') : LPost w B b bs (i, f) p (.panicked [{ v := faultR f, recovered := false }]) w' :=
  ⟨Or.inr ⟨hf, rfl⟩, v', h1, h2⟩

theorem endS_at (bs : List UInt8) (i : Nat) : endS bs (i, 0) =
    if bs.length ≤ i then (i, 31) else if (bs.getD i 0).toNat = 13 then (if bs.length ≤ i + 1 then (i + 1, 31) else if (bs.getD (i + 1) 0).toNat = 10 then (i + 2, 0) else (i + 1, 30)) else (i, 30) := by
  unfold endS mustS
  by_cases h1 : bs.length ≤ i
  · simp [h1]
  · by_cases h2 : (bs.getD i 0).toNat = 13
    · simp only [h1, h2, if_true, if_false]
    · simp only [h1, h2, if_true, if_false]
      rfl

theorem drop_at {bs : List UInt8} {i c : Nat} (h : ¬ bs.length ≤ i) (hc : (bs.getD i 0).toNat = c) : ∃ x : UInt8, x.toNat = c ∧ bs.drop i = x :: bs.drop (i + 1) := ⟨_, hc, drop_more bs i h⟩

set_option maxRecDepth 100000 in
set_option maxHeartbeats 4000000 in
theorem yend_any (B b : Nat) (v : Value) (bs : List UInt8) (i : Nat) (w : World) (hB : B < w.heap.size) (hb : b < w.heap.size) (hn : b ≠ B) (hc : w.cell? ⟨B, 0, none⟩ = some v) (hf : w.frozen? ⟨B, 0, none⟩ = false) (hl : LeftV w b v (bs.drop i)) :
    Calls Tryd.prog 51 #[.pointer (some ⟨B, 0, none⟩)] w (LPost w B b bs (endS bs (i, 0)) (· = .tuple #[])) := by
  obtain ⟨E, hE⟩ : ∃ E, endS bs (i, 0) = E := ⟨_, rfl⟩
  have HE := Lib.hid (hE.symm.trans (endS_at bs i))
  rw [hE]
  clear hE
  go_enter Tryd.func51, Tryd.ntmps51
  go_wp2
  go_loopw [2, 3] (fun _ x wr => ∃ (k : Nat) (v : Value), x = .int .i64 k ∧ k ≤ 2 ∧ Put w ⟨B, 0, none⟩ v wr ∧ LeftV w b v (bs.drop (i + k)) ∧ (1 ≤ k → ¬ bs.length ≤ i ∧ (bs.getD i 0).toNat = 13) ∧ (2 ≤ k → ¬ bs.length ≤ i + 1 ∧ (bs.getD (i + 1) 0).toNat = 10)) (fun _ x _ => 2 - (intOf x).toNat)
  case atStart => exact ⟨0, v, rfl, by omega, Put.refl hc hB, hl, fun h => absurd h (by decide), fun h => absurd h (by decide)⟩
  case round =>
    obtain ⟨k, v, rfl, hk, hp, hv, h13, h10⟩ := hrel
    have hcv := hp.cell hc
    have hfv := (hp.frozen (q := ⟨B, 0, none⟩) hB).trans hf
    have hzr := hp.size
    have HP := Lib.hid hp
    have HV := Lib.hid hv
    have hvr := hv.put hp hb hn
    have HVR := Lib.hid hvr
    have HCV := Lib.hid hcv
    have HFV := Lib.hid hfv
    have H13 := Lib.hid h13
    have H10 := Lib.hid h10
    clear hp hv hvr hcv hfv h13 h10
    obtain rfl | rfl | rfl : k = 0 ∨ k = 1 ∨ k = 2 := by omega
    · by_cases hi : bs.length ≤ i
      · have HN := Lib.hid (ynext_end B b v wr.drew HCV.out (by have := HVR.out; rwa [Nat.add_zero, List.drop_eq_nil_of_le hi] at this))
        have HEE : Hid (E = (i, 31)) := HE.out.trans (by simp [hi])
        have HFI := Lib.hid (show LPost w B b bs E (· = .tuple #[]) (.panicked [{ v := faultR 31, recovered := false }]) wr.drew from by rw [HEE.out]; exact LPost.bad (by decide) HV.out HP.out.drew)
        clear HE
        go_wp2
        refine wp_region_any (by kernel_rfl) ?_
        change wpAny _ _ _ _ _ _ _ (World.drew _)
        refine wpAny_take (i := 0) (v := ?v0) rfl (by kernel_rfl) (by kernel_rfl) (by kernel_rfl) (fun _ _ _ h => h) (Or.inl ⟨by rfl, ?h0⟩) ?r0
        case h0 => (intro w; go_simp; try with_reducible rfl)
        refine wpAny_take (i := 2) (v := ?v2) rfl (by kernel_rfl) (by kernel_rfl) (by kernel_rfl) (fun _ _ _ h => h) (Or.inl ⟨by rfl, ?h2⟩) ?r2
        case h2 => (intro w; go_simp; try with_reducible rfl)
        refine wpAny_ready (rs := [1, 3]) (by kernel_rfl) (by simp) ?_
        refine AllReady.cons rfl (fun K hK => ?_) (AllReady.cons rfl (fun K hK => ?_) AllReady.nil)
        · go_simp
          refine HN.out.mono ?_
          rintro e w' ⟨rfl, rfl⟩
          exact ⟨rfl, HFI.out⟩
        · go_simp
          refine hK _ _ ?_
          clear hK K
          refine wpAny_ready (rs := [1]) (by kernel_rfl) (by simp) ?_
          refine AllReady.cons rfl (fun K hK => ?_) AllReady.nil
          go_simp
          refine HN.out.mono ?_
          rintro e w' ⟨rfl, rfl⟩
          exact ⟨rfl, HFI.out⟩
      · obtain ⟨x, hx, hdr⟩ := drop_at hi rfl
        have HX := Lib.hid hx
        have HN := Lib.hid (fun q => (ynext_ok B b v x (bs.drop (i + 1)) (wr.drewN q) HCV.out (by have := HVR.out; rwa [Nat.add_zero, hdr] at this)))
        have HT := Lib.hid (fun q => ytake_ok B b 1 v (x :: bs.drop (i + 1)) (wr.drewN q) (by show B < wr.heap.size; omega) HCV.out HFV.out (by have := HVR.out; rwa [Nat.add_zero, hdr] at this) (by simp))
        clear hx hdr
        by_cases hq : x.toNat = 13
        · rw [hq] at HN
          go_wp2
          go_quiet ((go_at_call 37; exact Calls.quiet_of_same ((HN.out _).mono fun _ _ h => ⟨h.1, h.2.symm⟩)))
          go_wp2_with fail
          refine (HT.out _).mono ?_
          rintro e w2 ⟨t, v', rfl, _, hv2, hp2⟩
          have HP2 := Lib.hid (HP.out.trans (Put.after (below_drewN (Below.refl _ _) nq) hp2 (by show B < wr.heap.size; omega)))
          have HV2 := Lib.hid (LeftV.back (show LeftV wr b v' _ from hv2) HP.out hb hn)
          clear hv2 hp2
          go_wp2
          go_roundw
          case rel => exact ⟨1, v', by go_num, by omega, HP2.out, HV2.out, fun _ => ⟨hi, by rw [← hq]; exact HX.out.symm⟩, fun h => absurd h (by decide)⟩
          case measure => simp only [intOf]; omega
        · have HEE : Hid (E = (i, 30)) := HE.out.trans (by rw [if_neg hi, if_neg (by rw [← HX.out]; exact hq)])
          have hq2 : ((x.toNat : Int) != 13) = true := by rw [bne_iff_ne]; omega
          clear HE
          go_wp2
          go_quiet ((go_at_call 37; exact Calls.quiet_of_same ((HN.out _).mono fun _ _ h => ⟨h.1, h.2.symm⟩)))
          rw [show ((x.toNat : Int) != (({ data := #[13, 10] } : ByteArray)[0].toNat : Int)) = true from hq2]
          go_wp2
          refine ⟨rfl, ?_⟩
          rw [HEE.out]
          exact LPost.bad (by decide) HV.out (HP.out.below (below_drewN (Below.refl _ _) nq))
    · by_cases hi : bs.length ≤ i + 1
      · have HN := Lib.hid (ynext_end B b v wr.drew HCV.out (by have := HVR.out; rwa [List.drop_eq_nil_of_le hi] at this))
        have HEE : Hid (E = (i + 1, 31)) := HE.out.trans (by rw [if_neg (H13.out (by decide)).1, if_pos (H13.out (by decide)).2, if_pos hi])
        have HFI := Lib.hid (show LPost w B b bs E (· = .tuple #[]) (.panicked [{ v := faultR 31, recovered := false }]) wr.drew from by rw [HEE.out]; exact LPost.bad (by decide) HV.out HP.out.drew)
        clear HE
        go_wp2
        refine wp_region_any (by kernel_rfl) ?_
        change wpAny _ _ _ _ _ _ _ (World.drew _)
        refine wpAny_take (i := 0) (v := ?v0b) rfl (by kernel_rfl) (by kernel_rfl) (by kernel_rfl) (fun _ _ _ h => h) (Or.inl ⟨by rfl, ?h0b⟩) ?r0b
        case h0b => (intro w; go_simp; try with_reducible rfl)
        refine wpAny_take (i := 2) (v := ?v2b) rfl (by kernel_rfl) (by kernel_rfl) (by kernel_rfl) (fun _ _ _ h => h) (Or.inl ⟨by rfl, ?h2b⟩) ?r2b
        case h2b => (intro w; go_simp; try with_reducible rfl)
        refine wpAny_ready (rs := [1, 3]) (by kernel_rfl) (by simp) ?_
        refine AllReady.cons rfl (fun K hK => ?_) (AllReady.cons rfl (fun K hK => ?_) AllReady.nil)
        · go_simp
          refine HN.out.mono ?_
          rintro e w' ⟨rfl, rfl⟩
          exact ⟨rfl, HFI.out⟩
        · go_simp
          refine hK _ _ ?_
          clear hK K
          refine wpAny_ready (rs := [1]) (by kernel_rfl) (by simp) ?_
          refine AllReady.cons rfl (fun K hK => ?_) AllReady.nil
          go_simp
          refine HN.out.mono ?_
          rintro e w' ⟨rfl, rfl⟩
          exact ⟨rfl, HFI.out⟩
      · obtain ⟨x, hx, hdr⟩ := drop_at hi rfl
        have HX := Lib.hid hx
        have HN := Lib.hid (fun q => (ynext_ok B b v x (bs.drop (i + 1 + 1)) (wr.drewN q) HCV.out (by have := HVR.out; rwa [hdr] at this)))
        have HT := Lib.hid (fun q => ytake_ok B b 1 v (x :: bs.drop (i + 1 + 1)) (wr.drewN q) (by show B < wr.heap.size; omega) HCV.out HFV.out (by have := HVR.out; rwa [hdr] at this) (by simp))
        clear hx hdr
        by_cases hq : x.toNat = 10
        · rw [hq] at HN
          go_wp2
          go_quiet ((go_at_call 37; exact Calls.quiet_of_same ((HN.out _).mono fun _ _ h => ⟨h.1, h.2.symm⟩)))
          go_wp2_with fail
          refine (HT.out _).mono ?_
          rintro e w2 ⟨t, v', rfl, _, hv2, hp2⟩
          have HP2 := Lib.hid (HP.out.trans (Put.after (below_drewN (Below.refl _ _) nq) hp2 (by show B < wr.heap.size; omega)))
          have HV2 := Lib.hid (LeftV.back (show LeftV wr b v' _ from hv2) HP.out hb hn)
          clear hv2 hp2
          go_wp2
          go_roundw
          case rel => exact ⟨2, v', by go_num, by omega, HP2.out, HV2.out, fun _ => H13.out (by decide), fun h => ⟨hi, by rw [← hq]; exact HX.out.symm⟩⟩
          case measure => simp only [intOf]; omega
        · have HEE : Hid (E = (i + 1, 30)) := HE.out.trans (by rw [if_neg (H13.out (by decide)).1, if_pos (H13.out (by decide)).2, if_neg hi, if_neg (by rw [← HX.out]; exact hq)])
          have hq2 : ((x.toNat : Int) != 10) = true := by rw [bne_iff_ne]; omega
          clear HE
          go_wp2
          go_quiet ((go_at_call 37; exact Calls.quiet_of_same ((HN.out _).mono fun _ _ h => ⟨h.1, h.2.symm⟩)))
          rw [show ((x.toNat : Int) != (({ data := #[13, 10] } : ByteArray)[1].toNat : Int)) = true from hq2]
          go_wp2
          refine ⟨rfl, ?_⟩
          rw [HEE.out]
          exact LPost.bad (by decide) HV.out (HP.out.below (below_drewN (Below.refl _ _) nq))
    · have HEE : Hid (E = (i + 2, 0)) := HE.out.trans (by rw [if_neg (H13.out (by decide)).1, if_pos (H13.out (by decide)).2, if_neg (H10.out (by decide)).1, if_pos (H10.out (by decide)).2])
      clear HE
      go_wp2
      go_end0
      rw [HEE.out]
      exact LPost.ok rfl HV.out HP.out

end Go.Proofs.YtbldahkgilkclaaDoor
