/-
  The walks of package reply's Decode at the bytes of -17 and two more. No condition but that they lie in memory.
-/
import Derived.Test.YtbldahkgilkclaaDoorRyD
import Derived.Test.YtbldahkgilkclaaDoorNumP
import Derived.Test.YtbldahkgilkclaaDoorShelf
import Derived.Defers
import Derived.Recover
namespace Go.Proofs.YtbldahkgilkclaaDoor
open Go.RowKit

/-- What is left, as a text. -/
theorem conv_left (w : World) (b o cap : Nat) (l : List UInt8) (h : BytesAt w b o l) :
    (convert 48 9 (.slice (some ⟨b, o, none⟩) l.length cap)).run Tryd.prog w = .ok (.string ⟨l.toArray⟩) w := by
  have h1 := conv_bytes w b o cap l h
  rw [run_convert_bytes_string _ _ _ 5 _ _ _ Tryd.underlying26 Tryd.underlying5 Tryd.underlying9] at h1
  rw [run_convert_bytes_string _ _ _ 5 _ _ _ Tryd.underlying48 Tryd.underlying5 Tryd.underlying9]
  exact h1

def n17 : List UInt8 := [45, 49, 55, 13, 10, 120, 121]

set_option maxRecDepth 100000 in
set_option maxHeartbeats 4000000 in
theorem ynumber_17 (B b : Nat) (v : Value) (w : World) (hB : B < w.heap.size) (hb : b < w.heap.size) (hn : b ≠ B) (hc : w.cell? ⟨B, 0, none⟩ = some v) (hf : w.frozen? ⟨B, 0, none⟩ = false) (hl : LeftV w b v n17) :
    Calls Tryd.prog 41 #[.pointer (some ⟨B, 0, none⟩), .int .i64 (-9223372036854775808), .int .i64 9223372036854775807] w fun e w' => e = .returned (.int .i64 (-17)) ∧ ∃ v', LeftV w b v' [120, 121] ∧ Put w ⟨B, 0, none⟩ v' w' := by
  have HL := Lib.hid hl
  have HN0 := Lib.hid (ynext_ok B b v 45 [49, 55, 13, 10, 120, 121] w hc hl)
  have HT0 := Lib.hid (ytake_ok B b 1 v n17 w hB hc hf hl (by decide))
  obtain ⟨o, cap, rfl, h1, h2, h3⟩ := hl
  have H3 := Lib.hid h3
  have p1 : Hid (parseV [45, 49] = some (-1)) := by unfold Hid; decide
  have p2 : Hid (parseV [45, 49, 55] = some (-17)) := by unfold Hid; decide
  rw [show n17.length = 7 from rfl] at hc h1
  rw [show (((45 : UInt8).toNat : Nat) : Int) = 45 from rfl] at HN0
  clear h3
  go_enter Tryd.func41, Tryd.ntmps41
  go_wp2_with fail
  refine HN0.out.mono ?_
  rintro e w' ⟨rfl, rfl⟩
  go_wp2_with fail
  refine HT0.out.mono ?_
  rintro e w1 ⟨t0, v1, rfl, _, hv1, hp1⟩
  have HP1 := Lib.hid hp1
  have HV1 := Lib.hid hv1
  clear hv1 hp1
  go_wp2
  go_loopw [8, 9] (fun _ _ wr => ∃ (k : Nat) (v : Value), (k = 1 ∨ k = 2) ∧ Put w ⟨B, 0, none⟩ v wr ∧ LeftV w b v (n17.drop k)) (fun _ _ wr => lenAt wr ⟨B, 0, none⟩)
  case atStart => exact ⟨1, v1, Or.inl rfl, HP1.out, HV1.out⟩
  case round =>
    obtain ⟨k, v, hk, hp, hv⟩ := hrel
    have hcv := hp.cell hc
    have hfv := (hp.frozen (q := ⟨B, 0, none⟩) hB).trans hf
    have hzr := hp.size
    have HP := Lib.hid hp
    have HV := Lib.hid hv
    have HVR := Lib.hid (hv.put hp hb hn)
    have HB3 := Lib.hid (H3.out.put hp hb hn)
    have HCV := Lib.hid hcv
    have HFV := Lib.hid hfv
    have hbr : b < wr.heap.size := by omega
    have hBr : B < wr.heap.size := by omega
    obtain ⟨o', cap', rfl, _⟩ := hv
    clear hp hfv HL HP1 HV1 HT0 HN0
    rcases hk with rfl | rfl
    · have HN := Lib.hid (ynext_ok B b _ 49 [55, 13, 10, 120, 121] wr HCV.out HVR.out)
      have hcvt := conv_left wr b o cap [45, 49] (HB3.out.take 2)
      rw [show (n17.drop 1).length = 6 from rfl] at hcv HCV
      rw [show (((49 : UInt8).toNat : Nat) : Int) = 49 from rfl] at HN
      rw [show (([45, 49] : List UInt8).length) = 2 from rfl] at hcvt
      have HPA := Lib.hid (parse_any ⟨#[45, 49]⟩ wr (by decide))
      rw [show (⟨#[45, 49]⟩ : ByteArray).data.toList = [45, 49] from rfl, p1.out] at HPA
      simp only [valV, errV, Option.getD_some, Option.isSome_some, if_true] at HPA
      go_wp2_with fail
      refine HN.out.mono ?_
      rintro e w' ⟨rfl, rfl⟩
      go_wp2_with fail
      refine HPA.out.mono ?_
      rintro e w2 ⟨rfl, hb2⟩
      have HP2 := Lib.hid (HP.out.below hb2)
      have hz2 := hb2.size
      have HT2 := Lib.hid (ytake_ok B b 1 _ (n17.drop 1) w2 (by omega) (HP2.out.cell hc) ((HP2.out.frozen (q := ⟨B, 0, none⟩) hB).trans hf) (HV.out.put HP2.out hb hn) (by decide))
      clear hb2 hcv hcvt HN HPA
      go_wp2_with fail
      refine HT2.out.mono ?_
      rintro e w3 ⟨t3, v3, rfl, _, hv3, hp3⟩
      have HP3 := Lib.hid (HP2.out.trans hp3)
      have HV3 := Lib.hid (LeftV.back hv3 HP2.out hb hn)
      have hc3 := HP3.out.cell hc
      have hz3 := HP3.out.size
      have HVR3 := Lib.hid (HV3.out.put HP3.out hb hn)
      have HN3 := Lib.hid (fun q => (ynext_ok B b v3 55 [13, 10, 120, 121] (w3.drewN q) hc3 HVR3.out))
      rw [show (((55 : UInt8).toNat : Nat) : Int) = 55 from rfl] at HN3
      have HC3 := Lib.hid hc3
      clear hv3 hp3 hc3 HT2
      go_wp2
      go_quiet ((go_at_call 37; exact Calls.quiet_of_same ((HN3.out _).mono fun _ _ h => ⟨h.1, h.2.symm⟩)))
      go_wp2
      go_roundw
      case rel => exact ⟨2, v3, Or.inr rfl, HP3.out.below (below_drewN (Below.refl _ _) _), HV3.out⟩
      case measure =>
        have h3c := HC3.out
        obtain ⟨o3, cap3, rfl, _⟩ := HVR3.out
        have a1 := lenAt_slice (w := wr) HCV.out
        have a2 := lenAt_slice (w := w3) h3c
        show lenAt w3 ⟨B, 0, none⟩ < lenAt wr ⟨B, 0, none⟩
        rw [a1, a2]
        decide
    · have HN := Lib.hid (ynext_ok B b _ 55 [13, 10, 120, 121] wr HCV.out HVR.out)
      have hcvt := conv_left wr b o cap [45, 49, 55] (HB3.out.take 3)
      rw [show (n17.drop 2).length = 5 from rfl] at hcv HCV
      rw [show (((55 : UInt8).toNat : Nat) : Int) = 55 from rfl] at HN
      rw [show (([45, 49, 55] : List UInt8).length) = 3 from rfl] at hcvt
      have HPA := Lib.hid (parse_any ⟨#[45, 49, 55]⟩ wr (by decide))
      rw [show (⟨#[45, 49, 55]⟩ : ByteArray).data.toList = [45, 49, 55] from rfl, p2.out] at HPA
      simp only [valV, errV, Option.getD_some, Option.isSome_some, if_true] at HPA
      go_wp2_with fail
      refine HN.out.mono ?_
      rintro e w' ⟨rfl, rfl⟩
      go_wp2_with fail
      refine HPA.out.mono ?_
      rintro e w2 ⟨rfl, hb2⟩
      have HP2 := Lib.hid (HP.out.below hb2)
      have hz2 := hb2.size
      have HT2 := Lib.hid (ytake_ok B b 1 _ (n17.drop 2) w2 (by omega) (HP2.out.cell hc) ((HP2.out.frozen (q := ⟨B, 0, none⟩) hB).trans hf) (HV.out.put HP2.out hb hn) (by decide))
      clear hb2 hcv hcvt HN HPA
      go_wp2_with fail
      refine HT2.out.mono ?_
      rintro e w3 ⟨t3, v3, rfl, _, hv3, hp3⟩
      have HP3 := Lib.hid (HP2.out.trans hp3)
      have HV3 := Lib.hid (LeftV.back hv3 HP2.out hb hn)
      have hc3 := HP3.out.cell hc
      have hz3 := HP3.out.size
      have HVR3 := Lib.hid (HV3.out.put HP3.out hb hn)
      have HN3 := Lib.hid (fun q => (ynext_ok B b v3 13 [10, 120, 121] (w3.drewN q) hc3 HVR3.out))
      rw [show (((13 : UInt8).toNat : Nat) : Int) = 13 from rfl] at HN3
      have HC3 := Lib.hid hc3
      clear hv3 hp3 hc3 HT2
      go_wp2
      go_quiet ((go_at_call 37; exact Calls.quiet_of_same ((HN3.out _).mono fun _ _ h => ⟨h.1, h.2.symm⟩)))
      have HE := Lib.hid (yend_ok B b v3 [120, 121] (w3.drewN nq) (by show B < w3.heap.size; omega) (by show b < w3.heap.size; omega) hn HC3.out ((HP3.out.frozen (q := ⟨B, 0, none⟩) hB).trans hf) HVR3.out)
      go_wp2_with fail
      refine HE.out.mono ?_
      rintro e w4 ⟨rfl, v4, hv4, hp4⟩
      have HP4 := Lib.hid (HP3.out.trans (Put.after (below_drewN (Below.refl _ _) nq) hp4 (by show B < w3.heap.size; omega)))
      have HV4 := Lib.hid (LeftV.back (show LeftV w3 b v4 _ from hv4) HP3.out hb hn)
      clear hv4 hp4
      go_wp2
      go_ret
      exact ⟨rfl, v4, HV4.out, HP4.out⟩

def l17 : List UInt8 := 58 :: n17

/-- A whole number as a reply. -/
def int17 : Value := .agg #[.int .i64 3, .string ⟨#[]⟩, .int .i64 (-17), .slice none 0 0]

set_option maxRecDepth 100000 in
set_option maxHeartbeats 4000000 in
theorem yreply_17 (B b : Nat) (v : Value) (w : World) (hB : B < w.heap.size) (hb : b < w.heap.size) (hn : b ≠ B) (hc : w.cell? ⟨B, 0, none⟩ = some v) (hf : w.frozen? ⟨B, 0, none⟩ = false) (hl : LeftV w b v l17) :
    Calls Tryd.prog 33 #[.pointer (some ⟨B, 0, none⟩)] w fun e w' => e = .returned int17 ∧ ∃ v', LeftV w b v' [120, 121] ∧ Put w ⟨B, 0, none⟩ v' w' := by
  have HL := Lib.hid hl
  have hal : Below w.heap.size w (w.alloc (.cells #[.int .i64 0, .string ⟨#[]⟩, .int .i64 0, .slice none 0 0] 25)) := (Below.refl _ _).alloc (Nat.le_refl _) _
  have hs : (w.alloc (.cells #[.int .i64 0, .string ⟨#[]⟩, .int .i64 0, .slice none 0 0] 25)).heap.size = w.heap.size + 1 := by simp
  obtain ⟨wa, hwa⟩ : ∃ wa, w.alloc (.cells #[.int .i64 0, .string ⟨#[]⟩, .int .i64 0, .slice none 0 0] 25) = wa := ⟨_, rfl⟩
  have hnew := World.alloc_heap_new w (.cells #[.int .i64 0, .string ⟨#[]⟩, .int .i64 0, .slice none 0 0] 25)
  rw [hwa] at hal hs hnew
  have hca := (hal.cell (p := ⟨B, 0, none⟩) hB).trans hc
  have hfa := (hal.frozen (p := ⟨B, 0, none⟩) hB).trans hf
  have HLA := Lib.hid (hl.below hal hb)
  have HN := Lib.hid (ynext_ok B b v 58 n17 wa hca HLA.out)
  rw [show (((58 : UInt8).toNat : Nat) : Int) = 58 from rfl] at HN
  have HT := Lib.hid (ytake_ok B b 1 v l17 wa (by omega) hca hfa HLA.out (by decide))
  have HI := Lib.hid (Tryd.strings_IndexByte ⟨#[43, 45, 58, 36, 42]⟩ 58 wa)
  rw [show Lib.indexByte (⟨#[43, 45, 58, 36, 42]⟩ : ByteArray).data.toList (58 : Int).toNat.toUInt8 = 2 from by decide] at HI
  have HAL := Lib.hid hal
  have HNEW := Lib.hid hnew
  have HCA := Lib.hid hca
  have HFA := Lib.hid hfa
  have hza : wa.heap.size = w.heap.size + 1 := hs
  have HZA := Lib.hid hza
  have hBa : B < wa.heap.size := by omega
  have hba : b < wa.heap.size := by omega
  have HC := Lib.hid hc
  clear hal hs hnew hca hfa hc hf hl hza
  go_enter Tryd.func33, Tryd.ntmps33
  go_wp2_with fail
  try rw [hwa]
  clear hwa
  refine HN.out.mono ?_
  rintro e w' ⟨rfl, rfl⟩
  go_wp2_with fail
  refine (HI.out.mono fun _ _ h => (⟨h.1, h.2.symm⟩ : _ ∧ wa = _)).mono ?_
  rintro e w' ⟨rfl, rfl⟩
  go_wp2_with fail
  refine HT.out.mono ?_
  rintro e w2 ⟨t2, v2, rfl, _, hv2, hp2⟩
  have HP2 := Lib.hid hp2
  have HV2 := Lib.hid hv2
  have hz2 := hp2.size
  have HNU := Lib.hid (ynumber_17 B b v2 w2 (by omega) (by omega) hn (hp2.cell HCA.out) ((hp2.frozen (q := ⟨B, 0, none⟩) hBa).trans HFA.out) (hv2.put hp2 hba hn))
  clear hp2 hv2 HN HI HT
  go_wp2_with fail
  refine HNU.out.mono ?_
  rintro e w3 ⟨rfl, v3, hv3, hp3⟩
  have hp23 := HP2.out.trans hp3
  have HPW := Lib.hid (Put.after HAL.out hp23 hB)
  have HV3 := Lib.hid (LeftV.back (LeftV.back hv3 HP2.out hba hn) (Put.after HAL.out (Put.refl HCA.out hBa) hB) hb hn)
  have hza := HZA.out
  have hne : ∀ i : Nat, (⟨w.heap.size, i, none⟩ : Addr) ≠ ⟨B, 0, none⟩ := fun i e => by injection e with e _ _; omega
  have r0 := (hp23.old (q := ⟨w.heap.size, 0, none⟩) (hne 0) (by show w.heap.size < wa.heap.size; omega)).trans (cell_in HNEW.out)
  have r1 := (hp23.old (q := ⟨w.heap.size, 1, none⟩) (hne 1) (by show w.heap.size < wa.heap.size; omega)).trans (cell_in HNEW.out)
  have r2 := (hp23.old (q := ⟨w.heap.size, 2, none⟩) (hne 2) (by show w.heap.size < wa.heap.size; omega)).trans (cell_in HNEW.out)
  have r3 := (hp23.old (q := ⟨w.heap.size, 3, none⟩) (hne 3) (by show w.heap.size < wa.heap.size; omega)).trans (cell_in HNEW.out)
  have s0 := (hp23.frozen (q := ⟨w.heap.size, 0, none⟩) (by show w.heap.size < wa.heap.size; omega)).trans (mark_in HNEW.out)
  have s1 := (hp23.frozen (q := ⟨w.heap.size, 1, none⟩) (by show w.heap.size < wa.heap.size; omega)).trans (mark_in HNEW.out)
  have s2 := (hp23.frozen (q := ⟨w.heap.size, 2, none⟩) (by show w.heap.size < wa.heap.size; omega)).trans (mark_in HNEW.out)
  have s3 := (hp23.frozen (q := ⟨w.heap.size, 3, none⟩) (by show w.heap.size < wa.heap.size; omega)).trans (mark_in HNEW.out)
  have r0 : w3.cell? ⟨w.heap.size, 0, none⟩ = some (.int .i64 0) := r0
  have r1 : w3.cell? ⟨w.heap.size, 1, none⟩ = some (.string ⟨#[]⟩) := r1
  have r2 : w3.cell? ⟨w.heap.size, 2, none⟩ = some (.int .i64 0) := r2
  have r3 : w3.cell? ⟨w.heap.size, 3, none⟩ = some (.slice none 0 0) := r3
  clear hp23 hp3 hv3 hne HNU hza
  go_wp2
  refine bodyPost_ret (v := int17) ?_ rfl ⟨rfl, v3, HV3.out, (((HPW.out.far (Nat.le_refl _) _).far (Nat.le_refl _) _).far (Nat.le_refl _) _).far (Nat.le_refl _) _⟩
  simp [results, Tryd.results33, go_sem, int17, r0, r1, r2, r3]

end Go.Proofs.YtbldahkgilkclaaDoor
