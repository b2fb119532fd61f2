/-
  The law SkipNobody: its walk. Condition: the table of math/bits lies where the program laid it.
-/
import Derived.Test.YtijloobjbhdcbaaDoorSkU4
namespace Go.Proofs.YtijloobjbhdcbaaDoor
open Go.RowKit

set_option maxRecDepth 100000 in
set_option maxHeartbeats 32000000 in
theorem skipNobody_any (SM : ByteArray) (rank : Int) (lo hi : Bd) (w : World) (hS : SM.size ≤ 9223372036854775807) (hz : TzB w) :
    Calls Tryd.prog 7 #[.string SM, .int .i64 rank, bdV lo, bdV hi] w fun e w' => e = .returned (.bool true) ∧ Below w.heap.size w w' := by
  obtain ⟨M, hM⟩ : ∃ M, w.heap.size = M := ⟨_, rfl⟩
  obtain ⟨wa, hwa⟩ : ∃ wa, (w.alloc (.cells #[.int .i64 lo.n, .bool lo.open_, .int .i64 lo.inf] 23)).alloc (.cells #[.int .i64 hi.n, .bool hi.open_, .int .i64 hi.inf] 23) = wa := ⟨_, rfl⟩
  obtain ⟨l1, l2, ba, sa⟩ := two_bounds w lo hi hM hwa
  obtain ⟨wb, hwb⟩ : ∃ wb, wa.alloc (.cells #[.pointer none, .pointer none] 73) = wb := ⟨_, rfl⟩
  have rb : wb.rowIs (M + 2) 73 2 (fun _ => .pointer none) := by rw [← hwb, ← sa]; exact rows2 _ _ _ rfl rfl
  have bb : Below wa.heap.size wa wb := by rw [← hwb]; exact (Below.refl _ _).alloc (Nat.le_refl _) _
  have sb : wb.heap.size = M + 3 := by rw [← hwb]; simp [sa]
  obtain ⟨ws, hws⟩ : ∃ ws, wb.alloc (.cells #[.pointer none, .pointer (some ⟨M + 2, 0, none⟩)] 38) = ws := ⟨_, rfl⟩
  have rs : ws.rowIs (M + 3) 38 2 (fun i => if i = 0 then .pointer none else .pointer (some ⟨M + 2, 0, none⟩)) := by rw [← hws, ← sb]; exact rows2 _ _ _ rfl rfl
  have bs : Below wb.heap.size wb ws := by rw [← hws]; exact (Below.refl _ _).alloc (Nat.le_refl _) _
  have ss : ws.heap.size = M + 4 := by rw [← hws]; simp [sb]
  have bas : Below wa.heap.size wa ws := bb.trans (bs.mono bb.size)
  have bws : Below M w ws := ba.trans (bas.mono (by omega))
  have k1 : BdAt ws M lo := l1.below (by omega) bas
  have k2 : BdAt ws (M + 1) hi := l2.below (by omega) bas
  have HTZ : Hid (∀ X, Below ws.heap.size ws X → TzB X) := fun X hX => (hz.below (by rw [hM]; exact bws)).below hX
  have HNL : Hid (∀ X, Below ws.heap.size ws X → ∀ i, i < 2 → ∃ p, X.cell? ⟨M + 3, i, none⟩ = some (.pointer p) ∧ ∀ Y, Below ws.heap.size ws Y → NoL Y (.pointer p)) := fun X hX i hi => by
    have q := (rs.of_block (hX.block (M + 3) rs.lt)).cell hi
    rcases (by omega : i = 0 ∨ i = 1) with rfl | rfl
    · exact ⟨none, q, fun Y hY => Or.inl rfl⟩
    · exact ⟨some ⟨M + 2, 0, none⟩, q, fun Y hY => Or.inr ⟨M + 2, rfl, (rb.of_block (bs.block (M + 2) rb.lt)).of_block (hY.block (M + 2) (by omega))⟩⟩
  have HK : Hid (∀ X, Below ws.heap.size ws X → Below ws.heap.size ws X ∧ X.cell? ⟨M, 0, none⟩ = some (.int .i64 lo.n) ∧ X.cell? ⟨M, 1, none⟩ = some (.bool lo.open_) ∧ X.cell? ⟨M, 2, none⟩ = some (.int .i64 lo.inf) ∧ X.cell? ⟨M + 1, 0, none⟩ = some (.int .i64 hi.n) ∧ X.cell? ⟨M + 1, 1, none⟩ = some (.bool hi.open_) ∧ X.cell? ⟨M + 1, 2, none⟩ = some (.int .i64 hi.inf)) := fun X hX => by
    obtain ⟨a1, a2, a3⟩ := k1.below (by omega) hX
    obtain ⟨a4, a5, a6⟩ := k2.below (by omega) hX
    exact ⟨hX, a1, a2, a3, a4, a5, a6⟩
  have HBM : Hid (∀ X, Below ws.heap.size ws X → Below M w X) := fun X hX => bws.trans (hX.mono (by omega))
  have H0 : Hid (Below ws.heap.size ws ws) := Below.refl _ _
  have HWA := Lib.hid hwa
  have HWB := Lib.hid hwb
  have HWS := Lib.hid hws
  have HSM := Lib.hid hS
  have HSA := Lib.hid sa
  have HSB := Lib.hid sb
  have HSS := Lib.hid ss
  have HMh := Lib.hid hM
  have HCT : Hid (∀ X V, NoL X V → TzB X → Calls Tryd.prog 33 #[V, bdV lo, bdV hi] X fun e w' => e = .returned (.int .i64 0) ∧ Below X.heap.size X w') := fun X V h1 h2 => ncount_any h1 h2 lo hi
  have HFI : Hid (∀ X V, NoL X V → TzB X → Calls Tryd.prog 32 #[V, bdV lo, bdV hi] X fun e w' => e = .returned (.tuple #[.int .i64 0, .bool false]) ∧ Below X.heap.size X w') := fun X V h1 h2 => nfirst_any h1 h2 lo hi
  unfold bdV at HCT HFI ⊢
  have hwb' : wa.alloc (.cells #[.pointer none, .pointer none] 73) = wb := hwb
  rw [hM]
  clear hwa hwb hwb' hws l1 l2 ba rb bb rs bs bas bws k1 k2 hz hS
  go_enter Tryd.func7, Tryd.ntmps7
  go_wp2_with fail
  rw [show M + 1 + 1 + 1 = M + 3 from rfl, show M + 1 + 1 = M + 2 from rfl, HWA.out, HWB.out, HWS.out]
  go_loopw [27] (fun iv wr => ∃ i : Nat, iv = .int .i64 i ∧ i ≤ 2 ∧ Below ws.heap.size ws wr) (fun iv _ => 2 - (intOf iv).toNat)
  case atStart => exact ⟨0, rfl, by omega, H0.out⟩
  case round =>
    obtain ⟨i, rfl, hi, hb⟩ := hrel
    have HB0 := Lib.hid hb
    clear hb
    by_cases hlt : i < 2
    · obtain ⟨p, hp, hno⟩ := HNL.out wr HB0.out i hlt
      have HNO := Lib.hid hno
      have HLI := Lib.hid hlt
      have hlt' : (i : Int) < 2 := by omega
      have HSC := Lib.hid (nscore_any (HNO.out wr HB0.out) (HTZ.out wr HB0.out) SM HSM.out)
      clear hno hlt hi
      go_wp2_with fail
      refine HSC.out.mono ?_
      rintro e w1 ⟨rfl, hb⟩
      have HB1 := Lib.hid (bup HB0.out hb)
      have HRK := Lib.hid (nrank_any (HNO.out w1 HB1.out) (HTZ.out w1 HB1.out) SM HSM.out)
      clear hb
      go_wp2_with fail
      refine HRK.out.mono ?_
      rintro e w2 ⟨rfl, hb⟩
      have HB2 := Lib.hid (bup HB1.out hb)
      have HAT := Lib.hid (nat_any (HNO.out w2 HB2.out) (HTZ.out w2 HB2.out) rank)
      clear hb
      go_wp2_with fail
      refine HAT.out.mono ?_
      rintro e w3 ⟨rfl, hb⟩
      have HB3 := Lib.hid (bup HB2.out hb)
      clear hb hp
      obtain ⟨_, c0, c1, c2, c3, c4, c5⟩ := HK.out w3 HB3.out
      have hm0 : M < w3.heap.size := by have := HB3.out.size; have := HSS.out; omega
      have hm1 : M + 1 < w3.heap.size := by have := HB3.out.size; have := HSS.out; omega
      go_wp2_with fail
      refine (HFI.out _ _ (HNO.out _ (HB3.out.alloc HB3.out.size _)) (HTZ.out _ (HB3.out.alloc HB3.out.size _))).mono ?_
      rintro e w4 ⟨rfl, hb⟩
      have HB4 := Lib.hid (bup (HB3.out.alloc HB3.out.size _) hb)
      have HFR := Lib.hid (lawfrom_none (HNO.out w4 HB4.out) (HTZ.out w4 HB4.out) rank)
      clear hb c0 c1 c2 c3 c4 c5 hm0 hm1
      go_wp2_with fail
      refine HFR.out.mono ?_
      rintro e w5 ⟨rfl, hb⟩
      have HB5 := Lib.hid (bup HB4.out hb)
      clear hb
      go_wp2_with fail
      go_region_held3 (fun X => Below ws.heap.size ws X ∧ X.cell? ⟨M, 0, none⟩ = some (.int .i64 lo.n) ∧ X.cell? ⟨M, 1, none⟩ = some (.bool lo.open_) ∧ X.cell? ⟨M, 2, none⟩ = some (.int .i64 lo.inf) ∧ X.cell? ⟨M + 1, 0, none⟩ = some (.int .i64 hi.n) ∧ X.cell? ⟨M + 1, 1, none⟩ = some (.bool hi.open_) ∧ X.cell? ⟨M + 1, 2, none⟩ = some (.int .i64 hi.inf))
        (first | exact HK.out _ HE5.out | exact HK.out _ HE4.out | exact HK.out _ HE3.out | exact HK.out _ HE2.out | exact HK.out _ HE1.out | exact HK.out _ HB5.out.drew | exact HK.out _ HB5.out)
        (first
        | (have qq := HE4; clear qq; go_at_call 23; refine Calls.mono (nall_any (HNO.out _ HE4.out) (HTZ.out _ HE4.out)) ?_; rintro en x5 ⟨⟨A5, n5, rfl⟩, hb⟩; have HE5 : Hid (Below ws.heap.size ws x5) := bup HE4.out hb; clear hb)
        | (have qq := HE3; clear qq; go_at_call 33; refine Calls.mono (HCT.out _ _ (HNO.out _ HE3.out) (HTZ.out _ HE3.out)) ?_; rintro en x4 ⟨rfl, hb⟩; have HE4 : Hid (Below ws.heap.size ws x4) := bup HE3.out hb; clear hb)
        | (have qq := HE2; clear qq; go_at_call 20; refine Calls.mono (nlen_any (HNO.out _ HE2.out) (HTZ.out _ HE2.out)) ?_; rintro en x3 ⟨rfl, hb⟩; have HE3 : Hid (Below ws.heap.size ws x3) := bup HE2.out hb; clear hb)
        | (have qq := HE1; clear qq; go_at_call 27; refine Calls.mono (ndel_any (HNO.out _ HE1.out) (HTZ.out _ HE1.out) SM HSM.out) ?_; rintro en x2 ⟨rfl, hb⟩; have HE2 : Hid (Below ws.heap.size ws x2) := bup HE1.out hb; clear hb)
        | (go_at_call 21; refine Calls.mono (nput_any (HNO.out _ (by first | exact HB5.out | exact HB5.out.drew)) SM 1) ?_; rintro en x1 ⟨rfl, hb⟩; have HE1 : Hid (Below ws.heap.size ws x1) := (by first | exact hb ▸ HB5.out | exact hb ▸ HB5.out.drew); clear hb))
      all_goals
        go_wp2
        go_roundw
        case rel => exact ⟨i + 1, by go_num, by have := HLI.out; omega, HE5.out⟩
        case measure => simp only [intOf]; have := HLI.out; omega
    · have hge : ¬ (i : Int) < 2 := by omega
      have HAL := Lib.hid (alive_any wr (HTZ.out wr HB0.out).1 (HTZ.out wr HB0.out).2)
      clear hlt
      go_wp2_with fail
      refine HAL.out.mono ?_
      rintro e w1 ⟨rfl, hb⟩
      have HB1 := Lib.hid (bup HB0.out hb)
      clear hb
      go_wp2
      go_ret
      exact ⟨rfl, HBM.out _ HB1.out⟩

end Go.Proofs.YtijloobjbhdcbaaDoor
