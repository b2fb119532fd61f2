/-
  The statements' act: its walk. Condition: both rings hold alike, in blocks of their own; the act is one of the script.
-/
import Derived.Test.YtbecjaamheibmaaRbG
import Derived.Deep.RegionHeld3
namespace Go.Proofs.Ytbecjaamheibmaa
open Go.RowKit

set_option maxRecDepth 100000 in
set_option maxHeartbeats 32000000 in
theorem act_any {W w : World} {base p q s : Nat} {F G : Nat → Prop} {h : Hst} {X : Tx} (hWB : W.heap.size = base) (hlowW : Below base W w) (H : Pr19 w base F p G q s h X h X) (x : Op19) (hx : x.Ok W) :
    Calls Try.prog 12 #[.pointer (some ⟨p, 0, none⟩), .pointer (some ⟨q, 0, none⟩), .agg #[.int .i64 x.kind, .slice x.A x.n x.c, .int .u64 x.id, .int .i64 x.off]] w fun e w' => e = .returned (.bool true) ∧ PrTo w base p q s w' := by
  obtain ⟨kd, A, n, c, id, of, b0⟩ := x
  obtain ⟨hby, i1, i2, o1, o2⟩ := hx
  dsimp only at hby i1 i2 o1 o2 ⊢
  obtain ⟨m, hm5, hmn, hbm, hcut⟩ := cut_any hby
  have HCUT := Lib.hid hcut
  obtain ⟨b, hbe⟩ : ∃ b, b0.take 500 = b := ⟨_, rfl⟩
  rw [hbe] at hbm
  obtain ⟨w0, hw0⟩ : ∃ w0, w.alloc (.cells #[.int .i64 kd, .slice A n c, .int .u64 id, .int .i64 of] 35) = w0 := ⟨_, rfl⟩
  have hb0 : Below w.heap.size w w0 := by rw [← hw0]; exact (Below.refl _ _).alloc (Nat.le_refl _) _
  have hbx : BoxAt w0 w.heap.size kd A n c id of := by
    rw [← hw0]
    exact World.rowIs_alloc w _ _ _ (fun i hi => by
      have hi : i < 4 := hi
      rcases (by omega : i = 0 ∨ i = 1 ∨ i = 2 ∨ i = 3) with rfl | rfl | rfl | rfl <;> rfl)
  have hbs := H.d.bs
  have hlow0 : Below base w w0 := hb0.mono hbs
  have HY : Hid (∀ Z, Below base w0 Z → ByAt Z A m c b) := fun Z hZ => hbm.below (by rw [hWB]; exact (hlowW.trans hlow0).trans hZ)
  have HG : Hid (∀ g o, 0 < m → A = some ⟨g, o, none⟩ → g < base) := fun g o h0 e => by
    obtain ⟨g', o', e', hlt, _⟩ := hbm.cell (j := 0) h0
    rw [e] at e'
    injection e' with e'
    injection e' with q1 q2
    omega
  have HFN : Hid (∀ k, F k → k ≠ w.heap.size) := fun k hk e => by have := (H.d.ls.1 k hk).2; omega
  have HGN : Hid (∀ k, G k → k ≠ w.heap.size) := fun k hk e => by have := (H.r.own k hk).2; omega
  have HP := Lib.hid (H.below hb0)
  have HBX := Lib.hid hbx
  have HTO : Hid (∀ (h1 : Hst) (X1 : Tx) (N : Nat) (Z : World), PrBx w0 base p q s h1 X1 h1 X1 N kd A n c id of Z → PrTo w base p q s Z) := fun h1 X1 N Z ⟨F', G', k1, _, _, _, k5⟩ => ⟨F', G', h1, X1, k1, hlow0.trans k5⟩
  have HSELF : Hid (PrTo w base p q s w0) := ⟨F, G, h, X, HP.out, hlow0⟩
  have c0 : w0.cell? ⟨w.heap.size, 0, none⟩ = some (.int .i64 kd) := hbx.cell (i := 0) (by omega)
  have c1 : w0.cell? ⟨w.heap.size, 1, none⟩ = some (.slice A n c) := hbx.cell (i := 1) (by omega)
  have c2 : w0.cell? ⟨w.heap.size, 2, none⟩ = some (.int .u64 id) := hbx.cell (i := 2) (by omega)
  have c3 : w0.cell? ⟨w.heap.size, 3, none⟩ = some (.int .i64 of) := hbx.cell (i := 3) (by omega)
  have HW0 := Lib.hid hw0
  obtain ⟨N, hN⟩ : ∃ N, w.heap.size = N := ⟨_, rfl⟩
  rw [hN] at HFN HGN HBX c0 c1 c2 c3
  have HN := Lib.hid hN
  have HCEL : Hid (∀ Z, BoxAt Z N kd A n c id of → Z.cell? ⟨N, 1, none⟩ = some (.slice A n c) ∧ Z.cell? ⟨N, 2, none⟩ = some (.int .u64 id) ∧ Z.cell? ⟨N, 3, none⟩ = some (.int .i64 of)) := fun Z hZ => ⟨hZ.cell (i := 1) (by omega), hZ.cell (i := 2) (by omega), hZ.cell (i := 3) (by omega)⟩
  clear hcut hbm hbe hby hw0 hb0 hbx H hN hlow0 hlowW
  by_cases k1 : kd = 1
  · subst k1
    have HD1 : Hid (∀ Z, Below w0.heap.size w0 Z → Calls Try.prog 26 #[.pointer (some ⟨p, 0, none⟩), .slice A m c] Z fun e w' => e = .returned (.int .i64 (fdE h m)) ∧ PrBx w0 base p q s (fdH h m) (fdX h X b) h X N 1 A n c id of w') := fun Z hZ => by
      have hB : Below base w0 Z := hZ.mono HP.out.d.bs
      exact aFeed_d w0 (HP.out.below hZ) HFN.out HGN.out (HBX.out.of_block (hZ.block N HBX.out.lt)) hB (HY.out Z (hB)) HG.out
    have HR1 : Hid (∀ Z, Below w0.heap.size w0 Z → Calls Try.prog 29 #[.pointer (some ⟨q, 0, none⟩), .slice A m c] Z fun e w' => e = .returned (.int .i64 (fdE h m)) ∧ PrBx w0 base p q s h X (fdH h m) (fdX h X b) N 1 A n c id of w') := fun Z hZ => by
      have hB : Below base w0 Z := hZ.mono HP.out.d.bs
      exact aFeed_r w0 (HP.out.below hZ) HFN.out HGN.out (HBX.out.of_block (hZ.block N HBX.out.lt)) hB (HY.out Z (hB)) HG.out hm5
    have HD2 : Hid (∀ Z, PrBx w0 base p q s h X (fdH h m) (fdX h X b) N 1 A n c id of Z → Calls Try.prog 26 #[.pointer (some ⟨p, 0, none⟩), .slice A m c] Z fun e w' => e = .returned (.int .i64 (fdE h m)) ∧ PrBx w0 base p q s (fdH h m) (fdX h X b) (fdH h m) (fdX h X b) N 1 A n c id of w') := fun Z ⟨F', G', k1, k2, k3, k4, hB⟩ =>
      aFeed_d w0 k1 k2 k3 k4 hB (HY.out Z (hB)) HG.out
    have HR2 : Hid (∀ Z, PrBx w0 base p q s (fdH h m) (fdX h X b) h X N 1 A n c id of Z → Calls Try.prog 29 #[.pointer (some ⟨q, 0, none⟩), .slice A m c] Z fun e w' => e = .returned (.int .i64 (fdE h m)) ∧ PrBx w0 base p q s (fdH h m) (fdX h X b) (fdH h m) (fdX h X b) N 1 A n c id of w') := fun Z ⟨F', G', k1, k2, k3, k4, hB⟩ =>
      aFeed_r w0 k1 k2 k3 k4 hB (HY.out Z (hB)) HG.out hm5
    have HBB : Hid (∀ (h1 h2 : Hst) (X1 X2 : Tx) (Z : World), PrBx w0 base p q s h1 X1 h2 X2 N 1 A n c id of Z → BoxAt Z N 1 A n c id of) := fun _ _ _ _ _ ⟨_, _, _, _, _, k4, _⟩ => k4
    have HEND : Hid (∀ Z, PrBx w0 base p q s (fdH h m) (fdX h X b) (fdH h m) (fdX h X b) N 1 A n c id of Z → PrTo w base p q s Z) := fun Z k => HTO.out _ _ _ Z k
    obtain ⟨E0, hE0⟩ : ∃ e, fdE h m = e := ⟨_, rfl⟩
    rw [hE0] at HD1 HR1 HD2 HR2
    clear hE0 HSELF
    go_enter Try.func12, Try.ntmps12
    go_wp2_with (first | rw [HW0.out] | rw [HN.out])
    go_region_held3 (fun Z => Z.cell? ⟨N, 1, none⟩ = some (.slice A n c)) (first | exact c1 | exact (HCEL.out _ HX5.out).1 | exact (HCEL.out _ HX6.out).1 | exact (HCEL.out _ HBX.out).1) (first
      | (have qq := HPr; clear qq; go_at_call 26; refine Calls.mono (HD2.out _ HPr.out) ?_; rintro en w6 ⟨rfl, hto⟩; have HP6 := Lib.hid hto; have HX6 := Lib.hid (HBB.out _ _ _ _ _ hto); clear hto)
      | (have qq := HPd; clear qq; go_at_call 29; refine Calls.mono (HR2.out _ HPd.out) ?_; rintro en w6 ⟨rfl, hto⟩; have HP6 := Lib.hid hto; have HX6 := Lib.hid (HBB.out _ _ _ _ _ hto); clear hto)
      | (go_at_call 26; refine Calls.mono (HD1.out _ (by first | exact Below.refl _ _ | exact (Below.refl _ _).drew | exact below_drewN _ _ _)) ?_; rintro en w5 ⟨rfl, hto⟩; have HPd := Lib.hid hto; have HX5 := Lib.hid (HBB.out _ _ _ _ _ hto); clear hto)
      | (go_at_call 29; refine Calls.mono (HR1.out _ (by first | exact Below.refl _ _ | exact (Below.refl _ _).drew | exact below_drewN _ _ _)) ?_; rintro en w5 ⟨rfl, hto⟩; have HPr := Lib.hid hto; have HX5 := Lib.hid (HBB.out _ _ _ _ _ hto); clear hto)
      | (go_at_call 25; refine Calls.mono (HCUT.out _) ?_; rintro en wc ⟨rfl, rfl⟩))
    all_goals
      go_wp2
      go_ret
      exact ⟨rfl, HEND.out _ HP6.out⟩
  · have k1b : (kd == 1) = false := by simpa using k1
    by_cases k2 : kd = 2
    · subst k2
      have HD1 : Hid (∀ Z, Below w0.heap.size w0 Z → Calls Try.prog 27 #[.pointer (some ⟨p, 0, none⟩), .int .u64 id] Z fun e w' => e = .returned (.int .i64 (fkE h id)) ∧ PrBx w0 base p q s (fkH h id) X h X N 2 A n c id of w') := fun Z hZ => by
        have hB : Below base w0 Z := hZ.mono HP.out.d.bs
        exact aFork_d w0 (HP.out.below hZ) HFN.out HGN.out (HBX.out.of_block (hZ.block N HBX.out.lt)) hB i1 i2
      have HR1 : Hid (∀ Z, Below w0.heap.size w0 Z → Calls Try.prog 30 #[.pointer (some ⟨q, 0, none⟩), .int .u64 id] Z fun e w' => e = .returned (.int .i64 (fkE h id)) ∧ PrBx w0 base p q s h X (fkH h id) X N 2 A n c id of w') := fun Z hZ => by
        have hB : Below base w0 Z := hZ.mono HP.out.d.bs
        exact aFork_r w0 (HP.out.below hZ) HFN.out HGN.out (HBX.out.of_block (hZ.block N HBX.out.lt)) hB i1 i2
      have HD2 : Hid (∀ Z, PrBx w0 base p q s h X (fkH h id) X N 2 A n c id of Z → Calls Try.prog 27 #[.pointer (some ⟨p, 0, none⟩), .int .u64 id] Z fun e w' => e = .returned (.int .i64 (fkE h id)) ∧ PrBx w0 base p q s (fkH h id) X (fkH h id) X N 2 A n c id of w') := fun Z ⟨F', G', k1, k2, k3, k4, hB⟩ =>
        aFork_d w0 k1 k2 k3 k4 hB i1 i2
      have HR2 : Hid (∀ Z, PrBx w0 base p q s (fkH h id) X h X N 2 A n c id of Z → Calls Try.prog 30 #[.pointer (some ⟨q, 0, none⟩), .int .u64 id] Z fun e w' => e = .returned (.int .i64 (fkE h id)) ∧ PrBx w0 base p q s (fkH h id) X (fkH h id) X N 2 A n c id of w') := fun Z ⟨F', G', k1, k2, k3, k4, hB⟩ =>
        aFork_r w0 k1 k2 k3 k4 hB i1 i2
      have HBB : Hid (∀ (h1 h2 : Hst) (X1 X2 : Tx) (Z : World), PrBx w0 base p q s h1 X1 h2 X2 N 2 A n c id of Z → BoxAt Z N 2 A n c id of) := fun _ _ _ _ _ ⟨_, _, _, _, _, k4, _⟩ => k4
      have HEND : Hid (∀ Z, PrBx w0 base p q s (fkH h id) X (fkH h id) X N 2 A n c id of Z → PrTo w base p q s Z) := fun Z k => HTO.out _ _ _ Z k
      obtain ⟨E0, hE0⟩ : ∃ e, fkE h id = e := ⟨_, rfl⟩
      rw [hE0] at HD1 HR1 HD2 HR2
      clear hE0 HSELF
      go_enter Try.func12, Try.ntmps12
      go_wp2_with (first | rw [HW0.out] | rw [HN.out])
      go_region_held3 (fun Z => Z.cell? ⟨N, 2, none⟩ = some (.int .u64 id)) (first | exact c2 | exact (HCEL.out _ HX5.out).2.1 | exact (HCEL.out _ HX6.out).2.1 | exact (HCEL.out _ HBX.out).2.1) (first
        | (have qq := HPr; clear qq; go_at_call 27; refine Calls.mono (HD2.out _ HPr.out) ?_; rintro en w6 ⟨rfl, hto⟩; have HP6 := Lib.hid hto; have HX6 := Lib.hid (HBB.out _ _ _ _ _ hto); clear hto)
        | (have qq := HPd; clear qq; go_at_call 30; refine Calls.mono (HR2.out _ HPd.out) ?_; rintro en w6 ⟨rfl, hto⟩; have HP6 := Lib.hid hto; have HX6 := Lib.hid (HBB.out _ _ _ _ _ hto); clear hto)
        | (go_at_call 27; refine Calls.mono (HD1.out _ (by first | exact Below.refl _ _ | exact (Below.refl _ _).drew | exact below_drewN _ _ _)) ?_; rintro en w5 ⟨rfl, hto⟩; have HPd := Lib.hid hto; have HX5 := Lib.hid (HBB.out _ _ _ _ _ hto); clear hto)
        | (go_at_call 30; refine Calls.mono (HR1.out _ (by first | exact Below.refl _ _ | exact (Below.refl _ _).drew | exact below_drewN _ _ _)) ?_; rintro en w5 ⟨rfl, hto⟩; have HPr := Lib.hid hto; have HX5 := Lib.hid (HBB.out _ _ _ _ _ hto); clear hto)
        )
      all_goals
        go_wp2
        go_ret
        exact ⟨rfl, HEND.out _ HP6.out⟩
    · have k2b : (kd == 2) = false := by simpa using k2
      by_cases k3 : kd = 3
      · subst k3
        have HD1 : Hid (∀ Z, Below w0.heap.size w0 Z → Calls Try.prog 28 #[.pointer (some ⟨p, 0, none⟩), .int .u64 id, .int .i64 of] Z fun e w' => e = .returned (.int .i64 (flE id of)) ∧ PrBx w0 base p q s (flH h id of) (flX X id of) h X N 3 A n c id of w') := fun Z hZ => by
          have hB : Below base w0 Z := hZ.mono HP.out.d.bs
          exact aFollow_d w0 (HP.out.below hZ) HFN.out HGN.out (HBX.out.of_block (hZ.block N HBX.out.lt)) hB i1 i2
        have HR1 : Hid (∀ Z, Below w0.heap.size w0 Z → Calls Try.prog 31 #[.pointer (some ⟨q, 0, none⟩), .int .u64 id, .int .i64 of] Z fun e w' => e = .returned (.int .i64 (flE id of)) ∧ PrBx w0 base p q s h X (flH h id of) (flX X id of) N 3 A n c id of w') := fun Z hZ => by
          have hB : Below base w0 Z := hZ.mono HP.out.d.bs
          exact aFollow_r w0 (HP.out.below hZ) HFN.out HGN.out (HBX.out.of_block (hZ.block N HBX.out.lt)) hB i1 i2
        have HD2 : Hid (∀ Z, PrBx w0 base p q s h X (flH h id of) (flX X id of) N 3 A n c id of Z → Calls Try.prog 28 #[.pointer (some ⟨p, 0, none⟩), .int .u64 id, .int .i64 of] Z fun e w' => e = .returned (.int .i64 (flE id of)) ∧ PrBx w0 base p q s (flH h id of) (flX X id of) (flH h id of) (flX X id of) N 3 A n c id of w') := fun Z ⟨F', G', k1, k2, k3, k4, hB⟩ =>
          aFollow_d w0 k1 k2 k3 k4 hB i1 i2
        have HR2 : Hid (∀ Z, PrBx w0 base p q s (flH h id of) (flX X id of) h X N 3 A n c id of Z → Calls Try.prog 31 #[.pointer (some ⟨q, 0, none⟩), .int .u64 id, .int .i64 of] Z fun e w' => e = .returned (.int .i64 (flE id of)) ∧ PrBx w0 base p q s (flH h id of) (flX X id of) (flH h id of) (flX X id of) N 3 A n c id of w') := fun Z ⟨F', G', k1, k2, k3, k4, hB⟩ =>
          aFollow_r w0 k1 k2 k3 k4 hB i1 i2
        have HBB : Hid (∀ (h1 h2 : Hst) (X1 X2 : Tx) (Z : World), PrBx w0 base p q s h1 X1 h2 X2 N 3 A n c id of Z → BoxAt Z N 3 A n c id of) := fun _ _ _ _ _ ⟨_, _, _, _, _, k4, _⟩ => k4
        have HEND : Hid (∀ Z, PrBx w0 base p q s (flH h id of) (flX X id of) (flH h id of) (flX X id of) N 3 A n c id of Z → PrTo w base p q s Z) := fun Z k => HTO.out _ _ _ Z k
        obtain ⟨E0, hE0⟩ : ∃ e, flE id of = e := ⟨_, rfl⟩
        rw [hE0] at HD1 HR1 HD2 HR2
        clear hE0 HSELF
        go_enter Try.func12, Try.ntmps12
        go_wp2_with (first | rw [HW0.out] | rw [HN.out])
        go_region_held3 (fun Z => Z.cell? ⟨N, 2, none⟩ = some (.int .u64 id) ∧ Z.cell? ⟨N, 3, none⟩ = some (.int .i64 of)) (first | exact ⟨c2, c3⟩ | exact (HCEL.out _ HX5.out).2 | exact (HCEL.out _ HX6.out).2 | exact (HCEL.out _ HBX.out).2) (first
          | (have qq := HPr; clear qq; go_at_call 28; refine Calls.mono (HD2.out _ HPr.out) ?_; rintro en w6 ⟨rfl, hto⟩; have HP6 := Lib.hid hto; have HX6 := Lib.hid (HBB.out _ _ _ _ _ hto); clear hto)
          | (have qq := HPd; clear qq; go_at_call 31; refine Calls.mono (HR2.out _ HPd.out) ?_; rintro en w6 ⟨rfl, hto⟩; have HP6 := Lib.hid hto; have HX6 := Lib.hid (HBB.out _ _ _ _ _ hto); clear hto)
          | (go_at_call 28; refine Calls.mono (HD1.out _ (by first | exact Below.refl _ _ | exact (Below.refl _ _).drew | exact below_drewN _ _ _)) ?_; rintro en w5 ⟨rfl, hto⟩; have HPd := Lib.hid hto; have HX5 := Lib.hid (HBB.out _ _ _ _ _ hto); clear hto)
          | (go_at_call 31; refine Calls.mono (HR1.out _ (by first | exact Below.refl _ _ | exact (Below.refl _ _).drew | exact below_drewN _ _ _)) ?_; rintro en w5 ⟨rfl, hto⟩; have HPr := Lib.hid hto; have HX5 := Lib.hid (HBB.out _ _ _ _ _ hto); clear hto)
          )
        all_goals
          go_wp2
          go_ret
          exact ⟨rfl, HEND.out _ HP6.out⟩
      · have k3b : (kd == 3) = false := by simpa using k3
        go_enter Try.func12, Try.ntmps12
        go_wp2_with (first | rw [HW0.out] | rw [HN.out])
        go_ret
        exact ⟨rfl, HSELF.out⟩

end Go.Proofs.Ytbecjaamheibmaa
