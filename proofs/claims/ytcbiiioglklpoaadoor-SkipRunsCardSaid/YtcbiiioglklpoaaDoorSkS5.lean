/-
  The document's own Put, Load over members in order. Conditions: the rows lie in memory. The document's own Load. Conditions: the members lie in memory.
-/
import Derived.Test.YtcbiiioglklpoaaDoorSkS3
import Derived.Deep.RegionWith
namespace Go.Proofs.YtcbiiioglklpoaaDoor
open Go.RowKit

theorem sd_one (W : World) (m : ByteArray) (z : Int) (g : Nat) (hg : g = W.heap.size) : SdAt (W.alloc (.cells #[.string m, .int .i64 z] 47)) (some ⟨g, 0, none⟩) 1 1 [(m.data.toList, z)] := by
  subst hg
  have r := rows2 (w := W) (t := 47) (.string m) (.int .i64 z) (fun i => if i = 0 then .string m else .int .i64 z) rfl rfl
  refine ⟨⟨rfl, Nat.le_refl _, by omega, fun _ => ⟨W.heap.size, 0, rfl, r.lt, fun j x hx => ?_⟩⟩, fun e => by cases e⟩
  rcases j with _ | j
  · simp at hx
    subst hx
    have e : (⟨m.data.toList.toArray⟩ : ByteArray) = m := str_of_list rfl
    dsimp only
    rw [e]
    exact ⟨r.cell (i := 0) (by omega), r.cell (i := 1) (by omega)⟩
  · simp at hx

theorem sd_grown {W W' : World} {b o n c : Nat} {l : List Mb} {r : Option Nat} (h : SdAt W (some ⟨b, o, none⟩) n c l) (hg : W.grownBy W' r) (hn : some b ≠ r) : SdAt W' (some ⟨b, o, none⟩) n c l :=
  ⟨h.1.keep (fun b' o' hn' e => by
    obtain ⟨b2, o2, e2, hb, _⟩ := h.1.at_ hn'
    injection e with e
    injection e with e1 e3
    injection e2 with e2
    injection e2 with e4 e5
    subst e1
    exact hg.block b (by omega) hn) hg.size, h.2⟩

theorem putM_of {l l2 : List Mb} {m : List UInt8} {z : Int} (h : (fndM l m = none ∧ l2 = l) ∨ ∃ k, fndM l m = some k ∧ l2 = delAt l k) : putM l m z = insAt l2 (rkM (m, z) l2) (m, z) := by
  unfold putM
  rcases h with ⟨h1, rfl⟩ | ⟨k, h1, rfl⟩ <;> rw [h1]

set_option maxRecDepth 100000 in
set_option maxHeartbeats 16000000 in
theorem rput_any {A : Option Addr} {n cp : Nat} {l : List Mb} (w : World) (hl : SdAt w A n cp l) (ho : InOrd l) (hn : n ≤ 900000) (m : ByteArray) (z : Int) :
    Calls Tryd.prog 26 #[.slice A n cp, .string m, .int .i64 z] w fun e w' => ∃ A' c', e = .returned (.slice A' (putM l m.data.toList z).length c') ∧ SdAt w' A' (putM l m.data.toList z).length c' (putM l m.data.toList z) ∧ Below w.heap.size w w' ∧ Frh w.heap.size A' := by
  have HFI0 := Lib.hid (rfind_any w hl.1 m)
  obtain ⟨x, hx⟩ : ∃ x : Mb, (m.data.toList, z) = x := ⟨_, rfl⟩
  obtain ⟨P, hP⟩ : ∃ P, putM l m.data.toList z = P := ⟨_, rfl⟩
  have HPP := Lib.hid (fun l2 h => (hP.symm.trans (putM_of (l := l) (l2 := l2) (m := m.data.toList) (z := z) h)))
  have HX1 : Hid (∀ (W : World) (g : Nat), g = W.heap.size → SdAt (W.alloc (.cells #[.string m, .int .i64 z] 47)) (some ⟨g, 0, none⟩) 1 1 [x]) := fun W g hg => hx ▸ sd_one W m z g hg
  have HMX : Hid (mbV x = .agg #[.string m, .int .i64 z]) := by
    unfold Hid mbV
    rw [← hx, show (⟨(m.data.toList, z).1.toArray⟩ : ByteArray) = m from str_of_list rfl]
  rw [hx] at HPP
  rw [hP]
  have HL := Lib.hid hl
  have HO := Lib.hid ho
  have HLN := Lib.hid hl.1.len
  obtain ⟨M, hM⟩ : ∃ M, w.heap.size = M := ⟨_, rfl⟩
  have HMh := Lib.hid hM
  rw [hM]
  have HWI : Hid (∀ i, fndM l m.data.toList = some i → Calls Tryd.prog 28 #[.slice A n cp, .int .i64 (i : Nat)] w fun e w' => ∃ A' c', e = .returned (.slice A' (n - 1) c') ∧ SdAt w' A' (n - 1) c' (delAt l i) ∧ Below w.heap.size w w' ∧ Frh w.heap.size A') := fun i h => by
    obtain ⟨_, _, hlt⟩ := fndM_some h
    exact rwithout_any w hl (by have := hl.1.len; omega) hn
  clear hl ho hx hP hM
  rcases hf : fndM l m.data.toList with _ | i
  · have HFI : Hid (Calls Tryd.prog 24 #[.slice A n cp, .string m] w fun e w' => e = .returned (.int .i64 (-1)) ∧ w' = w) := by have q := HFI0; rw [hf] at q; exact q
    clear HFI0
    have HP2 := Lib.hid (HPP.out l (Or.inl ⟨hf, rfl⟩))
    clear hf
    go_enter Tryd.func26, Tryd.ntmps26
    go_wp2_with fail
    refine HFI.out.mono ?_
    rintro e w1 ⟨rfl, hw1⟩
    rw [hw1]
    clear hw1 HWI HPP HFI HLN
    go_wp2_with fail
    obtain ⟨w3, hw3⟩ : ∃ w3, w.alloc (.cells #[.string m, .int .i64 z] 47) = w3 := ⟨_, rfl⟩
    rw [hw3]
    have HB3 : Hid (Below w.heap.size w w3) := by unfold Hid; rw [← hw3]; exact (Below.refl _ _).alloc (Nat.le_refl _) _
    have HBM : Hid (∀ X, Below w3.heap.size w3 X → Below M w X) := fun X hX => (Below.refl M w).trans ((bup HB3.out hX).mono (by have := (Below.refl M w).size; have := HMh.out; omega))
    have HBX : Hid (∀ X, Below w3.heap.size w3 X → X.cell? ⟨w.heap.size, 0, none⟩ = some (.string m) ∧ X.cell? ⟨w.heap.size, 1, none⟩ = some (.int .i64 z)) := fun X hX => by
      have r : w3.rowIs w.heap.size 47 2 (fun i => if i = 0 then .string m else .int .i64 z) := by rw [← hw3]; exact rows2 _ _ _ rfl rfl
      have r2 := r.of_block (hX.block _ r.lt)
      exact ⟨r2.cell (i := 0) (by omega), r2.cell (i := 1) (by omega)⟩
    have HL3 : Hid (∀ X, Below w3.heap.size w3 X → SdAt X A n cp l) := fun X hX => HL.out.below (bup HB3.out hX)
    have hRn := rkM_le x l
    obtain ⟨R, hR⟩ : ∃ R, rkM x l = R := ⟨_, rfl⟩
    have HRI : Hid (∀ j y, l[j]? = some y → (ahd y x = true ↔ j < R)) := fun j y hy => hR ▸ rkM_iff HO.out x hy
    rw [hR] at HP2 hRn
    have HLN2 := Lib.hid HL.out.1.len
    rw [HLN2.out] at hRn
    have hcc := HL.out.1.le
    have hcm := HL.out.1.max
    have hR0 : (0 : Int) ≤ (R : Int) := by omega
    have hRc : (R : Int) ≤ (cp : Int) := by omega
    have hRn' : (R : Int) ≤ (n : Int) := by omega
    have hnc' : (n : Int) ≤ (cp : Int) := by omega
    clear hR hw3
    go_loopw [9] (fun iv wr => ∃ k : Nat, iv = .int .i64 k ∧ k ≤ R ∧ Below w3.heap.size w3 wr) (fun iv _ => R - (intOf iv).toNat)
    case atStart => exact ⟨0, rfl, Nat.zero_le _, Below.refl _ _⟩
    case round =>
      obtain ⟨k, rfl, hk, hb⟩ := hrel
      have HBW := Lib.hid hb
      by_cases hkn : k < n
      · obtain ⟨y, hy⟩ : ∃ y, l[k]? = some y := ⟨_, List.getElem?_eq_getElem (by rw [HLN2.out]; exact hkn)⟩
        have hkn' : (k : Int) < n := by omega
        obtain ⟨b, o, hAe, hbl, hc⟩ := (HL3.out wr hb).1.at_ (by omega)
        subst hAe
        obtain ⟨c0, c1⟩ := hc k y hy
        obtain ⟨q0, q1⟩ := HBX.out wr hb
        have HAH := Lib.hid (fun X => rahead_any y x X)
        have hri := HRI.out k y hy
        obtain ⟨YT, hYT⟩ : ∃ T : ByteArray, (⟨y.1.toArray⟩ : ByteArray) = T := ⟨_, rfl⟩
        obtain ⟨YZ, hYZ⟩ : ∃ Z, y.2 = Z := ⟨_, rfl⟩
        have hmy : mbV y = .agg #[.string YT, .int .i64 YZ] := by unfold mbV; rw [hYT, hYZ]
        rw [hmy, HMX.out] at HAH
        rw [hYT] at c0
        rw [hYZ] at c1
        have HS : Hid (∀ X, Below wr.heap.size wr X → Below wr.heap.size wr X ∧ X.cell? ⟨b, o + k * 2, none⟩ = some (.string YT) ∧ X.cell? ⟨b, o + k * 2 + 1, none⟩ = some (.int .i64 YZ) ∧ X.cell? ⟨w.heap.size, 0, none⟩ = some (.string m) ∧ X.cell? ⟨w.heap.size, 1, none⟩ = some (.int .i64 z)) := fun X hX => by
          obtain ⟨q0, q1⟩ := HBX.out X (bup HBW.out hX)
          exact ⟨hX, (hX.cell (p := ⟨b, o + k * 2, none⟩) hbl).trans c0, (hX.cell (p := ⟨b, o + k * 2 + 1, none⟩) hbl).trans c1, q0, q1⟩
        have H0 : Hid (Below wr.heap.size wr wr) := Below.refl _ _
        by_cases hkR : k < R
        · rw [hri.2 hkR] at HAH
          clear hc hy hb hYT hYZ hmy hri c0 c1 q0 q1
          go_wp2_with fail
          go_region_held3 (fun X => Below wr.heap.size wr X ∧ X.cell? ⟨b, o + k * 2, none⟩ = some (.string YT) ∧ X.cell? ⟨b, o + k * 2 + 1, none⟩ = some (.int .i64 YZ) ∧ X.cell? ⟨w.heap.size, 0, none⟩ = some (.string m) ∧ X.cell? ⟨w.heap.size, 1, none⟩ = some (.int .i64 z))
            (first | exact HS.out _ HC1.out | exact HS.out _ H0.out.drew | exact HS.out _ H0.out)
            (first | (go_at_call 35; refine Calls.mono (HAH.out _) ?_; rintro en x1 ⟨rfl, hq⟩; have HC1 : Hid (Below wr.heap.size wr x1) := (by first | exact hq | exact (Below.refl _ _).drew.trans hq); clear hq))
          all_goals
            go_wp2
            go_roundw
            case rel => exact ⟨k + 1, by go_num, hkR, bup HBW.out HC1.out⟩
            case measure => simp only [intOf]; omega
        · have hah : ahd y x = false := by
            cases hq : ahd y x with
            | false => rfl
            | true => exact absurd (hri.1 hq) hkR
          rw [hah] at HAH
          obtain rfl : R = k := by omega
          clear hc hy hb hYT hYZ hmy hri c0 c1 q0 q1 hah hkR
          go_wp2_with fail
          go_region_held3 (fun X => Below wr.heap.size wr X ∧ X.cell? ⟨b, o + R * 2, none⟩ = some (.string YT) ∧ X.cell? ⟨b, o + R * 2 + 1, none⟩ = some (.int .i64 YZ) ∧ X.cell? ⟨w.heap.size, 0, none⟩ = some (.string m) ∧ X.cell? ⟨w.heap.size, 1, none⟩ = some (.int .i64 z))
            (first | exact HS.out _ HC1.out | exact HS.out _ H0.out.drew | exact HS.out _ H0.out)
            (first | (go_at_call 35; refine Calls.mono (HAH.out _) ?_; rintro en x1 ⟨rfl, hq⟩; have HC1 : Hid (Below wr.heap.size wr x1) := (by first | exact hq | exact (Below.refl _ _).drew.trans hq); clear hq))
          all_goals
            have HB5 := Lib.hid (bup HBW.out HC1.out)
            have hbx : Below x1.heap.size x1 (x1.drew.alloc (.cells #[] 47)) := (Below.refl _ _).drew.alloc (Nat.le_refl _) _
            have hbx2 : Below x1.heap.size x1 (x1.drew.alloc (.cells #[.string m, .int .i64 z] 47)) := (Below.refl _ _).drew.alloc (Nat.le_refl _) _
            have hsX : (x1.drew.alloc (.cells #[.string m, .int .i64 z] 47)).heap.size = x1.heap.size + 1 := by rw [World.size_alloc]; rfl
            have hsE : (x1.drew.alloc (.cells #[] 47)).heap.size = x1.heap.size + 1 := by rw [World.size_alloc]; rfl
            have HEMP : Hid ((x1.drew.alloc (.cells #[] 47)).ownsRow x1.heap.size 47 2 (.slice (some ⟨x1.drew.heap.size, 0, none⟩) 0 0) 0 (mcells [])) := World.ownsRow_made x1.drew #[] 0 (Nat.le_refl _) (by decide) rfl
            have HEMB : Hid (((x1.drew.alloc (.cells #[] 47)).alloc (.cells #[.string m, .int .i64 z] 47)).ownsRow x1.heap.size 47 2 (.slice (some ⟨x1.drew.heap.size, 0, none⟩) 0 0) 0 (mcells [])) := HEMP.out.alloc _
            have HEMC : Hid (((x1.drew.alloc (.cells #[.string m, .int .i64 z] 47)).alloc (.cells #[] 47)).ownsRow x1.heap.size 47 2 (.slice (some ⟨x1.heap.size + 1, 0, none⟩) 0 0) 0 (mcells [])) := by
              have q := World.ownsRow_made (base := x1.heap.size) (e := 47) (size := 2) (x1.drew.alloc (.cells #[.string m, .int .i64 z] 47)) #[] 0 (by rw [hsX]; omega) (by decide) rfl
              rw [hsX] at q
              exact q
            have HBE := Lib.hid hbx
            have HBB : Hid (Below x1.heap.size x1 ((x1.drew.alloc (.cells #[] 47)).alloc (.cells #[.string m, .int .i64 z] 47))) := hbx.alloc hbx.size _
            have HBC : Hid (Below x1.heap.size x1 ((x1.drew.alloc (.cells #[.string m, .int .i64 z] 47)).alloc (.cells #[] 47))) := hbx2.alloc hbx2.size _
            have HXB : Hid (SdAt ((x1.drew.alloc (.cells #[] 47)).alloc (.cells #[.string m, .int .i64 z] 47)) (some ⟨x1.heap.size + 1, 0, none⟩) 1 1 [x]) := HX1.out _ _ hsE.symm
            have HXC : Hid (SdAt ((x1.drew.alloc (.cells #[.string m, .int .i64 z] 47)).alloc (.cells #[] 47)) (some ⟨x1.heap.size, 0, none⟩) 1 1 [x]) := (HX1.out x1.drew x1.heap.size rfl).below ((Below.refl _ _).alloc (Nat.le_refl _) _)
            have HSX := Lib.hid (fun X (hX : Below x1.heap.size x1 X) => (HL3.out X (bup HB5.out hX)).first hRn)
            have HS3 := Lib.hid (fun X (hX : Below x1.heap.size x1 X) => (HL3.out X (bup HB5.out hX)).rest hRn)
            have HCL : Hid (∀ (w4 : World) (v4 : Value) (mm : Nat), Below x1.heap.size x1 w4 → w4.ownsRow x1.heap.size 47 2 v4 mm (mcells (l.take R ++ [x] ++ l.drop R)) → mm = R + 1 + (n - R) → ∃ A' c', v4 = .slice A' P.length c' ∧ SdAt w4 A' P.length c' P ∧ Below M w w4 ∧ Frh M A') := fun w4 v4 mm h1 h2 e => by
              have e2 : l.take R ++ [x] ++ l.drop R = P := by rw [HP2.out]; unfold insAt; simp
              have e3 : P.length = mm := by rw [← e2]; simp; have := HLN2.out; omega
              rw [e2] at h2
              obtain ⟨A', c', q1, q2, q3⟩ := sd_of_own2 h2
              subst e3
              exact ⟨A', c', q1, q2, HBM.out w4 (bup HB5.out h1), q3.mono (by have q := (HBM.out _ HB5.out).size; have := HMh.out; omega)⟩
            have HQ : Hid (∀ X, Below x1.heap.size x1 X → X.cell? ⟨w.heap.size, 0, none⟩ = some (.string m) ∧ X.cell? ⟨w.heap.size, 1, none⟩ = some (.int .i64 z)) := fun X hX => HBX.out X (bup HB5.out hX)
            obtain ⟨q20, q21⟩ := HQ.out x1 (Below.refl _ _)
            obtain ⟨q22, q23⟩ := HQ.out x1.drew (Below.refl _ _).drew
            obtain ⟨q24, q25⟩ := HQ.out _ hbx
            obtain ⟨q26, q27⟩ := HQ.out ((x1.alloc (.cells #[] 47)).drew) ((Below.refl _ _).alloc (Nat.le_refl _) _).drew
            clear hbx hbx2 hsX hsE
            have hadd : (some (⟨b, o, none⟩ : Addr)).map (fun x => x.add (R * 2)) = some ⟨b, o + R * 2, none⟩ := by simp [Addr.add] <;> omega
            have hcR : ¬ cp = R := by omega
            rw [if_neg hcR, hadd] at HS3
            clear hadd
            go_wp2_with fail
            go_region_law (first
              | (have qq := HB12; (refine step_append_sc rfl _ _ rfl x1.heap.size (.slice A12 (R + 1) k12) (R + 1) _ rfl HO12.out (some ⟨b, o + R * 2, none⟩) (n - R) (cp - R) _ rfl (HS3.out w12 HB12.out) (by omega) HB12.out.size ?_); intro v14 w14 hown hgr _; have hb4 := HB12.out.trans ((Below.refl _ _).grown hgr HB12.out.size (fun k e => (HO12.out.lt k e).1)); have HE := Lib.hid (HCL.out w14 v14 _ hb4 hown (by omega)); clear hown hgr hb4)
              | (have qq := HB11; (first
                  | refine step_append_sc rfl _ _ rfl x1.heap.size (.slice A11 R k11) R _ rfl (HO11.out.alloc _) (some ⟨w11.heap.size, 0, none⟩) 1 1 [x] rfl (HX1.out w11 _ rfl) (by omega) (by have := HB11.out.size; simp; omega) ?_
                  | refine step_append_sc rfl _ _ rfl x1.heap.size (.slice A11 R k11) R _ rfl HO11.out (some ⟨x1.heap.size + 1, 0, none⟩) 1 1 [x] rfl HXE.out (by omega) HB11.out.size ?_
                  | refine step_append_sc rfl _ _ rfl x1.heap.size (.slice A11 R k11) R _ rfl HO11.out (some ⟨x1.heap.size, 0, none⟩) 1 1 [x] rfl HXE.out (by omega) HB11.out.size ?_); intro v12 w12 hown hgr _; obtain ⟨A12, k12, rfl⟩ := own_slice hown; have HB12 : Hid (Below x1.heap.size x1 w12) := (by first | exact (HB11.out.alloc HB11.out.size _).trans ((Below.refl _ _).grown hgr (by have := HB11.out.size; simp; omega) (fun k e => (HO11.out.lt k e).1)) | exact HB11.out.trans ((Below.refl _ _).grown hgr HB11.out.size (fun k e => (HO11.out.lt k e).1))); have HO12 := Lib.hid hown; clear hown hgr)
              | ((first
                  | (refine step_append_sc rfl _ _ rfl x1.heap.size (.slice (some ⟨x1.drew.heap.size, 0, none⟩) 0 0) 0 [] rfl HEMP.out (some ⟨b, o, none⟩) R cp (l.take R) rfl (HSX.out _ HBE.out) (by omega) HBE.out.size ?_; intro v11 w11 hown hgr _; have HB11 : Hid (Below x1.heap.size x1 w11) := HBE.out.trans ((Below.refl _ _).grown hgr HBE.out.size (fun k e => (HEMP.out.lt k e).1)))
                  | (refine step_append_sc rfl _ _ rfl x1.heap.size (.slice (some ⟨x1.drew.heap.size, 0, none⟩) 0 0) 0 [] rfl HEMB.out (some ⟨b, o, none⟩) R cp (l.take R) rfl (HSX.out _ HBB.out) (by omega) HBB.out.size ?_; intro v11 w11 hown hgr _; have HB11 : Hid (Below x1.heap.size x1 w11) := HBB.out.trans ((Below.refl _ _).grown hgr HBB.out.size (fun k e => (HEMB.out.lt k e).1)); have HXE := Lib.hid (sd_grown HXB.out hgr (by intro e; injection e with e; have q : x1.heap.size + 1 = x1.heap.size := e; omega)))
                  | (refine step_append_sc rfl _ _ rfl x1.heap.size (.slice (some ⟨x1.heap.size + 1, 0, none⟩) 0 0) 0 [] rfl HEMC.out (some ⟨b, o, none⟩) R cp (l.take R) rfl (HSX.out _ HBC.out) (by omega) HBC.out.size ?_; intro v11 w11 hown hgr _; have HB11 : Hid (Below x1.heap.size x1 w11) := HBC.out.trans ((Below.refl _ _).grown hgr HBC.out.size (fun k e => (HEMC.out.lt k e).1)); have HXE := Lib.hid (sd_grown HXC.out hgr (by intro e; injection e with e; have q : x1.heap.size = x1.heap.size + 1 := e; omega)))); obtain ⟨A11, k11, rfl⟩ := own_slice hown; have HO11 := Lib.hid hown; rw [Nat.zero_add, List.nil_append] at HO11; obtain ⟨q10, q11⟩ := HQ.out w11 HB11.out; clear hown hgr; try rw [Nat.zero_add]))
            all_goals
              go_wp2
              go_ret
              obtain ⟨A', c', q1, q2⟩ := HE.out
              exact ⟨A', c', by rw [← q1]; rfl, q2⟩
    
      · have hkn' : ¬ (k : Int) < n := by omega
        obtain rfl : R = k := by omega
        clear hb
        go_wp2_with fail
        go_quiet (fail)
        have HB5 : Hid (Below w3.heap.size w3 (wr.drewN nq)) := HBW.out.trans (below_drewN _ _ _)
        obtain ⟨w5, hw5⟩ : ∃ w5, wr.drewN nq = w5 := ⟨_, rfl⟩
        rw [hw5] at HB5 ⊢
        clear hw5
        have hbx : Below w5.heap.size w5 (w5.drew.alloc (.cells #[] 47)) := (Below.refl _ _).drew.alloc (Nat.le_refl _) _
        have hbx2 : Below w5.heap.size w5 (w5.drew.alloc (.cells #[.string m, .int .i64 z] 47)) := (Below.refl _ _).drew.alloc (Nat.le_refl _) _
        have hsX : (w5.drew.alloc (.cells #[.string m, .int .i64 z] 47)).heap.size = w5.heap.size + 1 := by rw [World.size_alloc]; rfl
        have hsE : (w5.drew.alloc (.cells #[] 47)).heap.size = w5.heap.size + 1 := by rw [World.size_alloc]; rfl
        have HEMP : Hid ((w5.drew.alloc (.cells #[] 47)).ownsRow w5.heap.size 47 2 (.slice (some ⟨w5.drew.heap.size, 0, none⟩) 0 0) 0 (mcells [])) := World.ownsRow_made w5.drew #[] 0 (Nat.le_refl _) (by decide) rfl
        have HEMB : Hid (((w5.drew.alloc (.cells #[] 47)).alloc (.cells #[.string m, .int .i64 z] 47)).ownsRow w5.heap.size 47 2 (.slice (some ⟨w5.drew.heap.size, 0, none⟩) 0 0) 0 (mcells [])) := HEMP.out.alloc _
        have HEMC : Hid (((w5.drew.alloc (.cells #[.string m, .int .i64 z] 47)).alloc (.cells #[] 47)).ownsRow w5.heap.size 47 2 (.slice (some ⟨w5.heap.size + 1, 0, none⟩) 0 0) 0 (mcells [])) := by
          have q := World.ownsRow_made (base := w5.heap.size) (e := 47) (size := 2) (w5.drew.alloc (.cells #[.string m, .int .i64 z] 47)) #[] 0 (by rw [hsX]; omega) (by decide) rfl
          rw [hsX] at q
          exact q
        have HBE := Lib.hid hbx
        have HBB : Hid (Below w5.heap.size w5 ((w5.drew.alloc (.cells #[] 47)).alloc (.cells #[.string m, .int .i64 z] 47))) := hbx.alloc hbx.size _
        have HBC : Hid (Below w5.heap.size w5 ((w5.drew.alloc (.cells #[.string m, .int .i64 z] 47)).alloc (.cells #[] 47))) := hbx2.alloc hbx2.size _
        have HXB : Hid (SdAt ((w5.drew.alloc (.cells #[] 47)).alloc (.cells #[.string m, .int .i64 z] 47)) (some ⟨w5.heap.size + 1, 0, none⟩) 1 1 [x]) := HX1.out _ _ hsE.symm
        have HXC : Hid (SdAt ((w5.drew.alloc (.cells #[.string m, .int .i64 z] 47)).alloc (.cells #[] 47)) (some ⟨w5.heap.size, 0, none⟩) 1 1 [x]) := (HX1.out w5.drew w5.heap.size rfl).below ((Below.refl _ _).alloc (Nat.le_refl _) _)
        have HSX := Lib.hid (fun X (hX : Below w5.heap.size w5 X) => (HL3.out X (bup HB5.out hX)).first hRn)
        have HS3 := Lib.hid (fun X (hX : Below w5.heap.size w5 X) => (HL3.out X (bup HB5.out hX)).rest hRn)
        have HCL : Hid (∀ (w4 : World) (v4 : Value) (mm : Nat), Below w5.heap.size w5 w4 → w4.ownsRow w5.heap.size 47 2 v4 mm (mcells (l.take R ++ [x] ++ l.drop R)) → mm = R + 1 + (n - R) → ∃ A' c', v4 = .slice A' P.length c' ∧ SdAt w4 A' P.length c' P ∧ Below M w w4 ∧ Frh M A') := fun w4 v4 mm h1 h2 e => by
          have e2 : l.take R ++ [x] ++ l.drop R = P := by rw [HP2.out]; unfold insAt; simp
          have e3 : P.length = mm := by rw [← e2]; simp; have := HLN2.out; omega
          rw [e2] at h2
          obtain ⟨A', c', q1, q2, q3⟩ := sd_of_own2 h2
          subst e3
          exact ⟨A', c', q1, q2, HBM.out w4 (bup HB5.out h1), q3.mono (by have q := (HBM.out _ HB5.out).size; have := HMh.out; omega)⟩
        have HQ : Hid (∀ X, Below w5.heap.size w5 X → X.cell? ⟨w.heap.size, 0, none⟩ = some (.string m) ∧ X.cell? ⟨w.heap.size, 1, none⟩ = some (.int .i64 z)) := fun X hX => HBX.out X (bup HB5.out hX)
        obtain ⟨q20, q21⟩ := HQ.out w5 (Below.refl _ _)
        obtain ⟨q22, q23⟩ := HQ.out w5.drew (Below.refl _ _).drew
        obtain ⟨q24, q25⟩ := HQ.out _ hbx
        obtain ⟨q26, q27⟩ := HQ.out ((w5.alloc (.cells #[] 47)).drew) ((Below.refl _ _).alloc (Nat.le_refl _) _).drew
        clear hbx hbx2 hsX hsE
        by_cases hci : R = cp
        · subst hci
          rw [if_pos rfl] at HS3
          have h00 : n - R = 0 := by omega
          rw [h00, Nat.sub_self] at HS3
          go_wp2_with fail
          go_region_law (first
            | (have qq := HB12; (refine step_append_sc rfl _ _ rfl w5.heap.size (.slice A12 (R + 1) k12) (R + 1) _ rfl HO12.out A 0 0 _ rfl (HS3.out w12 HB12.out) (by omega) HB12.out.size ?_); intro v14 w14 hown hgr _; have hb4 := HB12.out.trans ((Below.refl _ _).grown hgr HB12.out.size (fun k e => (HO12.out.lt k e).1)); have HE := Lib.hid (HCL.out w14 v14 _ hb4 hown (by omega)); clear hown hgr hb4)
            | (have qq := HB11; (first
                | refine step_append_sc rfl _ _ rfl w5.heap.size (.slice A11 R k11) R _ rfl (HO11.out.alloc _) (some ⟨w11.heap.size, 0, none⟩) 1 1 [x] rfl (HX1.out w11 _ rfl) (by omega) (by have := HB11.out.size; simp; omega) ?_
                | refine step_append_sc rfl _ _ rfl w5.heap.size (.slice A11 R k11) R _ rfl HO11.out (some ⟨w5.heap.size + 1, 0, none⟩) 1 1 [x] rfl HXE.out (by omega) HB11.out.size ?_
                | refine step_append_sc rfl _ _ rfl w5.heap.size (.slice A11 R k11) R _ rfl HO11.out (some ⟨w5.heap.size, 0, none⟩) 1 1 [x] rfl HXE.out (by omega) HB11.out.size ?_); intro v12 w12 hown hgr _; obtain ⟨A12, k12, rfl⟩ := own_slice hown; have HB12 : Hid (Below w5.heap.size w5 w12) := (by first | exact (HB11.out.alloc HB11.out.size _).trans ((Below.refl _ _).grown hgr (by have := HB11.out.size; simp; omega) (fun k e => (HO11.out.lt k e).1)) | exact HB11.out.trans ((Below.refl _ _).grown hgr HB11.out.size (fun k e => (HO11.out.lt k e).1))); have HO12 := Lib.hid hown; clear hown hgr)
            | ((first
                | (refine step_append_sc rfl _ _ rfl w5.heap.size (.slice (some ⟨w5.drew.heap.size, 0, none⟩) 0 0) 0 [] rfl HEMP.out A R R (l.take R) rfl (HSX.out _ HBE.out) (by omega) HBE.out.size ?_; intro v11 w11 hown hgr _; have HB11 : Hid (Below w5.heap.size w5 w11) := HBE.out.trans ((Below.refl _ _).grown hgr HBE.out.size (fun k e => (HEMP.out.lt k e).1)))
                | (refine step_append_sc rfl _ _ rfl w5.heap.size (.slice (some ⟨w5.drew.heap.size, 0, none⟩) 0 0) 0 [] rfl HEMB.out A R R (l.take R) rfl (HSX.out _ HBB.out) (by omega) HBB.out.size ?_; intro v11 w11 hown hgr _; have HB11 : Hid (Below w5.heap.size w5 w11) := HBB.out.trans ((Below.refl _ _).grown hgr HBB.out.size (fun k e => (HEMB.out.lt k e).1)); have HXE := Lib.hid (sd_grown HXB.out hgr (by intro e; injection e with e; have q : w5.heap.size + 1 = w5.heap.size := e; omega)))
                | (refine step_append_sc rfl _ _ rfl w5.heap.size (.slice (some ⟨w5.heap.size + 1, 0, none⟩) 0 0) 0 [] rfl HEMC.out A R R (l.take R) rfl (HSX.out _ HBC.out) (by omega) HBC.out.size ?_; intro v11 w11 hown hgr _; have HB11 : Hid (Below w5.heap.size w5 w11) := HBC.out.trans ((Below.refl _ _).grown hgr HBC.out.size (fun k e => (HEMC.out.lt k e).1)); have HXE := Lib.hid (sd_grown HXC.out hgr (by intro e; injection e with e; have q : w5.heap.size = w5.heap.size + 1 := e; omega)))); obtain ⟨A11, k11, rfl⟩ := own_slice hown; have HO11 := Lib.hid hown; rw [Nat.zero_add, List.nil_append] at HO11; obtain ⟨q10, q11⟩ := HQ.out w11 HB11.out; clear hown hgr; try rw [Nat.zero_add]))
          all_goals
            go_wp2
            go_ret
            obtain ⟨A', c', q1, q2⟩ := HE.out
            exact ⟨A', c', by rw [← q1]; rfl, q2⟩
        · have hcR : ¬ cp = R := fun e => hci e.symm
          rw [if_neg hcR] at HS3
          go_wp2_with fail
          go_region_law (first
            | (have qq := HB12; (refine step_append_sc rfl _ _ rfl w5.heap.size (.slice A12 (R + 1) k12) (R + 1) _ rfl HO12.out (A.map fun x => x.add (R * 2)) (n - R) (cp - R) _ rfl (HS3.out w12 HB12.out) (by omega) HB12.out.size ?_); intro v14 w14 hown hgr _; have hb4 := HB12.out.trans ((Below.refl _ _).grown hgr HB12.out.size (fun k e => (HO12.out.lt k e).1)); have HE := Lib.hid (HCL.out w14 v14 _ hb4 hown (by omega)); clear hown hgr hb4)
            | (have qq := HB11; (first
                | refine step_append_sc rfl _ _ rfl w5.heap.size (.slice A11 R k11) R _ rfl (HO11.out.alloc _) (some ⟨w11.heap.size, 0, none⟩) 1 1 [x] rfl (HX1.out w11 _ rfl) (by omega) (by have := HB11.out.size; simp; omega) ?_
                | refine step_append_sc rfl _ _ rfl w5.heap.size (.slice A11 R k11) R _ rfl HO11.out (some ⟨w5.heap.size + 1, 0, none⟩) 1 1 [x] rfl HXE.out (by omega) HB11.out.size ?_
                | refine step_append_sc rfl _ _ rfl w5.heap.size (.slice A11 R k11) R _ rfl HO11.out (some ⟨w5.heap.size, 0, none⟩) 1 1 [x] rfl HXE.out (by omega) HB11.out.size ?_); intro v12 w12 hown hgr _; obtain ⟨A12, k12, rfl⟩ := own_slice hown; have HB12 : Hid (Below w5.heap.size w5 w12) := (by first | exact (HB11.out.alloc HB11.out.size _).trans ((Below.refl _ _).grown hgr (by have := HB11.out.size; simp; omega) (fun k e => (HO11.out.lt k e).1)) | exact HB11.out.trans ((Below.refl _ _).grown hgr HB11.out.size (fun k e => (HO11.out.lt k e).1))); have HO12 := Lib.hid hown; clear hown hgr)
            | ((first
                | (refine step_append_sc rfl _ _ rfl w5.heap.size (.slice (some ⟨w5.drew.heap.size, 0, none⟩) 0 0) 0 [] rfl HEMP.out A R cp (l.take R) rfl (HSX.out _ HBE.out) (by omega) HBE.out.size ?_; intro v11 w11 hown hgr _; have HB11 : Hid (Below w5.heap.size w5 w11) := HBE.out.trans ((Below.refl _ _).grown hgr HBE.out.size (fun k e => (HEMP.out.lt k e).1)))
                | (refine step_append_sc rfl _ _ rfl w5.heap.size (.slice (some ⟨w5.drew.heap.size, 0, none⟩) 0 0) 0 [] rfl HEMB.out A R cp (l.take R) rfl (HSX.out _ HBB.out) (by omega) HBB.out.size ?_; intro v11 w11 hown hgr _; have HB11 : Hid (Below w5.heap.size w5 w11) := HBB.out.trans ((Below.refl _ _).grown hgr HBB.out.size (fun k e => (HEMB.out.lt k e).1)); have HXE := Lib.hid (sd_grown HXB.out hgr (by intro e; injection e with e; have q : w5.heap.size + 1 = w5.heap.size := e; omega)))
                | (refine step_append_sc rfl _ _ rfl w5.heap.size (.slice (some ⟨w5.heap.size + 1, 0, none⟩) 0 0) 0 [] rfl HEMC.out A R cp (l.take R) rfl (HSX.out _ HBC.out) (by omega) HBC.out.size ?_; intro v11 w11 hown hgr _; have HB11 : Hid (Below w5.heap.size w5 w11) := HBC.out.trans ((Below.refl _ _).grown hgr HBC.out.size (fun k e => (HEMC.out.lt k e).1)); have HXE := Lib.hid (sd_grown HXC.out hgr (by intro e; injection e with e; have q : w5.heap.size = w5.heap.size + 1 := e; omega)))); obtain ⟨A11, k11, rfl⟩ := own_slice hown; have HO11 := Lib.hid hown; rw [Nat.zero_add, List.nil_append] at HO11; obtain ⟨q10, q11⟩ := HQ.out w11 HB11.out; clear hown hgr; try rw [Nat.zero_add]))
          all_goals
            go_wp2
            go_ret
            obtain ⟨A', c', q1, q2⟩ := HE.out
            exact ⟨A', c', by rw [← q1]; rfl, q2⟩
  · have HFI : Hid (Calls Tryd.prog 24 #[.slice A n cp, .string m] w fun e w' => e = .returned (.int .i64 (i : Nat)) ∧ w' = w) := by have q := HFI0; rw [hf] at q; exact q
    clear HFI0
    have HP2 := Lib.hid (HPP.out (delAt l i) (Or.inr ⟨i, hf, rfl⟩))
    have HW := Lib.hid (HWI.out i hf)
    clear hf
    go_enter Tryd.func26, Tryd.ntmps26
    go_wp2_with fail
    refine HFI.out.mono ?_
    rintro e w1 ⟨rfl, hw1⟩
    rw [hw1]
    go_wp2_with fail
    refine HW.out.mono ?_
    rintro e w2 ⟨A2, c2, rfl, hs2, hb2, _⟩
    have HL2 := Lib.hid hs2
    have HO2 := Lib.hid (HO.out.del i)
    have HB2 : Hid (Below M w w2) := by unfold Hid; rw [← HMh.out]; exact hb2
    obtain ⟨l2, hl2⟩ : ∃ l2, delAt l i = l2 := ⟨_, rfl⟩
    obtain ⟨n2, hn2⟩ : ∃ n2, n - 1 = n2 := ⟨_, rfl⟩
    rw [hl2] at HP2 HL2 HO2
    rw [hn2] at HL2 ⊢
    have hnn : n2 ≤ 900000 := by omega
    clear hw1 hs2 hl2 hn2 HL HO HWI HPP HFI HLN HW
    go_wp2_with fail
    obtain ⟨w3, hw3⟩ : ∃ w3, w2.alloc (.cells #[.string m, .int .i64 z] 47) = w3 := ⟨_, rfl⟩
    rw [hw3]
    have HB3 : Hid (Below w2.heap.size w2 w3) := by unfold Hid; rw [← hw3]; exact (Below.refl _ _).alloc (Nat.le_refl _) _
    have HBM : Hid (∀ X, Below w3.heap.size w3 X → Below M w X) := fun X hX => HB2.out.trans ((bup HB3.out hX).mono (by have := HB2.out.size; have := HMh.out; omega))
    have HBX : Hid (∀ X, Below w3.heap.size w3 X → X.cell? ⟨w2.heap.size, 0, none⟩ = some (.string m) ∧ X.cell? ⟨w2.heap.size, 1, none⟩ = some (.int .i64 z)) := fun X hX => by
      have r : w3.rowIs w2.heap.size 47 2 (fun i => if i = 0 then .string m else .int .i64 z) := by rw [← hw3]; exact rows2 _ _ _ rfl rfl
      have r2 := r.of_block (hX.block _ r.lt)
      exact ⟨r2.cell (i := 0) (by omega), r2.cell (i := 1) (by omega)⟩
    have HL3 : Hid (∀ X, Below w3.heap.size w3 X → SdAt X A2 n2 c2 l2) := fun X hX => HL2.out.below (bup HB3.out hX)
    have hRn := rkM_le x l2
    obtain ⟨R, hR⟩ : ∃ R, rkM x l2 = R := ⟨_, rfl⟩
    have HRI : Hid (∀ j y, l2[j]? = some y → (ahd y x = true ↔ j < R)) := fun j y hy => hR ▸ rkM_iff HO2.out x hy
    rw [hR] at HP2 hRn
    have HLN2 := Lib.hid HL2.out.1.len
    rw [HLN2.out] at hRn
    have hcc := HL2.out.1.le
    have hcm := HL2.out.1.max
    have hR0 : (0 : Int) ≤ (R : Int) := by omega
    have hRc : (R : Int) ≤ (c2 : Int) := by omega
    have hRn' : (R : Int) ≤ (n2 : Int) := by omega
    have hnc' : (n2 : Int) ≤ (c2 : Int) := by omega
    clear hR hw3
    go_loopw [9] (fun iv wr => ∃ k : Nat, iv = .int .i64 k ∧ k ≤ R ∧ Below w3.heap.size w3 wr) (fun iv _ => R - (intOf iv).toNat)
    case atStart => exact ⟨0, rfl, Nat.zero_le _, Below.refl _ _⟩
    case round =>
      obtain ⟨k, rfl, hk, hb⟩ := hrel
      have HBW := Lib.hid hb
      by_cases hkn : k < n2
      · obtain ⟨y, hy⟩ : ∃ y, l2[k]? = some y := ⟨_, List.getElem?_eq_getElem (by rw [HLN2.out]; exact hkn)⟩
        have hkn' : (k : Int) < n2 := by omega
        obtain ⟨b, o, hAe, hbl, hc⟩ := (HL3.out wr hb).1.at_ (by omega)
        subst hAe
        obtain ⟨c0, c1⟩ := hc k y hy
        obtain ⟨q0, q1⟩ := HBX.out wr hb
        have HAH := Lib.hid (fun X => rahead_any y x X)
        have hri := HRI.out k y hy
        obtain ⟨YT, hYT⟩ : ∃ T : ByteArray, (⟨y.1.toArray⟩ : ByteArray) = T := ⟨_, rfl⟩
        obtain ⟨YZ, hYZ⟩ : ∃ Z, y.2 = Z := ⟨_, rfl⟩
        have hmy : mbV y = .agg #[.string YT, .int .i64 YZ] := by unfold mbV; rw [hYT, hYZ]
        rw [hmy, HMX.out] at HAH
        rw [hYT] at c0
        rw [hYZ] at c1
        have HS : Hid (∀ X, Below wr.heap.size wr X → Below wr.heap.size wr X ∧ X.cell? ⟨b, o + k * 2, none⟩ = some (.string YT) ∧ X.cell? ⟨b, o + k * 2 + 1, none⟩ = some (.int .i64 YZ) ∧ X.cell? ⟨w2.heap.size, 0, none⟩ = some (.string m) ∧ X.cell? ⟨w2.heap.size, 1, none⟩ = some (.int .i64 z)) := fun X hX => by
          obtain ⟨q0, q1⟩ := HBX.out X (bup HBW.out hX)
          exact ⟨hX, (hX.cell (p := ⟨b, o + k * 2, none⟩) hbl).trans c0, (hX.cell (p := ⟨b, o + k * 2 + 1, none⟩) hbl).trans c1, q0, q1⟩
        have H0 : Hid (Below wr.heap.size wr wr) := Below.refl _ _
        by_cases hkR : k < R
        · rw [hri.2 hkR] at HAH
          clear hc hy hb hYT hYZ hmy hri c0 c1 q0 q1
          go_wp2_with fail
          go_region_held3 (fun X => Below wr.heap.size wr X ∧ X.cell? ⟨b, o + k * 2, none⟩ = some (.string YT) ∧ X.cell? ⟨b, o + k * 2 + 1, none⟩ = some (.int .i64 YZ) ∧ X.cell? ⟨w2.heap.size, 0, none⟩ = some (.string m) ∧ X.cell? ⟨w2.heap.size, 1, none⟩ = some (.int .i64 z))
            (first | exact HS.out _ HC1.out | exact HS.out _ H0.out.drew | exact HS.out _ H0.out)
            (first | (go_at_call 35; refine Calls.mono (HAH.out _) ?_; rintro en x1 ⟨rfl, hq⟩; have HC1 : Hid (Below wr.heap.size wr x1) := (by first | exact hq | exact (Below.refl _ _).drew.trans hq); clear hq))
          all_goals
            go_wp2
            go_roundw
            case rel => exact ⟨k + 1, by go_num, hkR, bup HBW.out HC1.out⟩
            case measure => simp only [intOf]; omega
        · have hah : ahd y x = false := by
            cases hq : ahd y x with
            | false => rfl
            | true => exact absurd (hri.1 hq) hkR
          rw [hah] at HAH
          obtain rfl : R = k := by omega
          clear hc hy hb hYT hYZ hmy hri c0 c1 q0 q1 hah hkR
          go_wp2_with fail
          go_region_held3 (fun X => Below wr.heap.size wr X ∧ X.cell? ⟨b, o + R * 2, none⟩ = some (.string YT) ∧ X.cell? ⟨b, o + R * 2 + 1, none⟩ = some (.int .i64 YZ) ∧ X.cell? ⟨w2.heap.size, 0, none⟩ = some (.string m) ∧ X.cell? ⟨w2.heap.size, 1, none⟩ = some (.int .i64 z))
            (first | exact HS.out _ HC1.out | exact HS.out _ H0.out.drew | exact HS.out _ H0.out)
            (first | (go_at_call 35; refine Calls.mono (HAH.out _) ?_; rintro en x1 ⟨rfl, hq⟩; have HC1 : Hid (Below wr.heap.size wr x1) := (by first | exact hq | exact (Below.refl _ _).drew.trans hq); clear hq))
          all_goals
            have HB5 := Lib.hid (bup HBW.out HC1.out)
            have hbx : Below x1.heap.size x1 (x1.drew.alloc (.cells #[] 47)) := (Below.refl _ _).drew.alloc (Nat.le_refl _) _
            have hbx2 : Below x1.heap.size x1 (x1.drew.alloc (.cells #[.string m, .int .i64 z] 47)) := (Below.refl _ _).drew.alloc (Nat.le_refl _) _
            have hsX : (x1.drew.alloc (.cells #[.string m, .int .i64 z] 47)).heap.size = x1.heap.size + 1 := by rw [World.size_alloc]; rfl
            have hsE : (x1.drew.alloc (.cells #[] 47)).heap.size = x1.heap.size + 1 := by rw [World.size_alloc]; rfl
            have HEMP : Hid ((x1.drew.alloc (.cells #[] 47)).ownsRow x1.heap.size 47 2 (.slice (some ⟨x1.drew.heap.size, 0, none⟩) 0 0) 0 (mcells [])) := World.ownsRow_made x1.drew #[] 0 (Nat.le_refl _) (by decide) rfl
            have HEMB : Hid (((x1.drew.alloc (.cells #[] 47)).alloc (.cells #[.string m, .int .i64 z] 47)).ownsRow x1.heap.size 47 2 (.slice (some ⟨x1.drew.heap.size, 0, none⟩) 0 0) 0 (mcells [])) := HEMP.out.alloc _
            have HEMC : Hid (((x1.drew.alloc (.cells #[.string m, .int .i64 z] 47)).alloc (.cells #[] 47)).ownsRow x1.heap.size 47 2 (.slice (some ⟨x1.heap.size + 1, 0, none⟩) 0 0) 0 (mcells [])) := by
              have q := World.ownsRow_made (base := x1.heap.size) (e := 47) (size := 2) (x1.drew.alloc (.cells #[.string m, .int .i64 z] 47)) #[] 0 (by rw [hsX]; omega) (by decide) rfl
              rw [hsX] at q
              exact q
            have HBE := Lib.hid hbx
            have HBB : Hid (Below x1.heap.size x1 ((x1.drew.alloc (.cells #[] 47)).alloc (.cells #[.string m, .int .i64 z] 47))) := hbx.alloc hbx.size _
            have HBC : Hid (Below x1.heap.size x1 ((x1.drew.alloc (.cells #[.string m, .int .i64 z] 47)).alloc (.cells #[] 47))) := hbx2.alloc hbx2.size _
            have HXB : Hid (SdAt ((x1.drew.alloc (.cells #[] 47)).alloc (.cells #[.string m, .int .i64 z] 47)) (some ⟨x1.heap.size + 1, 0, none⟩) 1 1 [x]) := HX1.out _ _ hsE.symm
            have HXC : Hid (SdAt ((x1.drew.alloc (.cells #[.string m, .int .i64 z] 47)).alloc (.cells #[] 47)) (some ⟨x1.heap.size, 0, none⟩) 1 1 [x]) := (HX1.out x1.drew x1.heap.size rfl).below ((Below.refl _ _).alloc (Nat.le_refl _) _)
            have HSX := Lib.hid (fun X (hX : Below x1.heap.size x1 X) => (HL3.out X (bup HB5.out hX)).first hRn)
            have HS3 := Lib.hid (fun X (hX : Below x1.heap.size x1 X) => (HL3.out X (bup HB5.out hX)).rest hRn)
            have HCL : Hid (∀ (w4 : World) (v4 : Value) (mm : Nat), Below x1.heap.size x1 w4 → w4.ownsRow x1.heap.size 47 2 v4 mm (mcells (l2.take R ++ [x] ++ l2.drop R)) → mm = R + 1 + (n2 - R) → ∃ A' c', v4 = .slice A' P.length c' ∧ SdAt w4 A' P.length c' P ∧ Below M w w4 ∧ Frh M A') := fun w4 v4 mm h1 h2 e => by
              have e2 : l2.take R ++ [x] ++ l2.drop R = P := by rw [HP2.out]; unfold insAt; simp
              have e3 : P.length = mm := by rw [← e2]; simp; have := HLN2.out; omega
              rw [e2] at h2
              obtain ⟨A', c', q1, q2, q3⟩ := sd_of_own2 h2
              subst e3
              exact ⟨A', c', q1, q2, HBM.out w4 (bup HB5.out h1), q3.mono (by have q := (HBM.out _ HB5.out).size; have := HMh.out; omega)⟩
            have HQ : Hid (∀ X, Below x1.heap.size x1 X → X.cell? ⟨w2.heap.size, 0, none⟩ = some (.string m) ∧ X.cell? ⟨w2.heap.size, 1, none⟩ = some (.int .i64 z)) := fun X hX => HBX.out X (bup HB5.out hX)
            obtain ⟨q20, q21⟩ := HQ.out x1 (Below.refl _ _)
            obtain ⟨q22, q23⟩ := HQ.out x1.drew (Below.refl _ _).drew
            obtain ⟨q24, q25⟩ := HQ.out _ hbx
            obtain ⟨q26, q27⟩ := HQ.out ((x1.alloc (.cells #[] 47)).drew) ((Below.refl _ _).alloc (Nat.le_refl _) _).drew
            clear hbx hbx2 hsX hsE
            have hadd : (some (⟨b, o, none⟩ : Addr)).map (fun x => x.add (R * 2)) = some ⟨b, o + R * 2, none⟩ := by simp [Addr.add] <;> omega
            have hcR : ¬ c2 = R := by omega
            rw [if_neg hcR, hadd] at HS3
            clear hadd
            go_wp2_with fail
            go_region_law (first
              | (have qq := HB12; (refine step_append_sc rfl _ _ rfl x1.heap.size (.slice A12 (R + 1) k12) (R + 1) _ rfl HO12.out (some ⟨b, o + R * 2, none⟩) (n2 - R) (c2 - R) _ rfl (HS3.out w12 HB12.out) (by omega) HB12.out.size ?_); intro v14 w14 hown hgr _; have hb4 := HB12.out.trans ((Below.refl _ _).grown hgr HB12.out.size (fun k e => (HO12.out.lt k e).1)); have HE := Lib.hid (HCL.out w14 v14 _ hb4 hown (by omega)); clear hown hgr hb4)
              | (have qq := HB11; (first
                  | refine step_append_sc rfl _ _ rfl x1.heap.size (.slice A11 R k11) R _ rfl (HO11.out.alloc _) (some ⟨w11.heap.size, 0, none⟩) 1 1 [x] rfl (HX1.out w11 _ rfl) (by omega) (by have := HB11.out.size; simp; omega) ?_
                  | refine step_append_sc rfl _ _ rfl x1.heap.size (.slice A11 R k11) R _ rfl HO11.out (some ⟨x1.heap.size + 1, 0, none⟩) 1 1 [x] rfl HXE.out (by omega) HB11.out.size ?_
                  | refine step_append_sc rfl _ _ rfl x1.heap.size (.slice A11 R k11) R _ rfl HO11.out (some ⟨x1.heap.size, 0, none⟩) 1 1 [x] rfl HXE.out (by omega) HB11.out.size ?_); intro v12 w12 hown hgr _; obtain ⟨A12, k12, rfl⟩ := own_slice hown; have HB12 : Hid (Below x1.heap.size x1 w12) := (by first | exact (HB11.out.alloc HB11.out.size _).trans ((Below.refl _ _).grown hgr (by have := HB11.out.size; simp; omega) (fun k e => (HO11.out.lt k e).1)) | exact HB11.out.trans ((Below.refl _ _).grown hgr HB11.out.size (fun k e => (HO11.out.lt k e).1))); have HO12 := Lib.hid hown; clear hown hgr)
              | ((first
                  | (refine step_append_sc rfl _ _ rfl x1.heap.size (.slice (some ⟨x1.drew.heap.size, 0, none⟩) 0 0) 0 [] rfl HEMP.out (some ⟨b, o, none⟩) R c2 (l2.take R) rfl (HSX.out _ HBE.out) (by omega) HBE.out.size ?_; intro v11 w11 hown hgr _; have HB11 : Hid (Below x1.heap.size x1 w11) := HBE.out.trans ((Below.refl _ _).grown hgr HBE.out.size (fun k e => (HEMP.out.lt k e).1)))
                  | (refine step_append_sc rfl _ _ rfl x1.heap.size (.slice (some ⟨x1.drew.heap.size, 0, none⟩) 0 0) 0 [] rfl HEMB.out (some ⟨b, o, none⟩) R c2 (l2.take R) rfl (HSX.out _ HBB.out) (by omega) HBB.out.size ?_; intro v11 w11 hown hgr _; have HB11 : Hid (Below x1.heap.size x1 w11) := HBB.out.trans ((Below.refl _ _).grown hgr HBB.out.size (fun k e => (HEMB.out.lt k e).1)); have HXE := Lib.hid (sd_grown HXB.out hgr (by intro e; injection e with e; have q : x1.heap.size + 1 = x1.heap.size := e; omega)))
                  | (refine step_append_sc rfl _ _ rfl x1.heap.size (.slice (some ⟨x1.heap.size + 1, 0, none⟩) 0 0) 0 [] rfl HEMC.out (some ⟨b, o, none⟩) R c2 (l2.take R) rfl (HSX.out _ HBC.out) (by omega) HBC.out.size ?_; intro v11 w11 hown hgr _; have HB11 : Hid (Below x1.heap.size x1 w11) := HBC.out.trans ((Below.refl _ _).grown hgr HBC.out.size (fun k e => (HEMC.out.lt k e).1)); have HXE := Lib.hid (sd_grown HXC.out hgr (by intro e; injection e with e; have q : x1.heap.size = x1.heap.size + 1 := e; omega)))); obtain ⟨A11, k11, rfl⟩ := own_slice hown; have HO11 := Lib.hid hown; rw [Nat.zero_add, List.nil_append] at HO11; obtain ⟨q10, q11⟩ := HQ.out w11 HB11.out; clear hown hgr; try rw [Nat.zero_add]))
            all_goals
              go_wp2
              go_ret
              obtain ⟨A', c', q1, q2⟩ := HE.out
              exact ⟨A', c', by rw [← q1]; rfl, q2⟩
    
      · have hkn' : ¬ (k : Int) < n2 := by omega
        obtain rfl : R = k := by omega
        clear hb
        go_wp2_with fail
        go_quiet (fail)
        have HB5 : Hid (Below w3.heap.size w3 (wr.drewN nq)) := HBW.out.trans (below_drewN _ _ _)
        obtain ⟨w5, hw5⟩ : ∃ w5, wr.drewN nq = w5 := ⟨_, rfl⟩
        rw [hw5] at HB5 ⊢
        clear hw5
        have hbx : Below w5.heap.size w5 (w5.drew.alloc (.cells #[] 47)) := (Below.refl _ _).drew.alloc (Nat.le_refl _) _
        have hbx2 : Below w5.heap.size w5 (w5.drew.alloc (.cells #[.string m, .int .i64 z] 47)) := (Below.refl _ _).drew.alloc (Nat.le_refl _) _
        have hsX : (w5.drew.alloc (.cells #[.string m, .int .i64 z] 47)).heap.size = w5.heap.size + 1 := by rw [World.size_alloc]; rfl
        have hsE : (w5.drew.alloc (.cells #[] 47)).heap.size = w5.heap.size + 1 := by rw [World.size_alloc]; rfl
        have HEMP : Hid ((w5.drew.alloc (.cells #[] 47)).ownsRow w5.heap.size 47 2 (.slice (some ⟨w5.drew.heap.size, 0, none⟩) 0 0) 0 (mcells [])) := World.ownsRow_made w5.drew #[] 0 (Nat.le_refl _) (by decide) rfl
        have HEMB : Hid (((w5.drew.alloc (.cells #[] 47)).alloc (.cells #[.string m, .int .i64 z] 47)).ownsRow w5.heap.size 47 2 (.slice (some ⟨w5.drew.heap.size, 0, none⟩) 0 0) 0 (mcells [])) := HEMP.out.alloc _
        have HEMC : Hid (((w5.drew.alloc (.cells #[.string m, .int .i64 z] 47)).alloc (.cells #[] 47)).ownsRow w5.heap.size 47 2 (.slice (some ⟨w5.heap.size + 1, 0, none⟩) 0 0) 0 (mcells [])) := by
          have q := World.ownsRow_made (base := w5.heap.size) (e := 47) (size := 2) (w5.drew.alloc (.cells #[.string m, .int .i64 z] 47)) #[] 0 (by rw [hsX]; omega) (by decide) rfl
          rw [hsX] at q
          exact q
        have HBE := Lib.hid hbx
        have HBB : Hid (Below w5.heap.size w5 ((w5.drew.alloc (.cells #[] 47)).alloc (.cells #[.string m, .int .i64 z] 47))) := hbx.alloc hbx.size _
        have HBC : Hid (Below w5.heap.size w5 ((w5.drew.alloc (.cells #[.string m, .int .i64 z] 47)).alloc (.cells #[] 47))) := hbx2.alloc hbx2.size _
        have HXB : Hid (SdAt ((w5.drew.alloc (.cells #[] 47)).alloc (.cells #[.string m, .int .i64 z] 47)) (some ⟨w5.heap.size + 1, 0, none⟩) 1 1 [x]) := HX1.out _ _ hsE.symm
        have HXC : Hid (SdAt ((w5.drew.alloc (.cells #[.string m, .int .i64 z] 47)).alloc (.cells #[] 47)) (some ⟨w5.heap.size, 0, none⟩) 1 1 [x]) := (HX1.out w5.drew w5.heap.size rfl).below ((Below.refl _ _).alloc (Nat.le_refl _) _)
        have HSX := Lib.hid (fun X (hX : Below w5.heap.size w5 X) => (HL3.out X (bup HB5.out hX)).first hRn)
        have HS3 := Lib.hid (fun X (hX : Below w5.heap.size w5 X) => (HL3.out X (bup HB5.out hX)).rest hRn)
        have HCL : Hid (∀ (w4 : World) (v4 : Value) (mm : Nat), Below w5.heap.size w5 w4 → w4.ownsRow w5.heap.size 47 2 v4 mm (mcells (l2.take R ++ [x] ++ l2.drop R)) → mm = R + 1 + (n2 - R) → ∃ A' c', v4 = .slice A' P.length c' ∧ SdAt w4 A' P.length c' P ∧ Below M w w4 ∧ Frh M A') := fun w4 v4 mm h1 h2 e => by
          have e2 : l2.take R ++ [x] ++ l2.drop R = P := by rw [HP2.out]; unfold insAt; simp
          have e3 : P.length = mm := by rw [← e2]; simp; have := HLN2.out; omega
          rw [e2] at h2
          obtain ⟨A', c', q1, q2, q3⟩ := sd_of_own2 h2
          subst e3
          exact ⟨A', c', q1, q2, HBM.out w4 (bup HB5.out h1), q3.mono (by have q := (HBM.out _ HB5.out).size; have := HMh.out; omega)⟩
        have HQ : Hid (∀ X, Below w5.heap.size w5 X → X.cell? ⟨w2.heap.size, 0, none⟩ = some (.string m) ∧ X.cell? ⟨w2.heap.size, 1, none⟩ = some (.int .i64 z)) := fun X hX => HBX.out X (bup HB5.out hX)
        obtain ⟨q20, q21⟩ := HQ.out w5 (Below.refl _ _)
        obtain ⟨q22, q23⟩ := HQ.out w5.drew (Below.refl _ _).drew
        obtain ⟨q24, q25⟩ := HQ.out _ hbx
        obtain ⟨q26, q27⟩ := HQ.out ((w5.alloc (.cells #[] 47)).drew) ((Below.refl _ _).alloc (Nat.le_refl _) _).drew
        clear hbx hbx2 hsX hsE
        by_cases hci : R = c2
        · subst hci
          rw [if_pos rfl] at HS3
          have h00 : n2 - R = 0 := by omega
          rw [h00, Nat.sub_self] at HS3
          go_wp2_with fail
          go_region_law (first
            | (have qq := HB12; (refine step_append_sc rfl _ _ rfl w5.heap.size (.slice A12 (R + 1) k12) (R + 1) _ rfl HO12.out A2 0 0 _ rfl (HS3.out w12 HB12.out) (by omega) HB12.out.size ?_); intro v14 w14 hown hgr _; have hb4 := HB12.out.trans ((Below.refl _ _).grown hgr HB12.out.size (fun k e => (HO12.out.lt k e).1)); have HE := Lib.hid (HCL.out w14 v14 _ hb4 hown (by omega)); clear hown hgr hb4)
            | (have qq := HB11; (first
                | refine step_append_sc rfl _ _ rfl w5.heap.size (.slice A11 R k11) R _ rfl (HO11.out.alloc _) (some ⟨w11.heap.size, 0, none⟩) 1 1 [x] rfl (HX1.out w11 _ rfl) (by omega) (by have := HB11.out.size; simp; omega) ?_
                | refine step_append_sc rfl _ _ rfl w5.heap.size (.slice A11 R k11) R _ rfl HO11.out (some ⟨w5.heap.size + 1, 0, none⟩) 1 1 [x] rfl HXE.out (by omega) HB11.out.size ?_
                | refine step_append_sc rfl _ _ rfl w5.heap.size (.slice A11 R k11) R _ rfl HO11.out (some ⟨w5.heap.size, 0, none⟩) 1 1 [x] rfl HXE.out (by omega) HB11.out.size ?_); intro v12 w12 hown hgr _; obtain ⟨A12, k12, rfl⟩ := own_slice hown; have HB12 : Hid (Below w5.heap.size w5 w12) := (by first | exact (HB11.out.alloc HB11.out.size _).trans ((Below.refl _ _).grown hgr (by have := HB11.out.size; simp; omega) (fun k e => (HO11.out.lt k e).1)) | exact HB11.out.trans ((Below.refl _ _).grown hgr HB11.out.size (fun k e => (HO11.out.lt k e).1))); have HO12 := Lib.hid hown; clear hown hgr)
            | ((first
                | (refine step_append_sc rfl _ _ rfl w5.heap.size (.slice (some ⟨w5.drew.heap.size, 0, none⟩) 0 0) 0 [] rfl HEMP.out A2 R R (l2.take R) rfl (HSX.out _ HBE.out) (by omega) HBE.out.size ?_; intro v11 w11 hown hgr _; have HB11 : Hid (Below w5.heap.size w5 w11) := HBE.out.trans ((Below.refl _ _).grown hgr HBE.out.size (fun k e => (HEMP.out.lt k e).1)))
                | (refine step_append_sc rfl _ _ rfl w5.heap.size (.slice (some ⟨w5.drew.heap.size, 0, none⟩) 0 0) 0 [] rfl HEMB.out A2 R R (l2.take R) rfl (HSX.out _ HBB.out) (by omega) HBB.out.size ?_; intro v11 w11 hown hgr _; have HB11 : Hid (Below w5.heap.size w5 w11) := HBB.out.trans ((Below.refl _ _).grown hgr HBB.out.size (fun k e => (HEMB.out.lt k e).1)); have HXE := Lib.hid (sd_grown HXB.out hgr (by intro e; injection e with e; have q : w5.heap.size + 1 = w5.heap.size := e; omega)))
                | (refine step_append_sc rfl _ _ rfl w5.heap.size (.slice (some ⟨w5.heap.size + 1, 0, none⟩) 0 0) 0 [] rfl HEMC.out A2 R R (l2.take R) rfl (HSX.out _ HBC.out) (by omega) HBC.out.size ?_; intro v11 w11 hown hgr _; have HB11 : Hid (Below w5.heap.size w5 w11) := HBC.out.trans ((Below.refl _ _).grown hgr HBC.out.size (fun k e => (HEMC.out.lt k e).1)); have HXE := Lib.hid (sd_grown HXC.out hgr (by intro e; injection e with e; have q : w5.heap.size = w5.heap.size + 1 := e; omega)))); obtain ⟨A11, k11, rfl⟩ := own_slice hown; have HO11 := Lib.hid hown; rw [Nat.zero_add, List.nil_append] at HO11; obtain ⟨q10, q11⟩ := HQ.out w11 HB11.out; clear hown hgr; try rw [Nat.zero_add]))
          all_goals
            go_wp2
            go_ret
            obtain ⟨A', c', q1, q2⟩ := HE.out
            exact ⟨A', c', by rw [← q1]; rfl, q2⟩
        · have hcR : ¬ c2 = R := fun e => hci e.symm
          rw [if_neg hcR] at HS3
          go_wp2_with fail
          go_region_law (first
            | (have qq := HB12; (refine step_append_sc rfl _ _ rfl w5.heap.size (.slice A12 (R + 1) k12) (R + 1) _ rfl HO12.out (A2.map fun x => x.add (R * 2)) (n2 - R) (c2 - R) _ rfl (HS3.out w12 HB12.out) (by omega) HB12.out.size ?_); intro v14 w14 hown hgr _; have hb4 := HB12.out.trans ((Below.refl _ _).grown hgr HB12.out.size (fun k e => (HO12.out.lt k e).1)); have HE := Lib.hid (HCL.out w14 v14 _ hb4 hown (by omega)); clear hown hgr hb4)
            | (have qq := HB11; (first
                | refine step_append_sc rfl _ _ rfl w5.heap.size (.slice A11 R k11) R _ rfl (HO11.out.alloc _) (some ⟨w11.heap.size, 0, none⟩) 1 1 [x] rfl (HX1.out w11 _ rfl) (by omega) (by have := HB11.out.size; simp; omega) ?_
                | refine step_append_sc rfl _ _ rfl w5.heap.size (.slice A11 R k11) R _ rfl HO11.out (some ⟨w5.heap.size + 1, 0, none⟩) 1 1 [x] rfl HXE.out (by omega) HB11.out.size ?_
                | refine step_append_sc rfl _ _ rfl w5.heap.size (.slice A11 R k11) R _ rfl HO11.out (some ⟨w5.heap.size, 0, none⟩) 1 1 [x] rfl HXE.out (by omega) HB11.out.size ?_); intro v12 w12 hown hgr _; obtain ⟨A12, k12, rfl⟩ := own_slice hown; have HB12 : Hid (Below w5.heap.size w5 w12) := (by first | exact (HB11.out.alloc HB11.out.size _).trans ((Below.refl _ _).grown hgr (by have := HB11.out.size; simp; omega) (fun k e => (HO11.out.lt k e).1)) | exact HB11.out.trans ((Below.refl _ _).grown hgr HB11.out.size (fun k e => (HO11.out.lt k e).1))); have HO12 := Lib.hid hown; clear hown hgr)
            | ((first
                | (refine step_append_sc rfl _ _ rfl w5.heap.size (.slice (some ⟨w5.drew.heap.size, 0, none⟩) 0 0) 0 [] rfl HEMP.out A2 R c2 (l2.take R) rfl (HSX.out _ HBE.out) (by omega) HBE.out.size ?_; intro v11 w11 hown hgr _; have HB11 : Hid (Below w5.heap.size w5 w11) := HBE.out.trans ((Below.refl _ _).grown hgr HBE.out.size (fun k e => (HEMP.out.lt k e).1)))
                | (refine step_append_sc rfl _ _ rfl w5.heap.size (.slice (some ⟨w5.drew.heap.size, 0, none⟩) 0 0) 0 [] rfl HEMB.out A2 R c2 (l2.take R) rfl (HSX.out _ HBB.out) (by omega) HBB.out.size ?_; intro v11 w11 hown hgr _; have HB11 : Hid (Below w5.heap.size w5 w11) := HBB.out.trans ((Below.refl _ _).grown hgr HBB.out.size (fun k e => (HEMB.out.lt k e).1)); have HXE := Lib.hid (sd_grown HXB.out hgr (by intro e; injection e with e; have q : w5.heap.size + 1 = w5.heap.size := e; omega)))
                | (refine step_append_sc rfl _ _ rfl w5.heap.size (.slice (some ⟨w5.heap.size + 1, 0, none⟩) 0 0) 0 [] rfl HEMC.out A2 R c2 (l2.take R) rfl (HSX.out _ HBC.out) (by omega) HBC.out.size ?_; intro v11 w11 hown hgr _; have HB11 : Hid (Below w5.heap.size w5 w11) := HBC.out.trans ((Below.refl _ _).grown hgr HBC.out.size (fun k e => (HEMC.out.lt k e).1)); have HXE := Lib.hid (sd_grown HXC.out hgr (by intro e; injection e with e; have q : w5.heap.size = w5.heap.size + 1 := e; omega)))); obtain ⟨A11, k11, rfl⟩ := own_slice hown; have HO11 := Lib.hid hown; rw [Nat.zero_add, List.nil_append] at HO11; obtain ⟨q10, q11⟩ := HQ.out w11 HB11.out; clear hown hgr; try rw [Nat.zero_add]))
          all_goals
            go_wp2
            go_ret
            obtain ⟨A', c', q1, q2⟩ := HE.out
            exact ⟨A', c', by rw [← q1]; rfl, q2⟩

set_option maxRecDepth 100000 in
set_option maxHeartbeats 16000000 in
theorem rload_any {A : Option Addr} {n cp : Nat} {l : List Mb} (w : World) (hl : ScAt w A n cp l) (hn : n ≤ 900000) :
    Calls Tryd.prog 18 #[.slice A n cp] w fun e w' => Below w.heap.size w w' ∧ ((Each l ∧ ∃ O A' c', Ord O ∧ O.Perm l ∧ e = .returned (.tuple #[.slice A' n c', .int .i64 0]) ∧ SdAt w' A' n c' O ∧ Frh w.heap.size A') ∨ (¬ Each l ∧ e = .returned (.tuple #[.slice none 0 0, .int .i64 70]))) := by
  have hln : l.length = n := hl.len
  have HL := Lib.hid hl
  have HN := Lib.hid hln
  obtain ⟨M, hM⟩ : ∃ M, w.heap.size = M := ⟨_, rfl⟩
  have HMh := Lib.hid hM
  rw [hM]
  clear hl hln hM
  go_enter Tryd.func18, Tryd.ntmps18
  go_wp2
  go_loopw [4, 5] (fun ov iv wr => ∃ (i : Nat) (O : List Mb) (A' : Option Addr) (c' : Nat), iv = .int .i64 i ∧ ov = .slice A' i c' ∧ i ≤ n ∧ Ord O ∧ O.Perm (l.take i) ∧ SdAt wr A' i c' O ∧ Below M w wr ∧ Frh M A') (fun _ iv _ => n - (intOf iv).toNat)
  case atStart => exact ⟨0, [], none, 0, rfl, rfl, Nat.zero_le _, Ord.nil, by simp, SdAt.nil w, Below.refl _ _, (fun b o sp e => by cases e)⟩
  case round =>
    obtain ⟨i, O, A1, c1, rfl, rfl, hi, hO, hp, hs, hb, hfr⟩ := hrel
    have HFR := Lib.hid hfr
    have HO := Lib.hid hO
    have HP := Lib.hid hp
    have HSD := Lib.hid hs
    have HBW := Lib.hid hb
    by_cases hlt : i < n
    · obtain ⟨x, hx⟩ : ∃ x, l[i]? = some x := ⟨_, List.getElem?_eq_getElem (by rw [HN.out]; exact hlt)⟩
      have hlt' : (i : Int) < n := by omega
      have hb' : Below w.heap.size w wr := by rw [HMh.out]; exact hb
      obtain ⟨b, o, hAe, hbl, hc⟩ := (HL.out.below hb').at_ (by omega)
      subst hAe
      obtain ⟨y0, y1⟩ := hc i x hx
      have HX := Lib.hid hx
      have HF := rfind_any wr hs.1 ⟨x.1.toArray⟩
      have HU := fun X (hX : Below wr.heap.size wr X) => rput_any X (hs.below hX) hO.1 (by omega) ⟨x.1.toArray⟩ x.2
      have ed : (⟨x.1.toArray⟩ : ByteArray).data.toList = x.1 := by simp
      rw [ed] at HF HU
      obtain ⟨TT, hTT⟩ : ∃ T : ByteArray, (⟨x.1.toArray⟩ : ByteArray) = T := ⟨_, rfl⟩
      obtain ⟨Z, hZ⟩ : ∃ Z, x.2 = Z := ⟨_, rfl⟩
      rw [hTT] at y0 HF HU
      rw [hZ] at y1
      have hZZ := Lib.hid hZ
      rcases hf : fndM O x.1 with _ | j
      · obtain ⟨s1, s2, _⟩ := load_step hO hp hx hf
        have hplen : (putM O x.1 x.2).length = i + 1 := by rw [s2.length_eq, List.length_take, HN.out]; omega
        have HF2 : Hid (Calls Tryd.prog 24 #[.slice A1 i c1, .string TT] wr fun e w' => e = .returned (.int .i64 (-1)) ∧ w' = wr) := by have q := HF; rw [hf] at q; exact q
        obtain ⟨O2, hO2⟩ : ∃ O2, putM O x.1 x.2 = O2 := ⟨_, rfl⟩
        have HU2 := Lib.hid HU
        rw [hO2, hZ] at HU2
        rw [hO2] at s1 s2 hplen
        have HS1 := Lib.hid s1
        have HS2 := Lib.hid s2
        have HPL := Lib.hid hplen
        have H0 : Hid (Below wr.heap.size wr wr) := Below.refl _ _
        have HSX : Hid (∀ X, Below wr.heap.size wr X → Below wr.heap.size wr X ∧ X.cell? ⟨b, o + i * 2, none⟩ = some (.string TT) ∧ X.cell? ⟨b, o + i * 2 + 1, none⟩ = some (.int .i64 Z)) := fun X hX =>
          ⟨hX, (hX.cell (p := ⟨b, o + i * 2, none⟩) hbl).trans y0, (hX.cell (p := ⟨b, o + i * 2 + 1, none⟩) hbl).trans y1⟩
        clear HF HU hf hO hp hs hb hb' hc hx hTT hZ s1 s2 hplen hO2 ed
        go_wp2_with fail
        refine HF2.out.mono ?_
        rintro e w1 ⟨rfl, hw1⟩
        rw [hw1]
        clear hw1
        go_wp2_with fail
        go_region_held3 (fun X => Below wr.heap.size wr X ∧ X.cell? ⟨b, o + i * 2, none⟩ = some (.string TT) ∧ X.cell? ⟨b, o + i * 2 + 1, none⟩ = some (.int .i64 Z))
          (first | exact HSX.out _ HC1.out | exact HSX.out _ H0.out.drew | exact HSX.out _ H0.out)
          (first | (go_at_call 26; refine Calls.mono (HU2.out _ (by first | exact H0.out.drew | exact H0.out)) ?_; rintro en x1 ⟨A4, c4, rfl, hs4, hb4, hf4⟩; have HF4 := Lib.hid hf4; have HC1 : Hid (Below wr.heap.size wr x1) := (by first | exact hb4 | exact (Below.refl _ _).drew.trans hb4); have HS4 := Lib.hid hs4; clear hs4 hb4 hf4))
        all_goals
          rw [HPL.out] at HS4 ⊢
          go_wp2
          go_roundw
          case rel => exact ⟨i + 1, O2, A4, c4, by go_num, rfl, hlt, HS1.out, HS2.out, HS4.out, HBW.out.trans (HC1.out.mono (by have := HBW.out.size; have := HMh.out; omega)), HF4.out.mono (by have := HBW.out.size; have := HMh.out; show M ≤ wr.heap.size; omega)⟩
          case measure => simp only [intOf]; omega
      · have HE := Lib.hid (load_stop hp hx hf)
        have HF2 : Hid (Calls Tryd.prog 24 #[.slice A1 i c1, .string TT] wr fun e w' => e = .returned (.int .i64 (j : Nat)) ∧ w' = wr) := by have q := HF; rw [hf] at q; exact q
        clear HF HU hf hO hp hs hb hb' hc hx hTT hZ ed
        go_wp2_with fail
        refine HF2.out.mono ?_
        rintro e w1 ⟨rfl, hw1⟩
        rw [hw1]
        clear hw1
        go_wp2
        go_ret2
        exact ⟨HBW.out, Or.inr ⟨HE.out, rfl⟩⟩
    · have hge : ¬ (i : Int) < n := by omega
      obtain rfl : i = n := by omega
      have hpl : O.Perm l := by rw [List.take_of_length_le (by rw [HN.out]; exact Nat.le_refl _)] at hp; exact hp
      have HPL := Lib.hid hpl
      clear hO hp hs hb hpl hlt
      go_wp2
      go_ret2
      exact ⟨HBW.out, Or.inl ⟨((HPL.out.map (·.1)).nodup_iff).1 HO.out.2, O, HO.out, HPL.out, A1, c1, rfl, HSD.out, HFR.out⟩⟩

end Go.Proofs.YtcbiiioglklpoaaDoor
