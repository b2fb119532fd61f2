/-
  The walk of package resp's bulks. Conditions: the request that is being read holds what its state says.
-/
import Derived.Test.YtkaododohnncnaaDoorRpF
namespace Go.Proofs.YtkaododohnncnaaDoor
open Go.RowKit

/-- What the reading of a row of bulks, of a line, of a request tells. -/
def ReqPost (W : World) (B b : Nat) (tb : Option Nat) (l : List UInt8) (R : Fnd (List (List UInt8))) (e : Ending) (w' : World) : Prop :=
  match R with
  | none => e = .returned (.bool false) ∧ Mod W B tb w'
  | some (.inl f) => Thrown f e ∧ Mod W B tb w'
  | some (.inr (ws, k)) => e = .returned (.bool true) ∧ ∃ v' tv' vs', RSt W B b tb (l.drop k) ws v' tv' vs' w'

set_option maxRecDepth 100000 in
set_option maxHeartbeats 4000000 in
theorem pbulks_any (W : World) (B b : Nat) (tb : Option Nat) (r : List UInt8) (v tv : Value) (vs : List Value) (w : World) (h : RSt W B b tb (42 :: r) [] v tv vs w) :
    Calls Tryd.prog 72 #[.pointer (some ⟨B, 0, none⟩)] w (ReqPost W B b tb (42 :: r) (bulksS (42 :: r))) := by
  have hc := h.c0
  obtain ⟨_, hnb, hb, hB, hWw⟩ := h.fresh
  have HCO := Lib.hid (pcount_any B b v (-9223372036854775808) 1024 bigM (perrB ++ badM) (42 :: r) w hB hb hnb hc h.f0 (h.bytes h.left) (by show (42 : UInt8) ≠ 13; decide))
  have HH := Lib.hid h
  obtain ⟨l, hl⟩ : ∃ l : List UInt8, l = 42 :: r := ⟨_, rfl⟩
  rw [← hl] at HCO HH ⊢
  obtain ⟨R, hR⟩ : ∃ R, bulksS l = R := ⟨_, rfl⟩
  rw [hR]
  have HR := Lib.hid hR
  clear h hl hR
  cases hh : headS bigM l with
  | none =>
    have HS : Hid (R = none) := by unfold Hid; rw [← HR.out]; unfold bulksS; rw [hh]
    have HC2 := Lib.hid (fun e w' (k : CountPost w B b (-9223372036854775808) 1024 bigM (perrB ++ badM) l e w') => (by unfold CountPost at k; rw [hh] at k; exact k : e = .returned (.tuple #[.int .i64 0, .bool false]) ∧ ∃ v', Put w ⟨B, 0, none⟩ v' w'))
    clear hh
    go_enter Tryd.func72, Tryd.ntmps72
    go_wp2_with fail
    refine HCO.out.mono ?_
    rintro e w1 hpost
    obtain ⟨rfl, v1, hp1⟩ := HC2.out _ _ hpost
    go_wp2
    go_ret
    rw [HS.out]
    exact ⟨rfl, HH.out.mod.put hp1⟩
  | some x =>
    rcases x with f | ⟨t, nx⟩
    · have HS : Hid (R = some (.inl f)) := by unfold Hid; rw [← HR.out]; unfold bulksS; rw [hh]
      have HC2 := Lib.hid (fun e w' (k : CountPost w B b (-9223372036854775808) 1024 bigM (perrB ++ badM) l e w') => (by unfold CountPost at k; rw [hh] at k; exact k : Thrown f e ∧ Below w.heap.size w w'))
      clear hh
      go_enter Tryd.func72, Tryd.ntmps72
      go_wp2_with fail
      refine HCO.out.mono ?_
      rintro e w1 hpost
      obtain ⟨rfl, hb1⟩ := HC2.out _ _ hpost
      go_wp2
      refine ⟨rfl, ?_⟩
      rw [HS.out]
      exact ⟨rfl, HH.out.mod.below hb1⟩
    · cases hp : parseV t with
      | none =>
        have HS : Hid (R = some (.inl (perrB ++ badM))) := by unfold Hid; rw [← HR.out]; unfold bulksS; rw [hh]; simp only [hp]
        have HC2 := Lib.hid (fun e w' (k : CountPost w B b (-9223372036854775808) 1024 bigM (perrB ++ badM) l e w') => (by unfold CountPost at k; rw [hh] at k; dsimp only at k; rw [hp] at k; exact k : Thrown (perrB ++ badM) e ∧ ∃ v', Put w ⟨B, 0, none⟩ v' w'))
        clear hh hp
        go_enter Tryd.func72, Tryd.ntmps72
        go_wp2_with fail
        refine HCO.out.mono ?_
        rintro e w1 hpost
        obtain ⟨rfl, v1, hp1⟩ := HC2.out _ _ hpost
        go_wp2
        refine ⟨rfl, ?_⟩
        rw [HS.out]
        exact ⟨rfl, HH.out.mod.put hp1⟩
      | some n =>
        have hn64 : -9223372036854775808 ≤ n := (itoa_parse t n hp).2.1
        by_cases hn : 1024 < n
        · have HS : Hid (R = some (.inl (perrB ++ badM))) := by unfold Hid; rw [← HR.out]; unfold bulksS; rw [hh]; simp only [hp]; rw [if_pos hn]
          have HC2 := Lib.hid (fun e w' (k : CountPost w B b (-9223372036854775808) 1024 bigM (perrB ++ badM) l e w') => (by unfold CountPost at k; rw [hh] at k; dsimp only at k; rw [hp] at k; dsimp only at k; rw [if_pos (Or.inr hn)] at k; exact k : Thrown (perrB ++ badM) e ∧ ∃ v', Put w ⟨B, 0, none⟩ v' w'))
          clear hh hp hn hn64
          go_enter Tryd.func72, Tryd.ntmps72
          go_wp2_with fail
          refine HCO.out.mono ?_
          rintro e w1 hpost
          obtain ⟨rfl, v1, hp1⟩ := HC2.out _ _ hpost
          go_wp2
          refine ⟨rfl, ?_⟩
          rw [HS.out]
          exact ⟨rfl, HH.out.mod.put hp1⟩
        · have HS : Hid (bulksGo l n.toNat nx [] = R) := by unfold Hid; rw [← HR.out]; unfold bulksS; rw [hh]; simp only [hp]; rw [if_neg hn]
          have HC2 := Lib.hid (fun e w' (k : CountPost w B b (-9223372036854775808) 1024 bigM (perrB ++ badM) l e w') => (by unfold CountPost at k; rw [hh] at k; dsimp only at k; rw [hp] at k; dsimp only at k; rw [if_neg (by omega)] at k; exact k : ∃ v', e = .returned (.tuple #[.int .i64 n, .bool true]) ∧ LeftV w b v' (l.drop nx) ∧ Put w ⟨B, 0, none⟩ v' w'))
          clear hh hp HR
          go_enter Tryd.func72, Tryd.ntmps72
          go_wp2_with fail
          refine HCO.out.mono ?_
          rintro e w1 hpost
          obtain ⟨v1, rfl, hv1, hp1⟩ := HC2.out _ _ hpost
          have HH1 := Lib.hid (HH.out.put hp1 (HH.out.back hv1))
          clear hpost hv1 hp1 HC2 HCO HH hc
          go_wp2
          go_loopw [3] (fun z wr => ∃ (k : Int) (p : Nat) (acc : List (List UInt8)) (v tv : Value) (vs : List Value), z = .int .i64 k ∧ k ≤ 1024 ∧ -9223372036854775808 ≤ k ∧ acc.length + k.toNat ≤ 1024 ∧ RSt W B b tb (l.drop p) acc v tv vs wr ∧ Hid (bulksGo l k.toNat p acc = R)) (fun z _ => (intOf z).toNat)
          case atStart => exact ⟨n, nx, [], v1, tv, vs, rfl, by omega, hn64, by simp only [List.length_nil]; omega, HH1.out, HS.out⟩
          case round =>
            clear HS HH1 hn hn64
            obtain ⟨k, p, acc, v2, tv2, vs2, rfl, hk, hk64, hacc, hst, HG⟩ := hrel
            have HST := Lib.hid hst
            clear hst
            by_cases hlt : 0 < k
            · obtain ⟨m, hm⟩ : ∃ m, k.toNat = m + 1 := ⟨k.toNat - 1, by omega⟩
              have hm' : (k - 1).toNat = m := by omega
              have HST2 := Lib.hid (HG.out.symm.trans ((congrArg (fun z => bulksGo l z p acc) hm).trans (bulksGo_step l m p acc)))
              have HM' := Lib.hid hm'
              clear HG hm hm'
              go_wp2_with fail
              refine (pbulk_any W B b tb _ acc v2 tv2 vs2 wr HST.out (by omega)).mono ?_
              rintro e w2 hpost
              cases hq : bulkS (l.drop p) with
              | none =>
                have HE : Hid (R = none) := by unfold Hid; rw [HST2.out, hq]
                unfold BulkPost at hpost
                rw [hq] at hpost
                obtain ⟨rfl, hmod⟩ := hpost
                clear hq HST2
                go_wp2
                go_ret
                rw [HE.out]
                exact ⟨rfl, hmod⟩
              | some x =>
                rcases x with f | ⟨t', ny⟩
                · have HE : Hid (R = some (.inl f)) := by unfold Hid; rw [HST2.out, hq]
                  unfold BulkPost at hpost
                  rw [hq] at hpost
                  obtain ⟨rfl, hmod⟩ := hpost
                  clear hq HST2
                  go_wp2
                  refine ⟨rfl, ?_⟩
                  rw [HE.out]
                  exact ⟨rfl, hmod⟩
                · have HE : Hid (bulksGo l (k - 1).toNat (p + ny) (acc ++ [t']) = R) := by unfold Hid; rw [HST2.out, hq, HM'.out]
                  unfold BulkPost at hpost
                  rw [hq] at hpost
                  obtain ⟨rfl, v3, tv3, vs3, hst3⟩ := hpost
                  rw [List.drop_drop] at hst3
                  have HST3 := Lib.hid hst3
                  clear hq HST2 hst3
                  go_wp2
                  go_roundw
                  case rel => exact ⟨k - 1, p + ny, acc ++ [t'], v3, tv3, vs3, by go_num, by omega, by omega, by rw [List.length_append]; simp only [List.length_singleton]; omega, HST3.out, HE.out⟩
                  case measure => simp [intOf]; omega
            · have HE : Hid (R = some (.inr (acc, p))) := by
                unfold Hid
                rw [← HG.out, show k.toNat = 0 from by omega]
                rfl
              clear HG
              go_wp2
              go_ret
              rw [HE.out]
              exact ⟨rfl, _, _, _, HST.out⟩

end Go.Proofs.YtkaododohnncnaaDoor
