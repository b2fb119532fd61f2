/-
  The walk of the document's own bulks: a row of bulks. Conditions: the bytes lie in memory as a slice that reads as them.
-/
import Derived.Test.YtkaododohnncnaaRspB
namespace Go.Proofs.Ytkaododohnncnaa
open Go.RowKit
set_option maxHeartbeats 2000000 in
theorem rbulks_any (b o cap : Nat) (l : List UInt8) (w : World) (hl : l.length ≤ cap) (hcap : cap ≤ 9223372036854775807) (h0 : 0 < l.length) (h42 : l.getD 0 0 = 42) (hb : b < w.heap.size) (hc : BytesAt w b o l) :
    Calls Try.prog 21 #[.slice (some ⟨b, o, none⟩) l.length cap] w (FndPost w (bulksS l)) := by
  have HC := Lib.hid hc
  clear hc
  have hbig : bigM.length ≤ 1000 := by decide
  go_enter Try.func21, Try.ntmps21
  go_wp2_with fail
  refine (rhead_any bigM b o cap 0 l _ hbig hl hcap h0 (by rw [h42]; decide) (by simp; omega) (fun j hj => (World.cell?_alloc_lt w _ ⟨b, o + j, none⟩ hb).trans (HC.out j hj))).mono ?_
  rintro e w1 ⟨rfl, hb1⟩
  rw [List.drop_zero]
  have hz1 := hb1.size
  simp only [World.size_alloc] at hz1
  obtain ⟨hc1, hf1⟩ := bcell hb1
  simp only [World.size_alloc] at hc1 hf1
  have hz0 : w.heap.size < w1.heap.size := by omega
  have hbase : Below w.heap.size w w1 := ((Below.refl _ _).alloc (Nat.le_refl _) _).trans (hb1.mono (by simp))
  cases hh : headS bigM l with
  | none =>
    have HS : Hid (bulksS l = none) := by unfold Hid bulksS; rw [hh]
    clear hh
    simp only [headV, fndV]
    go_wp2
    refine bodyPost_ret (v := fndV 0 0 (.slice none 0 0) []) ?_ rfl ⟨?_, ?_⟩
    · simp [results, Try.results21, go_sem, fndV, hc1, hz0]
    · repeat (first | exact below_cell4 hbase (Nat.le_refl _) _ _ _ _ | (refine Below.drew ?_) | (refine Below.alloc ?_ (by simp; omega) _))
    · rw [HS.out]
  | some x =>
    rcases x with f | ⟨t, nx⟩
    · have HS : Hid (bulksS l = some (.inl f)) := by unfold Hid bulksS; rw [hh]
      clear hh
      simp only [headV, fndV]
      go_wp2
      refine bodyPost_ret (v := fndV 2 0 (.slice none 0 0) f) ?_ rfl ⟨?_, ?_⟩
      · simp [results, Try.results21, go_sem, fndV, hc1, hz0]
      · repeat (first | exact below_cell4 hbase (Nat.le_refl _) _ _ _ _ | (refine Below.drew ?_) | (refine Below.alloc ?_ (by simp; omega) _))
      · rw [HS.out]
    · obtain ⟨n1, n2, n3⟩ := headS_inr hh
      have HH := Lib.hid hh
      clear hh
      have hts : (⟨t.toArray⟩ : ByteArray).size ≤ 9223372036854775807 := by show t.toArray.size ≤ _; rw [List.size_toArray]; omega
      have HTS := Lib.hid hts
      clear hts
      simp only [headV, fndV]
      go_wp2_with fail
      refine (refParse_all ⟨t.toArray⟩ _ HTS.out).mono ?_
      rintro e w' ⟨rfl, rfl⟩
      rw [show (ByteArray.mk t.toArray).data.toList = t from by simp]
      cases hp : parseV t with
      | none =>
        have HS : Hid (bulksS l = some (.inl (perrB ++ badM))) := by unfold Hid bulksS; rw [HH.out]; simp only [hp]
        clear hp
        simp only [valV, errV, Option.isSome_none, Option.getD_none, Bool.false_eq_true, if_false]
        go_wp2_with fail
        refine (rwrong_any badM _ (by decide)).mono ?_
        rintro e w3 ⟨rfl, hb3⟩
        unfold fndV
        have hb13 : Below w1.heap.size w1 w3 := ((Below.refl _ _).alloc (Nat.le_refl _) _).trans (hb3.mono (by simp))
        obtain ⟨hc3, hf3⟩ := bcell hb13
        have hz3 := hb13.size
        have hbase3 : Below w.heap.size w w3 := hbase.trans (hb13.mono (by omega))
        go_wp2
        refine bodyPost_ret (v := fndV 2 0 (.slice none 0 0) (perrB ++ badM)) ?_ rfl ⟨?_, ?_⟩
        · simp [results, Try.results21, go_sem, fndV, hc1, hc3, hz0]
        · exact below_cell4 hbase3 (Nat.le_refl _) _ _ _ _
        · rw [HS.out]
      | some n =>
        simp only [valV, errV, Option.isSome_some, Option.getD_some, if_true]
        by_cases hn : 1024 < n
        · have HS : Hid (bulksS l = some (.inl (perrB ++ badM))) := by unfold Hid bulksS; rw [HH.out]; simp only [hp]; rw [if_pos hn]
          clear hp
          go_wp2_with fail
          refine (rwrong_any badM _ (by decide)).mono ?_
          rintro e w3 ⟨rfl, hb3⟩
          unfold fndV
          have hb13 : Below w1.heap.size w1 w3 := ((Below.refl _ _).alloc (Nat.le_refl _) _).trans (hb3.mono (by simp))
          obtain ⟨hc3, hf3⟩ := bcell hb13
          have hz3 := hb13.size
          have hbase3 : Below w.heap.size w w3 := hbase.trans (hb13.mono (by omega))
          go_wp2
          refine bodyPost_ret (v := fndV 2 0 (.slice none 0 0) (perrB ++ badM)) ?_ rfl ⟨?_, ?_⟩
          · simp [results, Try.results21, go_sem, fndV, hc1, hc3, hz0]
          · exact below_cell4 hbase3 (Nat.le_refl _) _ _ _ _
          · rw [HS.out]
        · have HS : Hid (bulksS l = bulksGo l n.toNat nx []) := by unfold Hid bulksS; rw [HH.out]; simp only [hp]; rw [if_neg hn]
          clear hp
          go_wp2
          obtain ⟨i0, hi, hy0, hy1, hy2⟩ := info_parts info_str
          go_loopw [4, 8, 9, 10, 11, 12] (fun a v i _ _ _ wr => ∃ (k p : Nat) (acc : List (List UInt8)), a = .int .i64 p ∧ i = .int .i64 k ∧ k ≤ n.toNat ∧ p ≤ l.length ∧ acc.length = k ∧ wr.ownsRow (w.heap.size + 1) 9 1 v k (acc.map strV) ∧ Below (w.heap.size + 1) w1 wr ∧ Hid (bulksGo l (n.toNat - k) p acc = bulksS l)) (fun _ _ i _ _ _ _ => n.toNat - (intOf i).toNat)
          case atStart => exact ⟨0, nx, [], rfl, rfl, by omega, by omega, rfl, ⟨rfl, .inl ⟨rfl, rfl⟩⟩, by first | exact Below.refl _ _ | exact (Below.refl _ _).alloc (by omega) _, HS.out.symm⟩
          case round =>
            obtain ⟨k, p, acc, rfl, rfl, hk, hp, hacc, hown, hbr, HG⟩ := hrel
            have hzr := hbr.size
            obtain ⟨hcr, hfr⟩ : (∀ b o, b < w.heap.size + 1 → wr.cell? ⟨b, o, none⟩ = w1.cell? ⟨b, o, none⟩) ∧ (∀ b o, b < w.heap.size + 1 → wr.frozen? ⟨b, o, none⟩ = w1.frozen? ⟨b, o, none⟩) :=
              ⟨fun b o h => hbr.cell (p := ⟨b, o, none⟩) h, fun b o h => hbr.frozen (p := ⟨b, o, none⟩) h⟩
            have hbw : Below w.heap.size w wr := hbase.trans (hbr.mono (by omega))
            by_cases hlt : (k : Int) < n
            · obtain ⟨m, hm⟩ : ∃ m, n.toNat - k = m + 1 := ⟨n.toNat - k - 1, by omega⟩
              have HST := Lib.hid (HG.out.symm.trans ((congrArg (fun z => bulksGo l z p acc) hm).trans (bulksGo_step l m p acc)))
              have hm' : n.toNat - (k + 1) = m := by omega
              have HM := Lib.hid hm'
              clear HG hm hm'
              go_wp2_with fail
              refine (rbulk_any b o cap p l wr hl hcap hp (by omega) (HC.out.below hbw hb)).mono ?_
              rintro e w2 ⟨rfl, hb2⟩
              have hz2 := hb2.size
              obtain ⟨hc2, hf2⟩ := bcell hb2
              have hwr : w.heap.size < wr.heap.size := by omega
              have hw2 : w.heap.size < w2.heap.size := by omega
              have hbase2 : Below w.heap.size w w2 := hbw.trans (hb2.mono (by omega))
              cases hq : bulkS (l.drop p) with
              | none =>
                have HE : Hid (bulksS l = none) := by unfold Hid; rw [HST.out, hq]
                clear HST hq
                simp only [headV, fndV]
                go_wp2
                refine bodyPost_ret (v := fndV 0 0 (.slice none 0 0) []) ?_ rfl ⟨?_, ?_⟩
                · simp [results, Try.results21, go_sem, fndV, hc1, hc2, hcr, hwr, hw2]
                · repeat (first | exact below_cell4 hbase2 (Nat.le_refl _) _ _ _ _ | (refine Below.drew ?_) | (refine Below.alloc ?_ (by simp; omega) _))
                · rw [HE.out]
              | some x =>
                rcases x with f | ⟨t', ny⟩
                · have HE : Hid (bulksS l = some (.inl f)) := by unfold Hid; rw [HST.out, hq]
                  clear HST hq
                  simp only [headV, fndV]
                  go_wp2
                  refine bodyPost_ret (v := fndV 2 0 (.slice none 0 0) f) ?_ rfl ⟨?_, ?_⟩
                  · simp [results, Try.results21, go_sem, fndV, hc1, hc2, hcr, hwr, hw2]
                  · repeat (first | exact below_cell4 hbase2 (Nat.le_refl _) _ _ _ _ | (refine Below.drew ?_) | (refine Below.alloc ?_ (by simp; omega) _))
                  · rw [HE.out]
                · obtain ⟨y1, y2, y3⟩ := bulkS_inr hq
                  rw [List.length_drop] at y2
                  have HE : Hid (bulksGo l (n.toNat - (k + 1)) (p + ny) (acc ++ [t']) = bulksS l) := by unfold Hid; rw [HST.out, hq, HM.out]
                  clear HST hq
                  have hown2 := ownsRow_below hown hb2
                  simp only [headV, fndV]
                  go_wp2_with (at_builtin; refine wpList_append_own _ rfl _ _ 39 rfl (w.heap.size + 1) 9 i0 (.string ⟨#[]⟩) 1 16 Try.underlying39 hi hy0 hy1 hy2 rfl (by decide) _ _ _ rfl ((hown2.alloc _).alloc _) ⟨w2.heap.size + 1, 0, none⟩ 1 1 [strV t'] rfl rfl ?c1 ?c2 ?c3 ?c4 ?c5 ?_)
                  case c1 =>
                    intro j u hj
                    cases j with
                    | zero => simp at hj; subst hj; simp [Addr.add, strV, World.cell?_alloc_at]
                    | succ j => simp at hj
                  case c2 => intro u hu; simp at hu; subst hu; rfl
                  case c3 => unfold maxLen; omega
                  case c4 => omega
                  case c5 => simp; omega
                  intro v' w3 hown3 hgr3 _
                  have hbr3 : Below (w.heap.size + 1) w1 w3 := by
                    have h2 : Below (w.heap.size + 1) w1 w2 := hbr.trans (hb2.mono (by omega))
                    refine (((h2.alloc (by omega) _).alloc (by simp; omega) _).grown hgr3 (by simp; omega) ?_)
                    intro g hg
                    exact (hown.lt g hg).1
                  have hs' : (acc ++ [t']).map strV = acc.map strV ++ [strV t'] := by simp
                  rw [← hs'] at hown3
                  go_wp2
                  go_roundw
                  case rel => exact ⟨k + 1, p + ny, acc ++ [t'], by go_num, by go_num, by omega, by omega, by simp [hacc], hown3, hbr3, HE.out⟩
                  case measure => simp [intOf]; omega
            · have HE : Hid (bulksS l = some (.inr (acc, p))) := by
                unfold Hid
                rw [← HG.out, show n.toNat - k = 0 from by omega]
                rfl
              clear HG
              have hwr : w.heap.size < wr.heap.size := by omega
              obtain ⟨A, c, rfl⟩ := ownsRow_form hown
              go_wp2
              refine bodyPost_ret (v := fndV 1 p (.slice A k c) []) ?_ rfl ⟨?_, ?_⟩
              · simp [results, Try.results21, go_sem, fndV, hc1, hcr]
              · exact below_cell4 hbw (Nat.le_refl _) _ _ _ _
              · rw [HE.out]
                refine ⟨_, rfl, ?_⟩
                rw [hacc]
                exact ownsRow_base (ownsRow_set (ownsRow_set (ownsRow_set (ownsRow_set hown _ (by omega) _ _) _ (by omega) _ _) _ (by omega) _ _) _ (by omega) _ _) (by omega)

end Go.Proofs.Ytkaododohnncnaa
