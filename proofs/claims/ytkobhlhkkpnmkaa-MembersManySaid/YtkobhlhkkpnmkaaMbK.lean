/-
  Package members: repeated, dealt, Pick, Some. Conditions: the row lies in memory.
-/
import Derived.Test.YtkobhlhkkpnmkaaMbP
import Derived.Test.YtkobhlhkkpnmkaaMbD
import Derived.Deep.RegionWith
namespace Go.Proofs.Ytkobhlhkkpnmkaa
open Go.RowKit

set_option maxRecDepth 100000 in
set_option maxHeartbeats 16000000 in
theorem rep_any {A : Option Addr} {n cp : Nat} {L : List Tx} (w : World) (h : TxAt w A n cp L) (h0 : 0 < n) (hn : n ≤ 3000000) {m d : Nat} (hm : m ≤ 2000) (hd : d < 18446744073709551616) :
    Calls Try.prog 49 #[.slice A n cp, .int .i64 m, .int .u64 d] w fun e w' => ∃ A' c', e = .returned (.slice A' m c') ∧ TxAt w' A' m c' (rpX L d m) ∧ Below w.heap.size w w' := by
  have HA := Lib.hid h
  have HLL := Lib.hid h.len
  have HLN : Hid (L ≠ []) := fun e => by have := h.len; rw [e] at this; simp at this; omega
  have HRF : Hid (∀ x ∈ rpX L d m, x.length ≤ 140737488355328) := fun x hx => h.fits x (rpX_mem HLN.out hx)
  have HRG := Lib.hid (fun k (hk : k < m) => rpX_get L d hk)
  have HRL := Lib.hid (rpX_len L d m)
  have HPL : Hid (∀ (k : Nat) (X : World), Calls Try.prog 48 #[.int .u64 (drN d k), .int .i64 n] X fun e w' => e = .returned (.int .i64 (drN d k % n : Nat)) ∧ w' = X) := fun k X => place_any (drN d k) n (drN_lt hd k) h0 (by omega) X
  have HNX : Hid (∀ (k : Nat) (X : World), Calls Try.prog 60 #[.int .u64 (drN d k)] X fun e w' => e = .returned (.int .u64 (drN d (k + 1))) ∧ w' = X) := fun k X => next_any (drN d k) X
  have HAT : Hid (∀ k, L[drN d k % n]? = some (atD L (drN d k))) := fun k => by have q := atD_get HLN.out (drN d k); rw [h.len] at q; exact q
  obtain ⟨R, hR⟩ : ∃ R, rpX L d m = R := ⟨_, rfl⟩
  rw [hR] at HRF HRG HRL ⊢
  obtain ⟨i0, hi0, hz0⟩ := Option.map_eq_some_iff.1 info_str
  simp only [Prod.mk.injEq] at hz0
  have HI := Lib.hid hi0
  have HZ := Lib.hid hz0
  obtain ⟨M, hM⟩ : ∃ M, w.heap.size = M := ⟨_, rfl⟩
  have HM := Lib.hid hM
  obtain ⟨w1, hw1⟩ : ∃ w1, w.alloc (.cells (madeCells #[.string ⟨#[]⟩] m) 9) = w1 := ⟨_, rfl⟩
  have HW1 := Lib.hid hw1
  have HR0 : Hid (w1.rowIs M 9 m (fF R 0)) := by
    unfold Hid
    rw [← hw1, ← hM]
    exact (World.rowIs_made w (.string ⟨#[]⟩) m 9).congr (fun i _ => by unfold fF; rw [if_neg (Nat.not_lt_zero i)])
  have HB0 : Hid (Below M w w1) := by unfold Hid; rw [← hw1, ← hM]; exact (Below.refl _ _).alloc (Nat.le_refl _) _
  rw [hM]
  have hd0 : drN d 0 = d := rfl
  have HD0 := Lib.hid hd0
  clear h hi0 hz0 hw1 hR hd hd0
  go_enter Try.func49, Try.ntmps49
  go_wp2_with (refine wpList_make_row _ rfl _ _ 22 rfl 9 i0 (.string ⟨#[]⟩) Try.underlying22 HI.out HZ.out.1 HZ.out.2.1 rfl .i64 .i64 m rfl rfl (by rw [HZ.out.2.2]; omega) (by omega) ?_)
  rw [HW1.out]
  clear hM
  go_loopw [2, 12] (fun dv iv wr => ∃ i : Nat, iv = .int .i64 i ∧ dv = .int .u64 (drN d i) ∧ i ≤ m ∧ Below M w wr ∧ wr.rowIs M 9 m (fF R i)) (fun _ iv _ => m - (intOf iv).toNat)
  case atStart => exact ⟨0, rfl, by rw [HD0.out], Nat.zero_le _, HB0.out, HR0.out⟩
  case round =>
    obtain ⟨i, rfl, rfl, hi, hb, hr⟩ := hrel
    have HB := Lib.hid hb
    have HR := Lib.hid hr
    by_cases hlt : i < m
    · obtain ⟨b, o, rfl, hbl, hc⟩ := (HA.out.below (w' := wr) (by rw [HM.out]; exact hb)).at_ (by omega)
      have hpl := Nat.mod_lt (drN d i) h0
      have c0 := hc _ _ (HAT.out i)
      have hlt' : (i : Int) < (m : Int) := by omega
      have HPI := Lib.hid (HPL.out i wr)
      have HNI := Lib.hid (HNX.out i)
      have HX := Lib.hid (HRG.out i hlt)
      obtain ⟨D, hD⟩ : ∃ D, drN d i = D := ⟨_, rfl⟩
      obtain ⟨E, hE⟩ : ∃ E, drN d (i + 1) = E := ⟨_, rfl⟩
      have HE := Lib.hid hE
      rw [hD] at HPI HNI HX hpl c0 ⊢
      rw [hE] at HNI
      obtain ⟨pl, hplE⟩ : ∃ pl, D % n = pl := ⟨_, rfl⟩
      rw [hplE] at HPI hpl c0
      have hpl' : (pl : Int) < (n : Int) := by omega
      obtain ⟨T, hT⟩ : ∃ T : ByteArray, (⟨(atD L D).toArray⟩ : ByteArray) = T := ⟨_, rfl⟩
      have HT := Lib.hid hT
      rw [hT] at c0
      have d0 := hr.cell (i := i) hlt
      have d1 := hr.frozen i
      clear hc hb hr hT hD hE hplE
      go_wp2_with fail
      refine HPI.out.mono ?_
      rintro e w2 ⟨rfl, hw2⟩
      rw [hw2]
      clear hw2
      go_wp2_with fail
      refine (HNI.out _).mono ?_
      rintro e w3 ⟨rfl, hw3⟩
      rw [hw3]
      clear hw3
      go_wp2
      go_roundw
      case rel =>
        refine ⟨i + 1, by go_num, by rw [HE.out], hlt, HB.out.setCell (Nat.le_refl _) _, (HR.out.set i (.string T)).congr (fun j _ => ?_)⟩
        rw [← HT.out]
        exact fF_set HX.out j
      case measure => simp only [intOf]; omega
    · have hge : ¬ (i : Int) < (m : Int) := by omega
      obtain rfl : i = m := by omega
      clear hb hr
      go_wp2
      go_ret
      exact ⟨some ⟨M, 0, none⟩, i, rfl, TxAt.row HR.out HRL.out (Nat.le_refl _) (Nat.le_refl _) (by omega) HRF.out (fun j x hx => fF_at hx (by have := (List.getElem?_eq_some_iff.1 hx).1; have := HRL.out; omega)), HB.out⟩

/-- An own row's cells by the place. -/
theorem own_row {w : World} {base : Nat} {e : TypeId} {A : Option Addr} {n c : Nat} {L : List Tx} (h : w.ownsRow base e 1 (.slice A n c) n (L.map encStr)) (h0 : 0 < n) :
    ∃ g f, A = some ⟨g, 0, none⟩ ∧ base ≤ g ∧ n ≤ c ∧ c ≤ 9223372036854775807 ∧ w.rowIs g e c f ∧ ∀ j x, L[j]? = some x → f j = .string ⟨x.toArray⟩ := by
  rcases h.2 with ⟨_, q2⟩ | ⟨g, cap, cur, q, hg, q3, q4, q5, q6, q7⟩
  · omega
  · injection q with q _ q8
    subst q q8
    rw [Nat.mul_one] at q6 q7
    refine ⟨g, fun i => (cur[i]?).getD .nilFunc, rfl, hg, q4, by simpa [maxLen] using q5, ⟨cur, q3, q6, fun i hi => by simp [show i < cur.size from by omega]⟩, fun j x hx => ?_⟩
    have hu : (L.map encStr)[j]? = some (encStr x) := by rw [List.getElem?_map, hx]; rfl
    rw [← q7, List.getElem?_take] at hu
    split at hu
    · have hu2 : cur[j]? = some (encStr x) := by simpa using hu
      show (cur[j]?).getD .nilFunc = _
      rw [hu2]
      rfl
    · cases hu

set_option maxRecDepth 100000 in
set_option maxHeartbeats 16000000 in
theorem dealt_any {A : Option Addr} {n cp : Nat} {L : List Tx} (w : World) (h : TxAt w A n cp L) (h0 : 0 < n) (hn : n ≤ 3000000) {m d : Nat} (hm : m ≤ n) (hd : d < 18446744073709551616) :
    Calls Try.prog 50 #[.slice A n cp, .int .i64 m, .int .u64 d] w fun e w' => ∃ A' c', e = .returned (.slice A' m c') ∧ TxAt w' A' m c' ((dlX L d m).take m) ∧ Below w.heap.size w w' := by
  have HLL := Lib.hid h.len
  have HF := Lib.hid h.fits
  have HCL := Lib.hid (slClone_any w h (by omega))
  have HPL : Hid (∀ (k : Nat) (X : World), k < n → Calls Try.prog 48 #[.int .u64 (drN d k), .int .i64 (n - k : Nat)] X fun e w' => e = .returned (.int .i64 (drN d k % (n - k) : Nat)) ∧ w' = X) := fun k X hk => place_any (drN d k) (n - k) (drN_lt hd k) (by omega) (by omega) X
  have HNX : Hid (∀ (k : Nat) (X : World), Calls Try.prog 60 #[.int .u64 (drN d k)] X fun e w' => e = .returned (.int .u64 (drN d (k + 1))) ∧ w' = X) := fun k X => next_any (drN d k) X
  have HDL : Hid (∀ k, (dlX L d k).length = n) := fun k => by rw [dlX_len, h.len]
  have HDP : Hid (∀ k, k ≤ n → ∀ x ∈ dlX L d k, x.length ≤ 140737488355328) := fun k hk x hx => h.fits x ((dlX_perm L d k (by rw [h.len]; exact hk)).mem_iff.1 hx)
  have HDS : Hid (∀ k, k < n → k + drN d k % (n - k) < n ∧ dlX L d (k + 1) = swX (dlX L d k) k (k + drN d k % (n - k))) := fun k hk => by
    have q := dl_at (L := L) (k := k) (by rw [h.len]; exact hk) (drN d k)
    rw [h.len] at q
    refine ⟨q, ?_⟩
    show swX _ _ _ = _
    rw [h.len]
  obtain ⟨M, hM⟩ : ∃ M, w.heap.size = M := ⟨_, rfl⟩
  have HM := Lib.hid hM
  rw [hM] at HCL ⊢
  have hd0 : drN d 0 = d := rfl
  have HD0 := Lib.hid hd0
  clear h hM hd hd0
  go_enter Try.func50, Try.ntmps50
  go_wp2_with fail
  refine HCL.out.mono ?_
  rintro e w1 ⟨A1, c1, rfl, hown, hb1⟩
  obtain ⟨g, f0, rfl, hMg, hnc, hcm, hrow, hf0⟩ := own_row hown h0
  have HR0 := Lib.hid hrow
  have HF0 := Lib.hid hf0
  have HB1 := Lib.hid hb1
  have HMG := Lib.hid hMg
  clear hown hb1 hrow hf0
  go_wp2_with fail
  go_loopw [2, 13] (fun dv iv wr => ∃ (i : Nat) (f : Nat → Value), iv = .int .i64 i ∧ dv = .int .u64 (drN d i) ∧ i ≤ m ∧ Below M w wr ∧ wr.rowIs g 9 c1 f ∧ ∀ j x, (dlX L d i)[j]? = some x → f j = .string ⟨x.toArray⟩) (fun _ iv _ => m - (intOf iv).toNat)
  case atStart => exact ⟨0, f0, rfl, by rw [HD0.out], Nat.zero_le _, HB1.out, HR0.out, HF0.out⟩
  case round =>
    obtain ⟨i, f, rfl, rfl, hi, hb, hr, hf⟩ := hrel
    have HB := Lib.hid hb
    have HR := Lib.hid hr
    have HFF := Lib.hid hf
    by_cases hlt : i < m
    · obtain ⟨hat, hsw⟩ := HDS.out i (by omega)
      have HSW := Lib.hid hsw
      have HPI := Lib.hid (HPL.out i wr (by omega))
      have HNI := Lib.hid (HNX.out i)
      obtain ⟨D, hD⟩ : ∃ D, drN d i = D := ⟨_, rfl⟩
      obtain ⟨E, hE⟩ : ∃ E, drN d (i + 1) = E := ⟨_, rfl⟩
      have HE := Lib.hid hE
      rw [hD] at HPI HNI HSW hat ⊢
      rw [hE] at HNI
      obtain ⟨nk, hnk⟩ : ∃ nk, n - i = nk := ⟨_, rfl⟩
      rw [hnk] at HPI HSW hat
      obtain ⟨pl, hpl⟩ : ∃ pl, D % nk = pl := ⟨_, rfl⟩
      rw [hpl] at HPI HSW hat
      obtain ⟨at', hat'⟩ : ∃ q, i + pl = q := ⟨_, rfl⟩
      rw [hat'] at HSW hat
      have hw1 : IntKind.i64.wrap ((n : Int) - (i : Int)) = (nk : Int) := by rw [IntWalk.i64_in _ (by omega)]; omega
      have hw2 : IntKind.i64.wrap ((i : Int) + (pl : Int)) = (at' : Int) := by rw [IntWalk.i64_in _ (by omega)]; omega
      have hlt' : (i : Int) < (m : Int) := by omega
      have hlt2 : (i : Int) < (n : Int) := by omega
      have hlt3 : (at' : Int) < (n : Int) := by omega
      obtain ⟨x, hx⟩ : ∃ x, (dlX L d i)[i]? = some x := ⟨_, List.getElem?_eq_getElem (by rw [HDL.out]; omega)⟩
      obtain ⟨y, hy⟩ : ∃ y, (dlX L d i)[at']? = some y := ⟨_, List.getElem?_eq_getElem (by rw [HDL.out]; omega)⟩
      obtain ⟨X, hX⟩ : ∃ X : ByteArray, (⟨x.toArray⟩ : ByteArray) = X := ⟨_, rfl⟩
      obtain ⟨Y, hY⟩ : ∃ Y : ByteArray, (⟨y.toArray⟩ : ByteArray) = Y := ⟨_, rfl⟩
      have c0 := hr.cell (i := i) (by omega)
      have c1' := hr.cell (i := at') (by omega)
      have f0' := hr.frozen i
      have f1' := hr.frozen at'
      rw [hf i x hx, hX] at c0
      rw [hf at' y hy, hY] at c1'
      obtain ⟨v1, hv1⟩ : ∃ v1, (wr.setCell ⟨g, i, none⟩ (.string Y)).cell? ⟨g, at', none⟩ = some v1 := ⟨_, (hr.set i (.string Y)).cell (i := at') (by omega)⟩
      obtain ⟨v2, hv2⟩ : ∃ v2, (wr.setCell ⟨g, at', none⟩ (.string X)).cell? ⟨g, i, none⟩ = some v2 := ⟨_, (hr.set at' (.string X)).cell (i := i) (by omega)⟩
      have fz1 := (hr.set i (.string Y)).frozen at'
      have fz2 := (hr.set at' (.string X)).frozen i
      have HXX := Lib.hid hX
      have HYY := Lib.hid hY
      have HXG := Lib.hid hx
      have HYG := Lib.hid hy
      have HMV : Hid (Below M w ((wr.setCell ⟨g, i, none⟩ (.string Y)).setCell ⟨g, at', none⟩ (.string X)).drew ∧ ∃ f', ((wr.setCell ⟨g, i, none⟩ (.string Y)).setCell ⟨g, at', none⟩ (.string X)).drew.rowIs g 9 c1 f' ∧ ∀ j z, (dlX L d (i + 1))[j]? = some z → f' j = .string ⟨z.toArray⟩) := by
        refine ⟨((hb.setCell hMg _).setCell hMg _).drew, _, ((hr.set i (.string Y)).set at' (.string X)).drew, fun j z hz => ?_⟩
        rw [HSW.out, swX_get (by rw [HDL.out]; omega) (by rw [HDL.out]; exact hat)] at hz
        by_cases q1 : j = at'
        · rw [if_pos q1, hx] at hz
          rw [if_pos q1, ← hX, Option.some.inj hz]
        · rw [if_neg q1] at hz ⊢
          by_cases q2 : j = i
          · rw [if_pos q2, hy] at hz
            rw [if_pos q2, ← hY, Option.some.inj hz]
          · rw [if_neg q2] at hz ⊢
            exact hf j z hz
      clear hb hr hf hat hsw hD hE hnk hpl hat' hx hy hX hY
      go_wp2_with fail
      refine HPI.out.mono ?_
      rintro e w2 ⟨rfl, hw2'⟩
      rw [hw2']
      clear hw2'
      go_wp2_with fail
      go_region
      all_goals
        obtain ⟨w5, hw5⟩ : ∃ w5, ((wr.setCell ⟨g, i, none⟩ (.string Y)).setCell ⟨g, at', none⟩ (.string X)).drew = w5 := ⟨_, rfl⟩
        rw [hw5] at HMV ⊢
        clear hw5 c0 c1' f0' f1' hv1 hv2 fz1 fz2
        go_wp2_with fail
        refine (HNI.out _).mono ?_
        rintro e w3 ⟨rfl, hw3⟩
        rw [hw3]
        clear hw3
        go_wp2
        go_roundw
        case rel =>
          obtain ⟨q1, f', q2, q3⟩ := HMV.out
          exact ⟨i + 1, f', by go_num, by rw [HE.out], hlt, q1, q2, q3⟩
        case measure => simp only [intOf]; omega
    · have hge : ¬ (i : Int) < (m : Int) := by omega
      obtain rfl : i = m := by omega
      have hmn : (i : Int) ≤ (n : Int) := by omega
      have hmc : (i : Int) ≤ (c1 : Int) := by omega
      have hi0 : (0 : Int) ≤ (i : Int) := by omega
      clear hb hr hf
      go_wp2
      go_ret
      refine ⟨some ⟨g, 0, none⟩, c1, rfl, TxAt.row HR.out (by rw [List.length_take, HDL.out]; omega) (by omega) (by omega) hcm (fun x hx => HDP.out i hm x (List.mem_of_mem_take hx)) (fun j x hx => HFF.out j x ?_), HB.out⟩
      rw [List.getElem?_take] at hx
      split at hx
      · exact hx
      · cases hx

set_option maxRecDepth 100000 in
set_option maxHeartbeats 16000000 in
theorem pick_any {A : Option Addr} {n cp : Nat} {L : List Tx} (w : World) (h : TxAt w A n cp L) (hn : n ≤ 1000000) {d : Nat} (hd : d < 18446744073709551616) :
    Calls Try.prog 30 #[.slice A n cp, .int .u64 d] w fun e w' => e = .returned (.tuple #[.string ⟨(pkX L d).toArray⟩, .bool (pkB L), .int .i64 (ckX L)]) ∧ Below w.heap.size w w' := by
  have HC := Lib.hid (check_any w h (by omega))
  have HA := Lib.hid h
  have HLL := Lib.hid h.len
  by_cases hr : Ris L
  · rw [ckX_ok hr] at HC ⊢
    rcases Nat.eq_zero_or_pos n with h0 | h0
    · subst h0
      obtain rfl : L = [] := List.eq_nil_of_length_eq_zero h.len
      rw [show pkX [] d = [] from by unfold pkX; simp, show pkB [] = false from by unfold pkB; simp]
      clear h hr hd
      go_enter Try.func30, Try.ntmps30
      go_wp2_with fail
      refine HC.out.mono ?_
      rintro e w1 ⟨rfl, hb1⟩
      have HB1 := Lib.hid hb1
      clear hb1
      go_wp2
      go_ret3
      exact ⟨rfl, HB1.out⟩
    · have hLn : L ≠ [] := fun e => by have := h.len; rw [e] at this; simp at this; omega
      have HAT : L[d % n]? = some (atD L d) := by have q := atD_get hLn d; rw [h.len] at q; exact q
      rw [show pkX L d = atD L d from by unfold pkX; rw [if_pos ⟨hr, hLn⟩], show pkB L = true from decide_eq_true ⟨hr, hLn⟩]
      have HG := Lib.hid HAT
      have HPL := Lib.hid (fun X => place_any d n hd h0 (by omega) X)
      have hpl := Nat.mod_lt d h0
      obtain ⟨pl, hplE⟩ : ∃ pl, d % n = pl := ⟨_, rfl⟩
      rw [hplE] at HPL hpl HG
      have HKL := Lib.hid (fun X => clone_any ⟨(atD L d).toArray⟩ X (by show (atD L d).toArray.size ≤ _; have := h.fit HAT; simpa using this))
      obtain ⟨T, hT⟩ : ∃ T : ByteArray, (⟨(atD L d).toArray⟩ : ByteArray) = T := ⟨_, rfl⟩
      have HT := Lib.hid hT
      rw [hT] at HKL ⊢
      have hpl' : (pl : Int) < (n : Int) := by omega
      have hz : ¬ (n : Int) = 0 := by omega
      clear h hr hd HAT hLn hplE hT
      go_enter Try.func30, Try.ntmps30
      go_wp2_with fail
      refine HC.out.mono ?_
      rintro e w1 ⟨rfl, hb1⟩
      have HB1 := Lib.hid hb1
      obtain ⟨b, o, rfl, hbl, hc⟩ := (HA.out.below hb1).at_ h0
      have c0 := hc pl _ HG.out
      rw [HT.out] at c0
      clear hb1 hc
      go_wp2_with fail
      refine (HPL.out w1).mono ?_
      rintro e w2 ⟨rfl, hw2⟩
      rw [hw2]
      clear hw2
      go_wp2_with fail
      refine (HKL.out w1).mono ?_
      rintro e w3 ⟨rfl, hb3⟩
      have HB3 := Lib.hid (bup HB1.out hb3)
      clear hb3
      go_wp2
      go_ret3
      exact ⟨rfl, HB3.out⟩
  · rw [ckX_no hr] at HC ⊢
    rw [show pkX L d = [] from by unfold pkX; rw [if_neg (fun e => hr e.1)], show pkB L = false from decide_eq_false (fun e => hr e.1)]
    clear h hr hd
    go_enter Try.func30, Try.ntmps30
    go_wp2_with fail
    refine HC.out.mono ?_
    rintro e w1 ⟨rfl, hb1⟩
    have HB1 := Lib.hid hb1
    clear hb1
    go_wp2
    go_ret3
    exact ⟨rfl, HB1.out⟩

set_option maxRecDepth 100000 in
set_option maxHeartbeats 16000000 in
theorem some_any {A : Option Addr} {n cp : Nat} {L : List Tx} (w : World) (h : TxAt w A n cp L) (hn : n ≤ 1000000) (m : Int) {d : Nat} (hd : d < 18446744073709551616) :
    Calls Try.prog 32 #[.slice A n cp, .int .i64 m, .int .u64 d] w fun e w' => ∃ A' k c', e = .returned (.tuple #[.slice A' k c', .int .i64 (smE L m)]) ∧ TxAt w' A' k c' (smX L m d) ∧ Below w.heap.size w w' ∧ Frh w.heap.size A' := by
  have HC := Lib.hid (check_any w h (by omega))
  have HA := Lib.hid h
  obtain ⟨M, hM⟩ : ∃ M, w.heap.size = M := ⟨_, rfl⟩
  have HM := Lib.hid hM
  rw [hM] at HC ⊢
  by_cases hr : Ris L
  · rw [ckX_ok hr] at HC
    by_cases hm : m < -1024 ∨ 65536 < m
    · rw [(smX_out hr hm d).1, (smX_out hr hm d).2]
      have hm2 : m < -1024 ∨ (¬ m < -1024 ∧ 65536 < m) := by omega
      clear h hr hd hM hm
      rcases hm2 with hm | ⟨hm1, hm⟩
      · go_enter Try.func32, Try.ntmps32
        go_wp2_with fail
        refine HC.out.mono ?_
        rintro e w1 ⟨rfl, hb1⟩
        have HB1 := Lib.hid hb1
        clear hb1
        go_wp2
        go_ret2
        exact ⟨none, 0, 0, rfl, TxAt.nil _, HB1.out, Frh.none _⟩
      · go_enter Try.func32, Try.ntmps32
        go_wp2_with fail
        refine HC.out.mono ?_
        rintro e w1 ⟨rfl, hb1⟩
        have HB1 := Lib.hid hb1
        clear hb1
        go_wp2
        go_ret2
        exact ⟨none, 0, 0, rfl, TxAt.nil _, HB1.out, Frh.none _⟩
    · rw [smE_in hr hm]
      have hm1 : ¬ m < -1024 := by omega
      have hm2 : ¬ 65536 < m := by omega
      rcases Nat.eq_zero_or_pos n with h0 | h0
      · subst h0
        obtain rfl : L = [] := List.eq_nil_of_length_eq_zero h.len
        rw [smX_nil hm]
        clear h hr hd hM hm
        go_enter Try.func32, Try.ntmps32
        go_wp2_with fail
        refine HC.out.mono ?_
        rintro e w1 ⟨rfl, hb1⟩
        have HB1 := Lib.hid hb1
        clear hb1
        go_wp2
        go_ret2
        exact ⟨none, 0, 0, rfl, TxAt.nil _, HB1.out, Frh.none _⟩
      · have hLn : L ≠ [] := fun e => by have := h.len; rw [e] at this; simp at this; omega
        have hz : ¬ (n : Int) = 0 := by omega
        have HLL := Lib.hid h.len
        by_cases hneg : m < 0
        · rw [smX_neg hr hm hLn hneg]
          obtain ⟨q, hq⟩ : ∃ q, (-m).toNat = q := ⟨_, rfl⟩
          have hwq : IntKind.i64.wrap (-m) = (q : Int) := by rw [IntWalk.i64_in _ (by omega)]; omega
          have hq2 : q ≤ 2000 := by omega
          have HRP : Hid (∀ X, Below M w X → Calls Try.prog 49 #[.slice A n cp, .int .i64 q, .int .u64 d] X fun e w' => ∃ A' c', e = .returned (.slice A' q c') ∧ TxAt w' A' q c' (rpX L d q) ∧ Below X.heap.size X w') := fun X hX => rep_any X (HA.out.below (by rw [HM.out]; exact hX)) h0 (by omega) hq2 hd
          rw [hq]
          obtain ⟨R, hR⟩ : ∃ R, rpX L d q = R := ⟨_, rfl⟩
          rw [hR] at HRP ⊢
          clear h hr hd hM hm hLn hq hR
          go_enter Try.func32, Try.ntmps32
          go_wp2_with fail
          refine HC.out.mono ?_
          rintro e w1 ⟨rfl, hb1⟩
          have HB1 := Lib.hid hb1
          clear hb1
          go_wp2_with fail
          refine (HRP.out w1 HB1.out).mono ?_
          rintro e w2 ⟨A2, c2, rfl, h2, hb2⟩
          have H2 := Lib.hid h2
          have HB2 : Hid (Below M w w2) := HB1.out.trans (hb2.mono (by have := HB1.out.size; have := HM.out; omega))
          clear h2 hb2
          go_wp2_with fail
          refine (copied_any w2 H2.out (by omega)).mono ?_
          rintro e w4 ⟨A4, c4, rfl, h4, hb4, hf4⟩
          have H4 := Lib.hid h4
          have HB4 : Hid (Below M w w4) := HB2.out.trans (hb4.mono (by have := HB2.out.size; have := HM.out; omega))
          have HF4 := Lib.hid hf4
          clear h4 hb4 hf4
          go_wp2
          go_ret2
          exact ⟨A4, q, c4, rfl, H4.out, HB4.out, HF4.out.mono (by have := HB2.out.size; have := HM.out; omega)⟩
        · rw [smX_pos hr hm hLn hneg]
          obtain ⟨q, hq⟩ : ∃ q, min m.toNat L.length = q := ⟨_, rfl⟩
          have hln := h.len
          have hqn : q ≤ n := by omega
          have HRP : Hid (∀ X, Below M w X → Calls Try.prog 50 #[.slice A n cp, .int .i64 q, .int .u64 d] X fun e w' => ∃ A' c', e = .returned (.slice A' q c') ∧ TxAt w' A' q c' ((dlX L d q).take q) ∧ Below X.heap.size X w') := fun X hX => dealt_any X (HA.out.below (by rw [HM.out]; exact hX)) h0 (by omega) hqn hd
          rw [hq]
          obtain ⟨R, hR⟩ : ∃ R, (dlX L d q).take q = R := ⟨_, rfl⟩
          rw [hR] at HRP ⊢
          have hmin : min m (n : Int) = (q : Int) := by omega
          clear h hr hd hM hm hLn hq hR hln
          go_enter Try.func32, Try.ntmps32
          go_wp2_with fail
          refine HC.out.mono ?_
          rintro e w1 ⟨rfl, hb1⟩
          have HB1 := Lib.hid hb1
          clear hb1
          go_wp2_with fail
          refine (HRP.out w1 HB1.out).mono ?_
          rintro e w2 ⟨A2, c2, rfl, h2, hb2⟩
          have H2 := Lib.hid h2
          have HB2 : Hid (Below M w w2) := HB1.out.trans (hb2.mono (by have := HB1.out.size; have := HM.out; omega))
          clear h2 hb2
          go_wp2_with fail
          refine (copied_any w2 H2.out (by omega)).mono ?_
          rintro e w4 ⟨A4, c4, rfl, h4, hb4, hf4⟩
          have H4 := Lib.hid h4
          have HB4 : Hid (Below M w w4) := HB2.out.trans (hb4.mono (by have := HB2.out.size; have := HM.out; omega))
          have HF4 := Lib.hid hf4
          clear h4 hb4 hf4
          go_wp2
          go_ret2
          exact ⟨A4, q, c4, rfl, H4.out, HB4.out, HF4.out.mono (by have := HB2.out.size; have := HM.out; omega)⟩
  · rw [ckX_no hr] at HC
    rw [(smX_no hr m d).1, (smX_no hr m d).2]
    clear h hr hd hM
    go_enter Try.func32, Try.ntmps32
    go_wp2_with fail
    refine HC.out.mono ?_
    rintro e w1 ⟨rfl, hb1⟩
    have HB1 := Lib.hid hb1
    clear hb1
    go_wp2
    go_ret2
    exact ⟨none, 0, 0, rfl, TxAt.nil _, HB1.out, Frh.none _⟩

end Go.Proofs.Ytkobhlhkkpnmkaa
