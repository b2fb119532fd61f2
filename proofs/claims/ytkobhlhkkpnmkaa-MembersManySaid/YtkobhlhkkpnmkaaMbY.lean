/-
  Package members' Union, the document's Union. Conditions: the rows lie in memory.
-/
import Derived.Test.YtkobhlhkkpnmkaaMbX
import Derived.Test.YtkobhlhkkpnmkaaMbC
namespace Go.Proofs.Ytkobhlhkkpnmkaa
open Go.RowKit

/-- What is in one at least. -/
def unX (S : List Rw) : List Tx := if ∀ r ∈ S, Ris r.L then ofX [] (allT S) else []
theorem unX_len {w : World} {A : Option Addr} {n c : Nat} {S : List Rw} (h : TtAt w A n c S) (hn : n ≤ 20) (hs : Sml S 1000) : (unX S).length ≤ 30000 := by
  unfold unX
  split
  · have := ofX_length [] (allT S); have := allT_len h hs; simp only [List.length_nil] at *; omega
  · simp

set_option maxRecDepth 100000 in
set_option maxHeartbeats 16000000 in
theorem pUnion_any {A : Option Addr} {n cp : Nat} {S : List Rw} (w : World) (h : TtAt w A n cp S) (hn : n ≤ 20) (hs : Sml S 1000) :
    Calls Try.prog 24 #[.slice A n cp] w fun e w' => ∃ A' k c', e = .returned (.tuple #[.slice A' k c', .int .i64 (ckA S)]) ∧ TxAt w' A' k c' (unX S) ∧ Below w.heap.size w w' ∧ Frh w.heap.size A' := by
  have HC := Lib.hid (chkAll_any w h (by omega) (fun r hr => Nat.le_trans (hs r hr) (by omega)))
  have hul := unX_len h hn hs
  obtain ⟨M, hM⟩ : ∃ M, w.heap.size = M := ⟨_, rfl⟩
  have HM := Lib.hid hM
  by_cases hr : ∀ r ∈ S, Ris r.L
  · rw [ckA_ok hr] at HC ⊢
    have HU : Hid (∀ X, Below w.heap.size w X → Calls Try.prog 44 #[.slice A n cp] X fun e w' => ∃ A' k' c', e = .returned (.slice A' k' c') ∧ TxAt w' A' k' c' (unX S) ∧ Below X.heap.size X w') := fun X hX => by
      unfold unX
      rw [if_pos hr]
      exact union_any n X (Nat.le_refl _) (h.below hX) hn hs hr
    obtain ⟨O, hO⟩ : ∃ O, unX S = O := ⟨_, rfl⟩
    rw [hO] at HU hul ⊢
    rw [hM] at HC HU ⊢
    have HUL := Lib.hid hul
    clear h hs hr hO hM hul
    go_enter Try.func24, Try.ntmps24
    go_wp2_with fail
    refine HC.out.mono ?_
    rintro e w1 ⟨rfl, hb1⟩
    have HB1 := Lib.hid hb1
    clear hb1
    go_wp2_with fail
    refine (HU.out w1 HB1.out).mono ?_
    rintro e w2 ⟨A2, k2, c2, rfl, h2, hb2⟩
    have H2 := Lib.hid h2
    have hk2 := h2.len
    have HB2 : Hid (Below M w w2) := HB1.out.trans (hb2.mono (by have := HB1.out.size; have := HM.out; omega))
    have HK2 := Lib.hid hk2
    clear h2 hb2 hk2
    go_wp2_with fail
    refine (copied_any w2 H2.out (by have := HK2.out; have := HUL.out; omega)).mono ?_
    rintro e w4 ⟨A4, c4, rfl, h4, hb4, hf4⟩
    have H4 := Lib.hid h4
    have HB4 : Hid (Below M w w4) := HB2.out.trans (hb4.mono (by have := HB2.out.size; have := HM.out; omega))
    have HF4 := Lib.hid hf4
    clear h4 hb4 hf4
    go_wp2
    go_ret2
    exact ⟨A4, k2, c4, rfl, H4.out, HB4.out, HF4.out.mono (by have := HB2.out.size; have := HM.out; omega)⟩
  · rw [ckA_no hr] at HC ⊢
    rw [show unX S = [] from if_neg hr]
    rw [hM] at HC ⊢
    clear h hs hr hM hul
    go_enter Try.func24, Try.ntmps24
    go_wp2_with fail
    refine HC.out.mono ?_
    rintro e w1 ⟨rfl, hb1⟩
    have HB1 := Lib.hid hb1
    clear hb1
    go_wp2
    go_ret2
    exact ⟨none, 0, 0, rfl, TxAt.nil _, HB1.out, Frh.none _⟩

theorem ofX_app (s a b : List Tx) : ofX s (a ++ b) = ofX (ofX s a) b := by unfold ofX; rw [List.foldl_append]
/-- The set of the first rows' texts. -/
def unT (S : List Rw) (i : Nat) : List Tx := ofX [] (allT (S.take i))
theorem unT_zero (S : List Rw) : unT S 0 = [] := rfl
theorem unT_all {S : List Rw} {n : Nat} (h : S.length = n) : unT S n = ofX [] (allT S) := by unfold unT; rw [List.take_of_length_le (by omega)]
theorem unT_succ {S : List Rw} {i : Nat} {r : Rw} (hr : S[i]? = some r) : unT S (i + 1) = ofX (unT S i) r.L := by
  unfold unT allT
  rw [List.take_add_one, hr, List.flatMap_append, ofX_app]
  simp
theorem unT_len {w : World} {A : Option Addr} {n c : Nat} {S : List Rw} (h : TtAt w A n c S) (hn : n ≤ 20) (hs : Sml S 1000) (i : Nat) : (unT S i).length ≤ 30000 := by
  by_cases hi : i ≤ n
  · have h1 := h.first hi
    have := ofX_length [] (allT (S.take i)); have := allT_len h1 (fun r hr' => hs r (List.mem_of_mem_take hr')); unfold unT; simp only [List.length_nil] at *; omega
  · have := ofX_length [] (allT S); have := allT_len h hs; unfold unT; rw [List.take_of_length_le (by rw [h.len]; omega)]; simp only [List.length_nil] at *; omega

set_option maxRecDepth 100000 in
set_option maxHeartbeats 16000000 in
theorem rUnion_any {A : Option Addr} {n cp : Nat} {S : List Rw} (w : World) (h : TtAt w A n cp S) (hn : n ≤ 20) (hs : Sml S 1000) :
    Calls Try.prog 25 #[.slice A n cp] w fun e w' => ∃ A' k c', e = .returned (.tuple #[.slice A' k c', .int .i64 (ckA S)]) ∧ TxAt w' A' k c' (unX S) ∧ Below w.heap.size w w' := by
  have HC := Lib.hid (rsets_any w h (by omega) (fun r hr => Nat.le_trans (hs r hr) (by omega)))
  have HL := Lib.hid h
  have HSM := Lib.hid hs
  obtain ⟨M, hM⟩ : ∃ M, w.heap.size = M := ⟨_, rfl⟩
  have HM := Lib.hid hM
  by_cases hr : ∀ r ∈ S, Ris r.L
  · rw [ckA_ok hr]
    rw [decide_eq_true hr] at HC
    have HUA : Hid (unT S n = unX S) := by unfold Hid unX; rw [if_pos hr]; exact unT_all h.len
    have HUL := Lib.hid (unT_len h hn hs)
    have HU0 := Lib.hid (unT_zero S)
    obtain ⟨O, hO⟩ : ∃ O, unX S = O := ⟨_, rfl⟩
    rw [hO] at HUA ⊢
    rw [hM] at HC ⊢
    clear h hs hr hO hM
    go_enter Try.func25, Try.ntmps25
    go_wp2_with fail
    refine HC.out.mono ?_
    rintro e w1 ⟨rfl, hb1⟩
    have HB1 := Lib.hid hb1
    clear hb1
    go_wp2_with fail
    go_loopw [4, 5] (fun ov iv wr => ∃ (i k : Nat) (A' : Option Addr) (c' : Nat), ov = .slice A' k c' ∧ iv = .int .i64 i ∧ i ≤ n ∧ TxAt wr A' k c' (unT S i) ∧ Below M w wr) (fun _ iv _ => n - (intOf iv).toNat)
    case atStart => exact ⟨0, 0, none, 0, rfl, rfl, Nat.zero_le _, by rw [HU0.out]; exact TxAt.nil _, HB1.out⟩
    case round =>
      obtain ⟨i, k, A', c', rfl, rfl, hi, ht, hbw⟩ := hrel
      have HT := Lib.hid ht
      have HB := Lib.hid hbw
      by_cases hlt : i < n
      · obtain ⟨r, hr⟩ := HL.out.get hlt
        have hlt' : (i : Int) < (n : Int) := by omega
        have HUS := Lib.hid (unT_succ hr)
        have HRR := Lib.hid hr
        have HRW := Lib.hid (HL.out.row hr)
        have HRS := Lib.hid (HSM.out r (List.mem_of_getElem? hr))
        obtain ⟨b, o, hA, hbl, hc⟩ := HL.out.at_ (by omega)
        subst hA
        have HCR : Hid (∀ X, Below M w X → X.cell? ⟨b, o + i, none⟩ = some (.slice r.A r.n r.c)) := fun X hX => (hX.cell (p := ⟨b, o + i, none⟩) (by have := HM.out; show b < M; omega)).trans (hc i r hr)
        obtain ⟨RA, hRA⟩ : ∃ RA, r.A = RA := ⟨_, rfl⟩
        obtain ⟨Rn, hRn⟩ : ∃ Rn, r.n = Rn := ⟨_, rfl⟩
        obtain ⟨Rc, hRc⟩ : ∃ Rc, r.c = Rc := ⟨_, rfl⟩
        obtain ⟨RL, hRL⟩ : ∃ RL, r.L = RL := ⟨_, rfl⟩
        rw [hRA, hRn, hRc] at HCR
        rw [hRA, hRn, hRc, hRL] at HRW
        rw [hRn] at HRS
        rw [hRL] at HUS
        have hRb : Rn ≤ 1000 := HRS.out
        have HOA := Lib.hid (ofT_all (unT S i) HRW.out.len)
        rw [← HUS.out] at HOA
        have HOL := Lib.hid (fun j => ofT_len (unT S i) RL j)
        have HUI := Lib.hid (HUL.out i)
        have HO0 := Lib.hid (ofT_zero (unT S i) RL)
        clear hr hc hRA hRn hRc hRL ht hbw
        go_wp2_with fail
        go_loopw [4, 6] (fun ov kv wx => ∃ (j k : Nat) (A' : Option Addr) (c' : Nat), ov = .slice A' k c' ∧ kv = .int .i64 j ∧ j ≤ Rn ∧ TxAt wx A' k c' (ofT (unT S i) RL j) ∧ Below M w wx) (fun _ kv _ => Rn - (intOf kv).toNat)
        case atStart => exact ⟨0, k, A', c', rfl, rfl, Nat.zero_le _, by rw [HO0.out]; exact HT.out, HB.out⟩
        case round =>
          obtain ⟨j, kk, B', e', rfl, rfl, hj, ht, hbx⟩ := hrel
          have HTX := Lib.hid ht
          have HBX := Lib.hid hbx
          have cR := HCR.out _ hbx
          by_cases hlj : j < Rn
          · obtain ⟨x, hx⟩ := HRW.out.get hlj
            obtain ⟨b2, o2, rfl, hbl2, hc2⟩ := (HRW.out.below (w' := wr) (by rw [HM.out]; exact hbx)).at_ (by omega)
            have c0 := hc2 j x hx
            have hlj' : (j : Int) < (Rn : Int) := by omega
            have HP := Lib.hid (rput_any wr ht (by have := HOL.out j; have := ht.len; have := HUI.out; have := HRS.out; omega) x (HRW.out.fit hx))
            rw [← ofT_succ (unT S i) hx] at HP
            obtain ⟨T, hT⟩ : ∃ T : ByteArray, (⟨x.toArray⟩ : ByteArray) = T := ⟨_, rfl⟩
            rw [hT] at c0 HP
            clear hc2 hx hT ht hbx
            go_wp2_with fail
            refine HP.out.mono ?_
            rintro e w3 ⟨A3, c3, rfl, h3, hb3⟩
            have H3 := Lib.hid h3
            have HB3 : Hid (Below M w w3) := HBX.out.trans (hb3.mono (by have := HBX.out.size; have := HM.out; omega))
            clear h3 hb3
            go_wp2
            go_roundw
            case rel => exact ⟨j + 1, _, A3, c3, rfl, by go_num, hlj, H3.out, HB3.out⟩
            case measure => simp only [intOf]; omega
          · have hgj : ¬ (j : Int) < (Rn : Int) := by omega
            obtain rfl : j = Rn := by omega
            rw [HOA.out] at HTX
            clear ht hbx
            go_wp2
            go_roundw
            case rel => exact ⟨i + 1, kk, B', e', rfl, by go_num, hlt, HTX.out, HBX.out⟩
            case measure => simp only [intOf]; omega
      · have hge : ¬ (i : Int) < (n : Int) := by omega
        obtain rfl : i = n := by omega
        rw [HUA.out] at HT
        clear ht hbw
        go_wp2
        go_ret2
        exact ⟨A', k, c', rfl, HT.out, HB.out⟩
  · rw [ckA_no hr]
    rw [decide_eq_false hr] at HC
    rw [show unX S = [] from if_neg hr]
    rw [hM] at HC ⊢
    clear h hs hr hM
    go_enter Try.func25, Try.ntmps25
    go_wp2_with fail
    refine HC.out.mono ?_
    rintro e w1 ⟨rfl, hb1⟩
    have HB1 := Lib.hid hb1
    clear hb1
    go_wp2
    go_ret2
    exact ⟨none, 0, 0, rfl, TxAt.nil _, HB1.out⟩

end Go.Proofs.Ytkobhlhkkpnmkaa
