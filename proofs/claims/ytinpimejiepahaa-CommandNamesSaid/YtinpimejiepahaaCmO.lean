/-
  Keys, of package command and of the document, at any arguments. Conditions: at most 2000 arguments of at most 1000 bytes each, in memory.
-/
import Derived.Test.YtinpimejiepahaaCmN
namespace Go.Proofs.Ytinpimejiepahaa
open Go.RowKit

theorem rows_lasts : (rowsT.all fun s => decide (-1 ≤ s.2.2.2.2.2.1) && decide (s.2.2.2.2.2.1 ≤ 100) && decide (0 ≤ s.2.2.2.2.1)) = true := by decide +kernel
theorem last_of {s : Sp} (h : s ∈ rowsT) : -1 ≤ s.2.2.2.2.2.1 ∧ s.2.2.2.2.2.1 ≤ 100 ∧ 0 ≤ s.2.2.2.2.1 := by
  have q := List.all_eq_true.1 rows_lasts s h
  simp only [Bool.and_eq_true, decide_eq_true_eq] at q
  exact ⟨q.1.1, q.1.2, q.2⟩

theorem chk_some {L : List Tx} {s : Sp} (h : chk L = (s, none)) : s ∈ rowsT ∧ tkB s L.length = true := by
  unfold chk at h
  split at h
  · cases h
  · rename_i a _
    split at h
    · cases h
    · rename_i t ht
      split at h
      · rename_i hk
        injection h with h1 _
        subst h1
        exact ⟨(lookT_iff.1 ht).1, hk⟩
      · cases h

theorem keysX_err {L : List Tx} {s : Sp} {T : Tx} (h : chk L = (s, some T)) : keysX L = ([], 1) := by unfold keysX; rw [h]
theorem keysX_ok {L : List Tx} {s : Sp} (h : chk L = (s, none)) : keysX L = (keysOf s L, 0) := by unfold keysX; rw [h]
theorem keysOf_len (s : Sp) (L : List Tx) : (keysOf s L).length = cntK s L.length := by unfold keysOf; rw [List.length_map, List.length_range]
theorem keysOf_at {s : Sp} {L : List Tx} {k : Nat} (h : k < cntK s L.length) : (keysOf s L)[k]? = some (keyAt s L k) := by
  unfold keysOf
  rw [List.getElem?_map, List.getElem?_range h]
  rfl
theorem keysOf_zero {s : Sp} {L : List Tx} (h : s.2.2.2.2.1 = 0) : keysOf s L = [] := by
  unfold keysOf cntK
  rw [if_pos h]
  rfl

set_option maxRecDepth 100000 in
set_option maxHeartbeats 16000000 in
theorem keys_any {A : Option Addr} {n c : Nat} {L : List Tx} (w : World) (h : TxAt w A n c L) (hn : n ≤ 2000) (hl : ∀ x ∈ L, x.length ≤ 1000) :
    Calls Try.prog 20 #[.slice A n c] w fun e w' => ∃ A' m c', e = .returned (.tuple #[.slice A' m c', .int .i64 (keysX L).2]) ∧ TxAt w' A' m c' (keysX L).1 ∧ Below w.heap.size w w' := by
  have HCK := Lib.hid (check_any w h hn hl)
  have HIN := Lib.hid h
  have HLEN := Lib.hid h.len
  have HL := Lib.hid hl
  have hle := h.le
  clear h hl
  rcases hck : chk L with ⟨s, _ | T⟩
  · obtain ⟨hmem, htk⟩ := chk_some hck
    rw [HLEN.out] at htk
    have HKX := Lib.hid (keysX_ok hck)
    have HCV : Hid (chkV L = .tuple #[aggS s, okV, .bool true]) := by unfold Hid chkV; rw [hck]; rfl
    rw [HCV.out] at HCK
    have hlo := last_of hmem
    have hkk := (goodS hmem).keys
    have htok := tk_ok hmem htk
    have HKA := Lib.hid (fun k (h : k < cntK s L.length) => keysOf_at h)
    have HKL := Lib.hid (keysOf_len s L)
    have HKZ := Lib.hid (fun h => keysOf_zero (s := s) (L := L) h)
    have HCI := Lib.hid (fun (k : Nat) h1 h2 => cntK_iff (s := s) (n := n) (k := k) h1 h2)
    have HKD : Hid (∀ k, keyAt s L k = L.getD (1 + k * s.2.2.2.2.2.2.toNat) []) := fun k => rfl
    have HKX1 : Hid ((keysX L).2 = 0 ∧ (keysX L).1 = keysOf s L) := by unfold Hid; rw [HKX.out]; exact ⟨rfl, rfl⟩
    rw [HKX1.out.1, HKX1.out.2]
    obtain ⟨KS, hKS⟩ : ∃ KS, keysOf s L = KS := ⟨_, rfl⟩
    obtain ⟨m, hm⟩ : ∃ m, cntK s L.length = m := ⟨_, rfl⟩
    have hm' : cntK s n = m := by rw [← hm, HLEN.out]
    rw [hKS, hm] at HKA HKL
    rw [hKS] at HKZ
    rw [hm'] at HCI
    rw [hKS]
    obtain ⟨nm, g, ar, wr_, f, la, st⟩ := s
    dsimp only at hlo hkk htok HKD HCI HKZ
    unfold aggS encS okV at HCK
    dsimp only at HCK
    obtain ⟨T, hT⟩ : ∃ T : ByteArray, (⟨nm.toArray⟩ : ByteArray) = T := ⟨_, rfl⟩
    rw [hT] at HCK
    clear hck hmem htk hKS hm hT hm' HCV HKX HKX1
    by_cases h0 : f = 0
    · subst h0
      have HE := Lib.hid (HKZ.out rfl)
      clear hkk htok
      go_enter Try.func20, Try.ntmps20
      go_wp2_with fail
      refine HCK.out.mono ?_
      rintro e w2 ⟨rfl, hb2⟩
      have HB2 := Lib.hid hb2
      clear hb2
      go_wp2
      go_ret2
      refine ⟨none, 0, 0, rfl, ?_, ?_⟩
      · rw [HE.out]; exact TxAt.nil _
      · exact (HB2.out.alloc HB2.out.size _).alloc (by have := HB2.out.size; simp; omega) _
    · obtain ⟨hf1, hst, hlk1, hlkn, hlast⟩ := htok h0
      clear hkk htok
      obtain ⟨lk, hlk⟩ : ∃ lk, lastK (nm, g, ar, wr_, f, la, st) n = lk := ⟨_, rfl⟩
      rw [hlk] at hlk1 hlkn hlast
      have HCI2 := HCI.out
      rw [hlk] at HCI2
      obtain ⟨q, hq⟩ : ∃ q : Nat, st = (q : Int) := ⟨st.toNat, by omega⟩
      have hq1 : 1 ≤ q ∧ q ≤ 2 := by omega
      have HCJ : Hid (∀ k : Nat, 1 + k * q ≤ lk ↔ k < m) := fun k => by
        have r := HCI2 k hf1 hst
        rw [hq] at r
        exact r
      have HKE : Hid (∀ k, keyAt (nm, g, ar, wr_, f, la, st) L k = L.getD (1 + k * q) []) := fun k => by
        have r := HKD.out k
        rw [r, hq]
        rfl
      have HKF : Hid (∀ x ∈ KS, x.length ≤ 140737488355328) := fun x hx => by
        obtain ⟨k, hk⟩ := List.mem_iff_getElem?.1 hx
        have hkm : k < m := by have := (List.getElem?_eq_some_iff.1 hk).1; rw [HKL.out] at this; exact this
        rw [HKA.out k hkm, HKE.out k] at hk
        injection hk with hk
        rw [← hk, List.getD_eq_getElem?_getD]
        cases hz : L[1 + k * q]? with
        | none => exact Nat.zero_le _
        | some z => have := HL.out z (List.mem_of_getElem? hz); simp only [Option.getD_some]; omega
      have hm2 : m ≤ 2000 := by
        rcases Nat.lt_or_ge 2000 m with e | e
        · have r := (HCJ.out 2000).2 e
          have : 2000 * 1 ≤ 2000 * q := Nat.mul_le_mul_left _ hq1.1
          omega
        · exact e
      clear HCI2 HCI HKD hlk hst
      subst hf1
      subst hq
      by_cases hneg : la < 0
      · rw [if_pos hneg] at hlast
        have hwl : IntKind.i64.wrap (la + (n : Int)) = (lk : Int) := by rw [IntWalk.i64_in _ (by omega)]; omega
        go_enter Try.func20, Try.ntmps20
        go_wp2_with fail
        refine HCK.out.mono ?_
        rintro e w2 ⟨rfl, hb2⟩
        have HB2 := Lib.hid hb2
        clear hb2
        obtain ⟨Q, hQ⟩ : ∃ Q, w2.heap.size = Q := ⟨_, rfl⟩
        obtain ⟨w3, hw3⟩ : ∃ w3, w2.alloc (.cells #[.string T, .int .i64 g, .int .i64 ar, .bool wr_, .int .i64 1, .int .i64 la, .int .i64 ((q : Nat) : Int)] 27) = w3 := ⟨_, rfl⟩
        obtain ⟨w4, hw4⟩ : ∃ w4, w3.alloc (.cells #[.int .i64 0, .string ⟨#[]⟩, .int .i64 0, .slice none 0 0] 37) = w4 := ⟨_, rfl⟩
        have hb34 : Below w3.heap.size w3 w4 := by rw [← hw4]; exact (Below.refl _ _).alloc (Nat.le_refl _) _
        have HB4 : Hid (Below w.heap.size w w4) := by unfold Hid; rw [← hw4, ← hw3]; exact (HB2.out.alloc HB2.out.size _).alloc (by have := HB2.out.size; simp; omega) _
        have HBX : Hid (Box7 w4 Q (.string T) (.int .i64 g) (.int .i64 ar) (.bool wr_) (.int .i64 1) (.int .i64 la) (.int .i64 ((q : Nat) : Int))) := by
          refine Box7.below ?_ hb34
          rw [← hw3, ← hQ]
          exact Box7.new ..
        have HW4 : Hid ((w2.alloc (.cells #[.string T, .int .i64 g, .int .i64 ar, .bool wr_, .int .i64 1, .int .i64 la, .int .i64 ((q : Nat) : Int)] 27)).alloc (.cells #[.int .i64 0, .string ⟨#[]⟩, .int .i64 0, .slice none 0 0] 37) = w4) := by unfold Hid; rw [hw3, hw4]
        obtain ⟨M, hM⟩ : ∃ M, w4.heap.size = M := ⟨_, rfl⟩
        have HM := Lib.hid hM
        have HWM : Hid (w.heap.size ≤ M) := by have := HB4.out.size; unfold Hid; omega
        clear hw3 hw4 hb34 hM
        go_wp2_with fail
        rw [HW4.out]
        go_loopw [8, 9] (fun kv iv wr => ∃ (k : Nat) (A' : Option Addr) (c' : Nat), kv = .slice A' k c' ∧ iv = .int .i64 ((1 + k * q : Nat) : Int) ∧ k ≤ m ∧ wr.ownsRow M 9 1 (.slice A' k c') k ((KS.take k).map encStr) ∧ Below M w4 wr) (fun _ iv _ => lk + 1 - (intOf iv).toNat)
        case atStart => exact ⟨0, none, 0, rfl, by simp, Nat.zero_le _, ⟨rfl, Or.inl ⟨rfl, rfl⟩⟩, Below.refl _ _⟩
        case round =>
          obtain ⟨k, A', c', rfl, rfl, hk, hown, hb⟩ := hrel
          have HO := Lib.hid hown
          have HB := Lib.hid hb
          obtain ⟨-, -, -, -, -, d4, -, d6, -⟩ := HBX.out.below (show Below w4.heap.size w4 wr from by rw [HM.out]; exact hb)
          clear hown hb
          obtain ⟨p, hp⟩ : ∃ p, 1 + k * q = p := ⟨_, rfl⟩
          have HPP := Lib.hid hp
          rw [hp]
          have hiff := HCJ.out k
          rw [hp] at hiff
          by_cases hlt : k < m
          · have hpl : p ≤ lk := hiff.2 hlt
            have hpl' : (p : Int) ≤ (lk : Int) := by omega
            have hpn : p < n := by omega
            have hpn' : (p : Int) < (n : Int) := by omega
            have hp0 : (0 : Int) ≤ (p : Int) := by omega
            obtain ⟨y, hy⟩ := HIN.out.get hpn
            have hyl := HL.out y (List.mem_of_getElem? hy)
            obtain ⟨b, o, rfl, hbl, hc⟩ := HIN.out.at_ (by omega)
            have c0 : wr.cell? ⟨b, o + p, none⟩ = some (.string ⟨y.toArray⟩) := ((HB.out.cell (p := ⟨b, o + p, none⟩) (by have := HWM.out; show b < M; omega)).trans (HB4.out.cell (p := ⟨b, o + p, none⟩) hbl)).trans (hc p y hy)
            have HTK : Hid (KS.take (k + 1) = KS.take k ++ [y]) := by
              unfold Hid
              rw [List.take_add_one, HKA.out k hlt, HKE.out k]
              show KS.take k ++ [L.getD (1 + k * q) []] = _
              rw [hp, List.getD_eq_getElem?_getD, hy]
              rfl
            have hmr : M ≤ wr.heap.size := by have := HB.out.size; have := HM.out; omega
            have HCL := Lib.hid (fun X => clone_any ⟨y.toArray⟩ X (by show y.toArray.size ≤ _; rw [List.size_toArray]; omega))
            have hpq : IntKind.i64.wrap ((p : Int) + (q : Int)) = ((p + q : Nat) : Int) := by rw [IntWalk.i64_in _ (by omega)]; omega
            clear hy hc hbl hiff
            go_wp2_with fail
            refine (HCL.out _).mono ?_
            rintro e w5 ⟨rfl, hb5⟩
            have HB5 : Hid (Below M w4 w5) := HB.out.trans (hb5.mono hmr)
            have HBA : Hid (Below M w4 (w5.alloc (.cells #[.string ⟨y.toArray⟩] 9))) := HB5.out.alloc (by have := HB5.out.size; have := HM.out; omega) _
            have HOA : Hid ((w5.alloc (.cells #[.string ⟨y.toArray⟩] 9)).ownsRow M 9 1 (.slice A' k c') k ((KS.take k).map encStr)) := (own_below HO.out hb5).alloc _
            have hma : M ≤ (w5.alloc (.cells #[.string ⟨y.toArray⟩] 9)).heap.size := by have := HBA.out.size; have := HM.out; omega
            clear hb5
            go_wp2_with (at_builtin; refine wpList_append_tx rfl _ _ rfl M (.slice A' k c') k (KS.take k) rfl HOA.out (some ⟨w5.heap.size, 0, none⟩) 1 1 [y] rfl (TxAt.one w5 y _ rfl (by omega)) (by omega) hma ?_)
            intro v6 w6 hown hgr
            unfold TxO at hown
            obtain ⟨A6, c6, rfl⟩ := own_slice hown
            have HO6 := Lib.hid hown
            have HB6 : Hid (Below M w4 w6) := HBA.out.grown hgr (by have := HBA.out.size; have := HM.out; omega) (fun k e => (HOA.out.lt k e).1)
            have d6' : w6.cell? ⟨Q, 6, none⟩ = some (.int .i64 (q : Nat)) := (HBX.out.below (show Below w4.heap.size w4 w6 from by rw [HM.out]; exact HB6.out)).c6
            clear hown hgr d4 d6
            go_wp2
            go_roundw
            case rel => exact ⟨k + 1, A6, c6, rfl, by rw [← HPP.out]; congr 1; push_cast; rw [Int.add_mul]; omega, hlt, by rw [HTK.out]; exact HO6.out, HB6.out⟩
            case measure => simp only [intOf]; omega
          · have hpl : ¬ p ≤ lk := fun e => hlt (hiff.1 e)
            have hpl' : ¬ (p : Int) ≤ (lk : Int) := by omega
            obtain rfl : k = m := by omega
            have HEQ : Hid (KS.take k = KS) := List.take_of_length_le (by rw [HKL.out]; exact Nat.le_refl _)
            have HOO : Hid (TxAt wr A' k c' KS) := by
              unfold Hid
              have q := HO.out
              rw [HEQ.out] at q
              exact TxAt.own q HKF.out
            clear hiff
            go_wp2
            go_ret2
            exact ⟨A', k, c', rfl, HOO.out, HB4.out.trans (HB.out.mono (by rw [← HM.out]; exact HB4.out.size))⟩
      · rw [if_neg hneg] at hlast
        subst hlast
        go_enter Try.func20, Try.ntmps20
        go_wp2_with fail
        refine HCK.out.mono ?_
        rintro e w2 ⟨rfl, hb2⟩
        have HB2 := Lib.hid hb2
        clear hb2
        obtain ⟨Q, hQ⟩ : ∃ Q, w2.heap.size = Q := ⟨_, rfl⟩
        obtain ⟨w3, hw3⟩ : ∃ w3, w2.alloc (.cells #[.string T, .int .i64 g, .int .i64 ar, .bool wr_, .int .i64 1, .int .i64 ((lk : Nat) : Int), .int .i64 ((q : Nat) : Int)] 27) = w3 := ⟨_, rfl⟩
        obtain ⟨w4, hw4⟩ : ∃ w4, w3.alloc (.cells #[.int .i64 0, .string ⟨#[]⟩, .int .i64 0, .slice none 0 0] 37) = w4 := ⟨_, rfl⟩
        have hb34 : Below w3.heap.size w3 w4 := by rw [← hw4]; exact (Below.refl _ _).alloc (Nat.le_refl _) _
        have HB4 : Hid (Below w.heap.size w w4) := by unfold Hid; rw [← hw4, ← hw3]; exact (HB2.out.alloc HB2.out.size _).alloc (by have := HB2.out.size; simp; omega) _
        have HBX : Hid (Box7 w4 Q (.string T) (.int .i64 g) (.int .i64 ar) (.bool wr_) (.int .i64 1) (.int .i64 ((lk : Nat) : Int)) (.int .i64 ((q : Nat) : Int))) := by
          refine Box7.below ?_ hb34
          rw [← hw3, ← hQ]
          exact Box7.new ..
        have HW4 : Hid ((w2.alloc (.cells #[.string T, .int .i64 g, .int .i64 ar, .bool wr_, .int .i64 1, .int .i64 ((lk : Nat) : Int), .int .i64 ((q : Nat) : Int)] 27)).alloc (.cells #[.int .i64 0, .string ⟨#[]⟩, .int .i64 0, .slice none 0 0] 37) = w4) := by unfold Hid; rw [hw3, hw4]
        obtain ⟨M, hM⟩ : ∃ M, w4.heap.size = M := ⟨_, rfl⟩
        have HM := Lib.hid hM
        have HWM : Hid (w.heap.size ≤ M) := by have := HB4.out.size; unfold Hid; omega
        clear hw3 hw4 hb34 hM
        go_wp2_with fail
        rw [HW4.out]
        go_loopw [8, 9] (fun kv iv wr => ∃ (k : Nat) (A' : Option Addr) (c' : Nat), kv = .slice A' k c' ∧ iv = .int .i64 ((1 + k * q : Nat) : Int) ∧ k ≤ m ∧ wr.ownsRow M 9 1 (.slice A' k c') k ((KS.take k).map encStr) ∧ Below M w4 wr) (fun _ iv _ => lk + 1 - (intOf iv).toNat)
        case atStart => exact ⟨0, none, 0, rfl, by simp, Nat.zero_le _, ⟨rfl, Or.inl ⟨rfl, rfl⟩⟩, Below.refl _ _⟩
        case round =>
          obtain ⟨k, A', c', rfl, rfl, hk, hown, hb⟩ := hrel
          have HO := Lib.hid hown
          have HB := Lib.hid hb
          obtain ⟨-, -, -, -, -, d4, -, d6, -⟩ := HBX.out.below (show Below w4.heap.size w4 wr from by rw [HM.out]; exact hb)
          clear hown hb
          obtain ⟨p, hp⟩ : ∃ p, 1 + k * q = p := ⟨_, rfl⟩
          have HPP := Lib.hid hp
          rw [hp]
          have hiff := HCJ.out k
          rw [hp] at hiff
          by_cases hlt : k < m
          · have hpl : p ≤ lk := hiff.2 hlt
            have hpl' : (p : Int) ≤ (lk : Int) := by omega
            have hpn : p < n := by omega
            have hpn' : (p : Int) < (n : Int) := by omega
            have hp0 : (0 : Int) ≤ (p : Int) := by omega
            obtain ⟨y, hy⟩ := HIN.out.get hpn
            have hyl := HL.out y (List.mem_of_getElem? hy)
            obtain ⟨b, o, rfl, hbl, hc⟩ := HIN.out.at_ (by omega)
            have c0 : wr.cell? ⟨b, o + p, none⟩ = some (.string ⟨y.toArray⟩) := ((HB.out.cell (p := ⟨b, o + p, none⟩) (by have := HWM.out; show b < M; omega)).trans (HB4.out.cell (p := ⟨b, o + p, none⟩) hbl)).trans (hc p y hy)
            have HTK : Hid (KS.take (k + 1) = KS.take k ++ [y]) := by
              unfold Hid
              rw [List.take_add_one, HKA.out k hlt, HKE.out k]
              show KS.take k ++ [L.getD (1 + k * q) []] = _
              rw [hp, List.getD_eq_getElem?_getD, hy]
              rfl
            have hmr : M ≤ wr.heap.size := by have := HB.out.size; have := HM.out; omega
            have HCL := Lib.hid (fun X => clone_any ⟨y.toArray⟩ X (by show y.toArray.size ≤ _; rw [List.size_toArray]; omega))
            have hpq : IntKind.i64.wrap ((p : Int) + (q : Int)) = ((p + q : Nat) : Int) := by rw [IntWalk.i64_in _ (by omega)]; omega
            clear hy hc hbl hiff
            go_wp2_with fail
            refine (HCL.out _).mono ?_
            rintro e w5 ⟨rfl, hb5⟩
            have HB5 : Hid (Below M w4 w5) := HB.out.trans (hb5.mono hmr)
            have HBA : Hid (Below M w4 (w5.alloc (.cells #[.string ⟨y.toArray⟩] 9))) := HB5.out.alloc (by have := HB5.out.size; have := HM.out; omega) _
            have HOA : Hid ((w5.alloc (.cells #[.string ⟨y.toArray⟩] 9)).ownsRow M 9 1 (.slice A' k c') k ((KS.take k).map encStr)) := (own_below HO.out hb5).alloc _
            have hma : M ≤ (w5.alloc (.cells #[.string ⟨y.toArray⟩] 9)).heap.size := by have := HBA.out.size; have := HM.out; omega
            clear hb5
            go_wp2_with (at_builtin; refine wpList_append_tx rfl _ _ rfl M (.slice A' k c') k (KS.take k) rfl HOA.out (some ⟨w5.heap.size, 0, none⟩) 1 1 [y] rfl (TxAt.one w5 y _ rfl (by omega)) (by omega) hma ?_)
            intro v6 w6 hown hgr
            unfold TxO at hown
            obtain ⟨A6, c6, rfl⟩ := own_slice hown
            have HO6 := Lib.hid hown
            have HB6 : Hid (Below M w4 w6) := HBA.out.grown hgr (by have := HBA.out.size; have := HM.out; omega) (fun k e => (HOA.out.lt k e).1)
            have d6' : w6.cell? ⟨Q, 6, none⟩ = some (.int .i64 (q : Nat)) := (HBX.out.below (show Below w4.heap.size w4 w6 from by rw [HM.out]; exact HB6.out)).c6
            clear hown hgr d4 d6
            go_wp2
            go_roundw
            case rel => exact ⟨k + 1, A6, c6, rfl, by rw [← HPP.out]; congr 1; push_cast; rw [Int.add_mul]; omega, hlt, by rw [HTK.out]; exact HO6.out, HB6.out⟩
            case measure => simp only [intOf]; omega
          · have hpl : ¬ p ≤ lk := fun e => hlt (hiff.1 e)
            have hpl' : ¬ (p : Int) ≤ (lk : Int) := by omega
            obtain rfl : k = m := by omega
            have HEQ : Hid (KS.take k = KS) := List.take_of_length_le (by rw [HKL.out]; exact Nat.le_refl _)
            have HOO : Hid (TxAt wr A' k c' KS) := by
              unfold Hid
              have q := HO.out
              rw [HEQ.out] at q
              exact TxAt.own q HKF.out
            clear hiff
            go_wp2
            go_ret2
            exact ⟨A', k, c', rfl, HOO.out, HB4.out.trans (HB.out.mono (by rw [← HM.out]; exact HB4.out.size))⟩
  · have HCV : Hid (chkV L = .tuple #[aggS s, errV ⟨T.toArray⟩, .bool false]) := by unfold Hid chkV; rw [hck]; rfl
    rw [HCV.out] at HCK
    have HKX := Lib.hid (keysX_err hck)
    have HKX1 : Hid ((keysX L).2 = 1 ∧ (keysX L).1 = []) := by unfold Hid; rw [HKX.out]; exact ⟨rfl, rfl⟩
    rw [HKX1.out.1, HKX1.out.2]
    obtain ⟨nm, g, ar, wr_, f, la, st⟩ := s
    unfold aggS encS errV at HCK
    dsimp only at HCK
    clear hck HCV HKX HKX1
    go_enter Try.func20, Try.ntmps20
    go_wp2_with fail
    refine HCK.out.mono ?_
    rintro e w2 ⟨rfl, hb2⟩
    have HB2 := Lib.hid hb2
    clear hb2
    go_wp2
    go_ret2
    exact ⟨none, 0, 0, rfl, TxAt.nil _, (HB2.out.alloc HB2.out.size _).alloc (by have := HB2.out.size; simp; omega) _⟩

set_option maxRecDepth 100000 in
set_option maxHeartbeats 16000000 in
theorem rkeys_any {A : Option Addr} {n c : Nat} {L : List Tx} (w : World) (h : TxAt w A n c L) (hn : n ≤ 2000) (hl : ∀ x ∈ L, x.length ≤ 1000) :
    Calls Try.prog 21 #[.slice A n c] w fun e w' => ∃ A' m c', e = .returned (.tuple #[.slice A' m c', .int .i64 (keysX L).2]) ∧ TxAt w' A' m c' (keysX L).1 ∧ Below w.heap.size w w' := by
  have HCK := Lib.hid (rcheck_any w h hn hl)
  have HIN := Lib.hid h
  have HLEN := Lib.hid h.len
  have HL := Lib.hid hl
  have hle := h.le
  clear h hl
  rcases hck : chk L with ⟨s, _ | T⟩
  · obtain ⟨hmem, htk⟩ := chk_some hck
    rw [HLEN.out] at htk
    have HKX := Lib.hid (keysX_ok hck)
    have HCV : Hid (chkV L = .tuple #[aggS s, okV, .bool true]) := by unfold Hid chkV; rw [hck]; rfl
    rw [HCV.out] at HCK
    have hlo := last_of hmem
    have hkk := (goodS hmem).keys
    have htok := tk_ok hmem htk
    have HKA := Lib.hid (fun k (h : k < cntK s L.length) => keysOf_at h)
    have HKL := Lib.hid (keysOf_len s L)
    have HKZ := Lib.hid (fun h => keysOf_zero (s := s) (L := L) h)
    have HCI := Lib.hid (fun (k : Nat) h1 h2 => cntK_iff (s := s) (n := n) (k := k) h1 h2)
    have HKD : Hid (∀ k, keyAt s L k = L.getD (1 + k * s.2.2.2.2.2.2.toNat) []) := fun k => rfl
    have HKX1 : Hid ((keysX L).2 = 0 ∧ (keysX L).1 = keysOf s L) := by unfold Hid; rw [HKX.out]; exact ⟨rfl, rfl⟩
    rw [HKX1.out.1, HKX1.out.2]
    obtain ⟨KS, hKS⟩ : ∃ KS, keysOf s L = KS := ⟨_, rfl⟩
    obtain ⟨m, hm⟩ : ∃ m, cntK s L.length = m := ⟨_, rfl⟩
    have hm' : cntK s n = m := by rw [← hm, HLEN.out]
    rw [hKS, hm] at HKA HKL
    rw [hKS] at HKZ
    rw [hm'] at HCI
    rw [hKS]
    obtain ⟨nm, g, ar, wr_, f, la, st⟩ := s
    dsimp only at hlo hkk htok HKD HCI HKZ
    unfold aggS encS okV at HCK
    dsimp only at HCK
    obtain ⟨T, hT⟩ : ∃ T : ByteArray, (⟨nm.toArray⟩ : ByteArray) = T := ⟨_, rfl⟩
    rw [hT] at HCK
    clear hck hmem htk hKS hm hT hm' HCV HKX HKX1
    by_cases h0 : f = 0
    · subst h0
      have HE := Lib.hid (HKZ.out rfl)
      clear hkk htok
      by_cases hneg : la < 0
      · have hla : la < 0 := hneg
        obtain ⟨z, hz⟩ : ∃ z, IntKind.i64.wrap ((n : Int) + la) = z := ⟨_, rfl⟩
        go_enter Try.func21, Try.ntmps21
        go_wp2_with fail
        refine HCK.out.mono ?_
        rintro e w2 ⟨rfl, hb2⟩
        have HB2 := Lib.hid hb2
        clear hb2
        go_wp2_with fail
        go_loopw [7, 9] (fun kv iv wr => kv = .slice none 0 0 ∧ iv = .int .i64 0 ∧ Below w.heap.size w wr ∧ wr.cell? ⟨w2.heap.size, 4, none⟩ = some (.int .i64 0)) (fun _ _ _ => 0)
        case atStart =>
          refine ⟨rfl, rfl, (HB2.out.alloc HB2.out.size _).alloc (by have := HB2.out.size; simp; omega) _, ?_⟩
          have q := (Box7.new w2 27 (.string T) (.int .i64 g) (.int .i64 ar) (.bool wr_) (.int .i64 0) (.int .i64 la) (.int .i64 st)).below ((Below.refl _ _).alloc (Nat.le_refl _) (.cells #[.int .i64 0, .string ⟨#[]⟩, .int .i64 0, .slice none 0 0] 37))
          exact q.c4
        case round =>
          obtain ⟨rfl, rfl, hb, c4⟩ := hrel
          have HB := Lib.hid hb
          clear hb
          go_wp2
          go_ret2
          exact ⟨none, 0, 0, rfl, by rw [HE.out]; exact TxAt.nil _, HB.out⟩
      · have hla : ¬ la < 0 := hneg
        go_enter Try.func21, Try.ntmps21
        go_wp2_with fail
        refine HCK.out.mono ?_
        rintro e w2 ⟨rfl, hb2⟩
        have HB2 := Lib.hid hb2
        clear hb2
        go_wp2_with fail
        go_loopw [7, 9] (fun kv iv wr => kv = .slice none 0 0 ∧ iv = .int .i64 0 ∧ Below w.heap.size w wr ∧ wr.cell? ⟨w2.heap.size, 4, none⟩ = some (.int .i64 0)) (fun _ _ _ => 0)
        case atStart =>
          refine ⟨rfl, rfl, (HB2.out.alloc HB2.out.size _).alloc (by have := HB2.out.size; simp; omega) _, ?_⟩
          have q := (Box7.new w2 27 (.string T) (.int .i64 g) (.int .i64 ar) (.bool wr_) (.int .i64 0) (.int .i64 la) (.int .i64 st)).below ((Below.refl _ _).alloc (Nat.le_refl _) (.cells #[.int .i64 0, .string ⟨#[]⟩, .int .i64 0, .slice none 0 0] 37))
          exact q.c4
        case round =>
          obtain ⟨rfl, rfl, hb, c4⟩ := hrel
          have HB := Lib.hid hb
          clear hb
          go_wp2
          go_ret2
          exact ⟨none, 0, 0, rfl, by rw [HE.out]; exact TxAt.nil _, HB.out⟩
    · obtain ⟨hf1, hst, hlk1, hlkn, hlast⟩ := htok h0
      clear hkk htok
      obtain ⟨lk, hlk⟩ : ∃ lk, lastK (nm, g, ar, wr_, f, la, st) n = lk := ⟨_, rfl⟩
      rw [hlk] at hlk1 hlkn hlast
      have HCI2 := HCI.out
      rw [hlk] at HCI2
      obtain ⟨q, hq⟩ : ∃ q : Nat, st = (q : Int) := ⟨st.toNat, by omega⟩
      have hq1 : 1 ≤ q ∧ q ≤ 2 := by omega
      have HCJ : Hid (∀ k : Nat, 1 + k * q ≤ lk ↔ k < m) := fun k => by
        have r := HCI2 k hf1 hst
        rw [hq] at r
        exact r
      have HKE : Hid (∀ k, keyAt (nm, g, ar, wr_, f, la, st) L k = L.getD (1 + k * q) []) := fun k => by
        have r := HKD.out k
        rw [r, hq]
        rfl
      have HKF : Hid (∀ x ∈ KS, x.length ≤ 140737488355328) := fun x hx => by
        obtain ⟨k, hk⟩ := List.mem_iff_getElem?.1 hx
        have hkm : k < m := by have := (List.getElem?_eq_some_iff.1 hk).1; rw [HKL.out] at this; exact this
        rw [HKA.out k hkm, HKE.out k] at hk
        injection hk with hk
        rw [← hk, List.getD_eq_getElem?_getD]
        cases hz : L[1 + k * q]? with
        | none => exact Nat.zero_le _
        | some z => have := HL.out z (List.mem_of_getElem? hz); simp only [Option.getD_some]; omega
      have hm2 : m ≤ 2000 := by
        rcases Nat.lt_or_ge 2000 m with e | e
        · have r := (HCJ.out 2000).2 e
          have : 2000 * 1 ≤ 2000 * q := Nat.mul_le_mul_left _ hq1.1
          omega
        · exact e
      clear HCI2 HCI HKD hlk hst
      subst hf1
      subst hq
      by_cases hneg : la < 0
      · rw [if_pos hneg] at hlast
        have hwl : IntKind.i64.wrap ((n : Int) + la) = (lk : Int) := by rw [IntWalk.i64_in _ (by omega)]; omega
        go_enter Try.func21, Try.ntmps21
        go_wp2_with fail
        refine HCK.out.mono ?_
        rintro e w2 ⟨rfl, hb2⟩
        have HB2 := Lib.hid hb2
        clear hb2
        obtain ⟨Q, hQ⟩ : ∃ Q, w2.heap.size = Q := ⟨_, rfl⟩
        obtain ⟨w3, hw3⟩ : ∃ w3, w2.alloc (.cells #[.string T, .int .i64 g, .int .i64 ar, .bool wr_, .int .i64 1, .int .i64 la, .int .i64 ((q : Nat) : Int)] 27) = w3 := ⟨_, rfl⟩
        obtain ⟨w4, hw4⟩ : ∃ w4, w3.alloc (.cells #[.int .i64 0, .string ⟨#[]⟩, .int .i64 0, .slice none 0 0] 37) = w4 := ⟨_, rfl⟩
        have hb34 : Below w3.heap.size w3 w4 := by rw [← hw4]; exact (Below.refl _ _).alloc (Nat.le_refl _) _
        have HB4 : Hid (Below w.heap.size w w4) := by unfold Hid; rw [← hw4, ← hw3]; exact (HB2.out.alloc HB2.out.size _).alloc (by have := HB2.out.size; simp; omega) _
        have HBX : Hid (Box7 w4 Q (.string T) (.int .i64 g) (.int .i64 ar) (.bool wr_) (.int .i64 1) (.int .i64 la) (.int .i64 ((q : Nat) : Int))) := by
          refine Box7.below ?_ hb34
          rw [← hw3, ← hQ]
          exact Box7.new ..
        have HW4 : Hid ((w2.alloc (.cells #[.string T, .int .i64 g, .int .i64 ar, .bool wr_, .int .i64 1, .int .i64 la, .int .i64 ((q : Nat) : Int)] 27)).alloc (.cells #[.int .i64 0, .string ⟨#[]⟩, .int .i64 0, .slice none 0 0] 37) = w4) := by unfold Hid; rw [hw3, hw4]
        obtain ⟨M, hM⟩ : ∃ M, w4.heap.size = M := ⟨_, rfl⟩
        have HM := Lib.hid hM
        have HWM : Hid (w.heap.size ≤ M) := by have := HB4.out.size; unfold Hid; omega
        clear hw3 hw4 hb34 hM
        go_wp2_with fail
        rw [HW4.out]
        go_loopw [7, 9] (fun kv iv wr => ∃ (k : Nat) (A' : Option Addr) (c' : Nat), kv = .slice A' k c' ∧ iv = .int .i64 ((1 + k * q : Nat) : Int) ∧ k ≤ m ∧ wr.ownsRow M 9 1 (.slice A' k c') k ((KS.take k).map encStr) ∧ Below M w4 wr) (fun _ iv _ => lk + 1 - (intOf iv).toNat)
        case atStart => exact ⟨0, none, 0, rfl, by simp, Nat.zero_le _, ⟨rfl, Or.inl ⟨rfl, rfl⟩⟩, Below.refl _ _⟩
        case round =>
          obtain ⟨k, A', c', rfl, rfl, hk, hown, hb⟩ := hrel
          have HO := Lib.hid hown
          have HB := Lib.hid hb
          obtain ⟨-, -, -, -, -, d4, -, d6, -⟩ := HBX.out.below (show Below w4.heap.size w4 wr from by rw [HM.out]; exact hb)
          clear hown hb
          obtain ⟨p, hp⟩ : ∃ p, 1 + k * q = p := ⟨_, rfl⟩
          have HPP := Lib.hid hp
          rw [hp]
          have hiff := HCJ.out k
          rw [hp] at hiff
          by_cases hlt : k < m
          · have hpl : p ≤ lk := hiff.2 hlt
            have hpl' : (p : Int) ≤ (lk : Int) := by omega
            have hpn : p < n := by omega
            have hpn' : (p : Int) < (n : Int) := by omega
            have hp0 : (0 : Int) ≤ (p : Int) := by omega
            obtain ⟨y, hy⟩ := HIN.out.get hpn
            have hyl := HL.out y (List.mem_of_getElem? hy)
            obtain ⟨b, o, rfl, hbl, hc⟩ := HIN.out.at_ (by omega)
            have c0 : wr.cell? ⟨b, o + p, none⟩ = some (.string ⟨y.toArray⟩) := ((HB.out.cell (p := ⟨b, o + p, none⟩) (by have := HWM.out; show b < M; omega)).trans (HB4.out.cell (p := ⟨b, o + p, none⟩) hbl)).trans (hc p y hy)
            have HTK : Hid (KS.take (k + 1) = KS.take k ++ [y]) := by
              unfold Hid
              rw [List.take_add_one, HKA.out k hlt, HKE.out k]
              show KS.take k ++ [L.getD (1 + k * q) []] = _
              rw [hp, List.getD_eq_getElem?_getD, hy]
              rfl
            have hmr : M ≤ wr.heap.size := by have := HB.out.size; have := HM.out; omega
            have hpq : IntKind.i64.wrap ((p : Int) + (q : Int)) = ((p + q : Nat) : Int) := by rw [IntWalk.i64_in _ (by omega)]; omega
            clear hy hc hbl hiff
            have HBA : Hid (Below M w4 (wr.alloc (.cells #[.string ⟨y.toArray⟩] 9))) := HB.out.alloc hmr _
            have HOA : Hid ((wr.alloc (.cells #[.string ⟨y.toArray⟩] 9)).ownsRow M 9 1 (.slice A' k c') k ((KS.take k).map encStr)) := HO.out.alloc _
            have hma : M ≤ (wr.alloc (.cells #[.string ⟨y.toArray⟩] 9)).heap.size := by have := HBA.out.size; have := HM.out; omega
            go_wp2_with (at_builtin; refine wpList_append_tx rfl _ _ rfl M (.slice A' k c') k (KS.take k) rfl HOA.out (some ⟨wr.heap.size, 0, none⟩) 1 1 [y] rfl (TxAt.one wr y _ rfl (by omega)) (by omega) hma ?_)
            intro v6 w6 hown hgr
            unfold TxO at hown
            obtain ⟨A6, c6, rfl⟩ := own_slice hown
            have HO6 := Lib.hid hown
            have HB6 : Hid (Below M w4 w6) := HBA.out.grown hgr (by have := HBA.out.size; have := HM.out; omega) (fun k e => (HOA.out.lt k e).1)
            have d6' : w6.cell? ⟨Q, 6, none⟩ = some (.int .i64 (q : Nat)) := (HBX.out.below (show Below w4.heap.size w4 w6 from by rw [HM.out]; exact HB6.out)).c6
            clear hown hgr d4 d6
            go_wp2
            go_roundw
            case rel => exact ⟨k + 1, A6, c6, rfl, by rw [← HPP.out]; congr 1; push_cast; rw [Int.add_mul]; omega, hlt, by rw [HTK.out]; exact HO6.out, HB6.out⟩
            case measure => simp only [intOf]; omega
          · have hpl : ¬ p ≤ lk := fun e => hlt (hiff.1 e)
            have hpl' : ¬ (p : Int) ≤ (lk : Int) := by omega
            obtain rfl : k = m := by omega
            have HEQ : Hid (KS.take k = KS) := List.take_of_length_le (by rw [HKL.out]; exact Nat.le_refl _)
            have HOO : Hid (TxAt wr A' k c' KS) := by
              unfold Hid
              have q := HO.out
              rw [HEQ.out] at q
              exact TxAt.own q HKF.out
            clear hiff
            go_wp2
            go_ret2
            exact ⟨A', k, c', rfl, HOO.out, HB4.out.trans (HB.out.mono (by rw [← HM.out]; exact HB4.out.size))⟩
      · rw [if_neg hneg] at hlast
        subst hlast
        go_enter Try.func21, Try.ntmps21
        go_wp2_with fail
        refine HCK.out.mono ?_
        rintro e w2 ⟨rfl, hb2⟩
        have HB2 := Lib.hid hb2
        clear hb2
        obtain ⟨Q, hQ⟩ : ∃ Q, w2.heap.size = Q := ⟨_, rfl⟩
        obtain ⟨w3, hw3⟩ : ∃ w3, w2.alloc (.cells #[.string T, .int .i64 g, .int .i64 ar, .bool wr_, .int .i64 1, .int .i64 ((lk : Nat) : Int), .int .i64 ((q : Nat) : Int)] 27) = w3 := ⟨_, rfl⟩
        obtain ⟨w4, hw4⟩ : ∃ w4, w3.alloc (.cells #[.int .i64 0, .string ⟨#[]⟩, .int .i64 0, .slice none 0 0] 37) = w4 := ⟨_, rfl⟩
        have hb34 : Below w3.heap.size w3 w4 := by rw [← hw4]; exact (Below.refl _ _).alloc (Nat.le_refl _) _
        have HB4 : Hid (Below w.heap.size w w4) := by unfold Hid; rw [← hw4, ← hw3]; exact (HB2.out.alloc HB2.out.size _).alloc (by have := HB2.out.size; simp; omega) _
        have HBX : Hid (Box7 w4 Q (.string T) (.int .i64 g) (.int .i64 ar) (.bool wr_) (.int .i64 1) (.int .i64 ((lk : Nat) : Int)) (.int .i64 ((q : Nat) : Int))) := by
          refine Box7.below ?_ hb34
          rw [← hw3, ← hQ]
          exact Box7.new ..
        have HW4 : Hid ((w2.alloc (.cells #[.string T, .int .i64 g, .int .i64 ar, .bool wr_, .int .i64 1, .int .i64 ((lk : Nat) : Int), .int .i64 ((q : Nat) : Int)] 27)).alloc (.cells #[.int .i64 0, .string ⟨#[]⟩, .int .i64 0, .slice none 0 0] 37) = w4) := by unfold Hid; rw [hw3, hw4]
        obtain ⟨M, hM⟩ : ∃ M, w4.heap.size = M := ⟨_, rfl⟩
        have HM := Lib.hid hM
        have HWM : Hid (w.heap.size ≤ M) := by have := HB4.out.size; unfold Hid; omega
        clear hw3 hw4 hb34 hM
        go_wp2_with fail
        rw [HW4.out]
        go_loopw [7, 9] (fun kv iv wr => ∃ (k : Nat) (A' : Option Addr) (c' : Nat), kv = .slice A' k c' ∧ iv = .int .i64 ((1 + k * q : Nat) : Int) ∧ k ≤ m ∧ wr.ownsRow M 9 1 (.slice A' k c') k ((KS.take k).map encStr) ∧ Below M w4 wr) (fun _ iv _ => lk + 1 - (intOf iv).toNat)
        case atStart => exact ⟨0, none, 0, rfl, by simp, Nat.zero_le _, ⟨rfl, Or.inl ⟨rfl, rfl⟩⟩, Below.refl _ _⟩
        case round =>
          obtain ⟨k, A', c', rfl, rfl, hk, hown, hb⟩ := hrel
          have HO := Lib.hid hown
          have HB := Lib.hid hb
          obtain ⟨-, -, -, -, -, d4, -, d6, -⟩ := HBX.out.below (show Below w4.heap.size w4 wr from by rw [HM.out]; exact hb)
          clear hown hb
          obtain ⟨p, hp⟩ : ∃ p, 1 + k * q = p := ⟨_, rfl⟩
          have HPP := Lib.hid hp
          rw [hp]
          have hiff := HCJ.out k
          rw [hp] at hiff
          by_cases hlt : k < m
          · have hpl : p ≤ lk := hiff.2 hlt
            have hpl' : (p : Int) ≤ (lk : Int) := by omega
            have hpn : p < n := by omega
            have hpn' : (p : Int) < (n : Int) := by omega
            have hp0 : (0 : Int) ≤ (p : Int) := by omega
            obtain ⟨y, hy⟩ := HIN.out.get hpn
            have hyl := HL.out y (List.mem_of_getElem? hy)
            obtain ⟨b, o, rfl, hbl, hc⟩ := HIN.out.at_ (by omega)
            have c0 : wr.cell? ⟨b, o + p, none⟩ = some (.string ⟨y.toArray⟩) := ((HB.out.cell (p := ⟨b, o + p, none⟩) (by have := HWM.out; show b < M; omega)).trans (HB4.out.cell (p := ⟨b, o + p, none⟩) hbl)).trans (hc p y hy)
            have HTK : Hid (KS.take (k + 1) = KS.take k ++ [y]) := by
              unfold Hid
              rw [List.take_add_one, HKA.out k hlt, HKE.out k]
              show KS.take k ++ [L.getD (1 + k * q) []] = _
              rw [hp, List.getD_eq_getElem?_getD, hy]
              rfl
            have hmr : M ≤ wr.heap.size := by have := HB.out.size; have := HM.out; omega
            have hpq : IntKind.i64.wrap ((p : Int) + (q : Int)) = ((p + q : Nat) : Int) := by rw [IntWalk.i64_in _ (by omega)]; omega
            clear hy hc hbl hiff
            have HBA : Hid (Below M w4 (wr.alloc (.cells #[.string ⟨y.toArray⟩] 9))) := HB.out.alloc hmr _
            have HOA : Hid ((wr.alloc (.cells #[.string ⟨y.toArray⟩] 9)).ownsRow M 9 1 (.slice A' k c') k ((KS.take k).map encStr)) := HO.out.alloc _
            have hma : M ≤ (wr.alloc (.cells #[.string ⟨y.toArray⟩] 9)).heap.size := by have := HBA.out.size; have := HM.out; omega
            go_wp2_with (at_builtin; refine wpList_append_tx rfl _ _ rfl M (.slice A' k c') k (KS.take k) rfl HOA.out (some ⟨wr.heap.size, 0, none⟩) 1 1 [y] rfl (TxAt.one wr y _ rfl (by omega)) (by omega) hma ?_)
            intro v6 w6 hown hgr
            unfold TxO at hown
            obtain ⟨A6, c6, rfl⟩ := own_slice hown
            have HO6 := Lib.hid hown
            have HB6 : Hid (Below M w4 w6) := HBA.out.grown hgr (by have := HBA.out.size; have := HM.out; omega) (fun k e => (HOA.out.lt k e).1)
            have d6' : w6.cell? ⟨Q, 6, none⟩ = some (.int .i64 (q : Nat)) := (HBX.out.below (show Below w4.heap.size w4 w6 from by rw [HM.out]; exact HB6.out)).c6
            clear hown hgr d4 d6
            go_wp2
            go_roundw
            case rel => exact ⟨k + 1, A6, c6, rfl, by rw [← HPP.out]; congr 1; push_cast; rw [Int.add_mul]; omega, hlt, by rw [HTK.out]; exact HO6.out, HB6.out⟩
            case measure => simp only [intOf]; omega
          · have hpl : ¬ p ≤ lk := fun e => hlt (hiff.1 e)
            have hpl' : ¬ (p : Int) ≤ (lk : Int) := by omega
            obtain rfl : k = m := by omega
            have HEQ : Hid (KS.take k = KS) := List.take_of_length_le (by rw [HKL.out]; exact Nat.le_refl _)
            have HOO : Hid (TxAt wr A' k c' KS) := by
              unfold Hid
              have q := HO.out
              rw [HEQ.out] at q
              exact TxAt.own q HKF.out
            clear hiff
            go_wp2
            go_ret2
            exact ⟨A', k, c', rfl, HOO.out, HB4.out.trans (HB.out.mono (by rw [← HM.out]; exact HB4.out.size))⟩
  · have HCV : Hid (chkV L = .tuple #[aggS s, errV ⟨T.toArray⟩, .bool false]) := by unfold Hid chkV; rw [hck]; rfl
    rw [HCV.out] at HCK
    have HKX := Lib.hid (keysX_err hck)
    have HKX1 : Hid ((keysX L).2 = 1 ∧ (keysX L).1 = []) := by unfold Hid; rw [HKX.out]; exact ⟨rfl, rfl⟩
    rw [HKX1.out.1, HKX1.out.2]
    obtain ⟨nm, g, ar, wr_, f, la, st⟩ := s
    unfold aggS encS errV at HCK
    dsimp only at HCK
    clear hck HCV HKX HKX1
    go_enter Try.func21, Try.ntmps21
    go_wp2_with fail
    refine HCK.out.mono ?_
    rintro e w2 ⟨rfl, hb2⟩
    have HB2 := Lib.hid hb2
    clear hb2
    go_wp2
    go_ret2
    exact ⟨none, 0, 0, rfl, TxAt.nil _, (HB2.out.alloc HB2.out.size _).alloc (by have := HB2.out.size; simp; omega) _⟩

end Go.Proofs.Ytinpimejiepahaa
