/-
  The document's Pick, Some over rows of texts. Conditions: the row lies in memory.
-/
import Derived.Test.YtkobhlhkkpnmkaaMbK
namespace Go.Proofs.Ytkobhlhkkpnmkaa
open Go.RowKit

set_option maxRecDepth 100000 in
set_option maxHeartbeats 16000000 in
theorem rpick_any {A : Option Addr} {n cp : Nat} {L : List Tx} (w : World) (h : TxAt w A n cp L) (hn : n ≤ 1000000) {d : Nat} (hd : d < 18446744073709551616) :
    Calls Try.prog 31 #[.slice A n cp, .int .u64 d] w fun e w' => e = .returned (.tuple #[.string ⟨(pkX L d).toArray⟩, .bool (pkB L), .int .i64 (ckX L)]) ∧ Below w.heap.size w w' := by
  have HC := Lib.hid (rcheck_any w h (by omega))
  have HA := Lib.hid h
  have HLL := Lib.hid h.len
  by_cases hr : Ris L
  · rw [ckX_ok hr] at HC ⊢
    rcases Nat.eq_zero_or_pos n with h0 | h0
    · subst h0
      obtain rfl : L = [] := List.eq_nil_of_length_eq_zero h.len
      rw [show pkX [] d = [] from by unfold pkX; simp, show pkB [] = false from by unfold pkB; simp]
      clear h hr hd
      go_enter Try.func31, Try.ntmps31
      go_wp2_with fail
      refine HC.out.mono ?_
      rintro e w1 ⟨rfl, hb1⟩
      have HB1 := Lib.hid hb1
      clear hb1
      go_wp2
      go_ret3
      exact ⟨rfl, HB1.out⟩
    · have hLn : L ≠ [] := fun e => by have := h.len; rw [e] at this; simp at this; omega
      have HAT : L[d % n]? = some (atD L d) := by have q := atD_get hLn d; rw [h.len] at q; exact q
      rw [show pkX L d = atD L d from by unfold pkX; rw [if_pos ⟨hr, hLn⟩], show pkB L = true from decide_eq_true ⟨hr, hLn⟩]
      have HG := Lib.hid HAT
      have hpl := Nat.mod_lt d h0
      have g1 : IntKind.u64.wrap (n : Int) = (n : Int) := IntWalk.u64_in _ (by omega)
      have g2 : (d : Int).tmod (n : Int) = ((d % n : Nat) : Int) := by rw [Int.tmod_eq_emod_of_nonneg (by omega)]; rfl
      have g3 : IntKind.u64.wrap ((d % n : Nat) : Int) = ((d % n : Nat) : Int) := IntWalk.u64_in _ (by omega)
      have g4 : IntKind.i64.wrap ((d % n : Nat) : Int) = ((d % n : Nat) : Int) := IntWalk.i64_in _ (by omega)
      have g5 : (d : Int) % (n : Int) = ((d % n : Nat) : Int) := rfl
      obtain ⟨pl, hplE⟩ : ∃ pl, d % n = pl := ⟨_, rfl⟩
      rw [hplE] at hpl HG g2 g3 g4 g5
      obtain ⟨T, hT⟩ : ∃ T : ByteArray, (⟨(atD L d).toArray⟩ : ByteArray) = T := ⟨_, rfl⟩
      have HT := Lib.hid hT
      rw [hT]
      have hpl' : (pl : Int) < (n : Int) := by omega
      have hz : ¬ (n : Int) = 0 := by omega
      clear h hr hd HAT hLn hplE hT
      go_enter Try.func31, Try.ntmps31
      go_wp2_with fail
      refine HC.out.mono ?_
      rintro e w1 ⟨rfl, hb1⟩
      have HB1 := Lib.hid hb1
      obtain ⟨b, o, rfl, hbl, hc⟩ := (HA.out.below hb1).at_ h0
      have c0 := hc pl _ HG.out
      rw [HT.out] at c0
      clear hb1 hc
      go_wp2
      go_ret3
      exact ⟨rfl, HB1.out⟩
  · rw [ckX_no hr] at HC ⊢
    rw [show pkX L d = [] from by unfold pkX; rw [if_neg (fun e => hr e.1)], show pkB L = false from decide_eq_false (fun e => hr e.1)]
    clear h hr hd
    go_enter Try.func31, Try.ntmps31
    go_wp2_with fail
    refine HC.out.mono ?_
    rintro e w1 ⟨rfl, hb1⟩
    have HB1 := Lib.hid hb1
    clear hb1
    go_wp2
    go_ret3
    exact ⟨rfl, HB1.out⟩

set_option maxRecDepth 100000 in
set_option maxHeartbeats 16000000 in
theorem rsome_any {A : Option Addr} {n cp : Nat} {L : List Tx} (w : World) (h : TxAt w A n cp L) (hn : n ≤ 1000000) (m : Int) {d : Nat} (hd : d < 18446744073709551616) :
    Calls Try.prog 33 #[.slice A n cp, .int .i64 m, .int .u64 d] w fun e w' => ∃ A' k c', e = .returned (.tuple #[.slice A' k c', .int .i64 (smE L m)]) ∧ TxAt w' A' k c' (smX L m d) ∧ Below w.heap.size w w' := by
  have HC := Lib.hid (rcheck_any w h (by omega))
  have HA := Lib.hid h
  obtain ⟨M, hM⟩ : ∃ M, w.heap.size = M := ⟨_, rfl⟩
  have HM := Lib.hid hM
  rw [hM] at HC ⊢
  by_cases hr : Ris L
  · rw [ckX_ok hr] at HC
    by_cases hm : m < -1024 ∨ 65536 < m
    · rw [(smX_out hr hm d).1, (smX_out hr hm d).2]
      have hm2 : m < -1024 ∨ (¬ m < -1024 ∧ 65536 < m) := by omega
      clear h hr hd hM hm
      rcases hm2 with hm | ⟨hm1, hm⟩
      · go_enter Try.func33, Try.ntmps33
        go_wp2_with fail
        refine HC.out.mono ?_
        rintro e w1 ⟨rfl, hb1⟩
        have HB1 := Lib.hid hb1
        clear hb1
        go_wp2
        go_ret2
        exact ⟨none, 0, 0, rfl, TxAt.nil _, HB1.out⟩
      · go_enter Try.func33, Try.ntmps33
        go_wp2_with fail
        refine HC.out.mono ?_
        rintro e w1 ⟨rfl, hb1⟩
        have HB1 := Lib.hid hb1
        clear hb1
        go_wp2
        go_ret2
        exact ⟨none, 0, 0, rfl, TxAt.nil _, HB1.out⟩
    · rw [smE_in hr hm]
      have hm1 : ¬ m < -1024 := by omega
      have hm2 : ¬ 65536 < m := by omega
      rcases Nat.eq_zero_or_pos n with h0 | h0
      · subst h0
        obtain rfl : L = [] := List.eq_nil_of_length_eq_zero h.len
        rw [smX_nil hm]
        clear h hr hd hM hm
        go_enter Try.func33, Try.ntmps33
        go_wp2_with fail
        refine HC.out.mono ?_
        rintro e w1 ⟨rfl, hb1⟩
        have HB1 := Lib.hid hb1
        clear hb1
        go_wp2
        go_ret2
        exact ⟨none, 0, 0, rfl, TxAt.nil _, HB1.out⟩
      · have hLn : L ≠ [] := fun e => by have := h.len; rw [e] at this; simp at this; omega
        have hz : ¬ (n : Int) = 0 := by omega
        have hzb : ((n : Int) == 0) = false := by rw [beq_eq_false_iff_ne]; exact hz
        have HLL := Lib.hid h.len
        have HLN := Lib.hid hLn
        have g1 : IntKind.u64.wrap (n : Int) = (n : Int) := IntWalk.u64_in _ (by omega)
        have HNX : Hid (∀ (k : Nat) (X : World), Calls Try.prog 51 #[.int .u64 (drN d k)] X fun e w' => e = .returned (.int .u64 (drN d (k + 1))) ∧ w' = X) := fun k X => rnext_any (drN d k) X
        have HD0 : Hid (drN d 0 = d) := rfl
        have HDL := Lib.hid (drN_lt hd)
        by_cases hneg : m < 0
        · rw [smX_neg hr hm hLn hneg]
          obtain ⟨q, hq⟩ : ∃ q, (-m).toNat = q := ⟨_, rfl⟩
          have hq2 : q ≤ 2000 := by omega
          have HQ : Hid ((q : Int) = -m) := by unfold Hid; omega
          have HAT : Hid (∀ k, L[drN d k % n]? = some (atD L (drN d k))) := fun k => by have q := atD_get hLn (drN d k); rw [h.len] at q; exact q
          have HRF : Hid (∀ k, ∀ x ∈ rpX L d k, x.length ≤ 140737488355328) := fun k x hx => h.fits x (rpX_mem hLn hx)
          have HRS := Lib.hid (fun k => rpX_succ L d k)
          have HR0 : Hid (rpX L d 0 = []) := rfl
          rw [hq]
          clear h hr hd hM hm hLn hq
          go_enter Try.func33, Try.ntmps33
          go_wp2_with fail
          refine HC.out.mono ?_
          rintro e w1 ⟨rfl, hb1⟩
          have HB1 := Lib.hid hb1
          clear hb1
          go_wp2_with fail
          go_loopw [1, 2, 8] (fun nv dv ov wr => ∃ (i k : Nat) (A' : Option Addr) (c' : Nat), nv = .int .i64 (m + i) ∧ dv = .int .u64 (drN d i) ∧ ov = .slice A' k c' ∧ k = i ∧ i ≤ q ∧ wr.ownsRow M 9 1 (.slice A' k c') k ((rpX L d i).map encStr) ∧ Below M w wr) (fun nv _ _ _ => (-(intOf nv)).toNat)
          case atStart => exact ⟨0, 0, none, 0, by simp, by rw [HD0.out], rfl, rfl, Nat.zero_le _, by rw [HR0.out]; exact ⟨rfl, Or.inl ⟨rfl, rfl⟩⟩, HB1.out⟩
          case round =>
            obtain ⟨i, k, A', c', rfl, rfl, rfl, hki, hi, ht, hbw⟩ := hrel
            have HT := Lib.hid ht
            have HBW := Lib.hid hbw
            have HKI := Lib.hid hki
            obtain ⟨z, hzE⟩ : ∃ z : Int, m + i = z := ⟨_, rfl⟩
            have HZE := Lib.hid hzE
            rw [hzE]
            by_cases hlt : i < q
            · have hzn : z < 0 := by have := HQ.out; omega
              obtain ⟨b, o, rfl, hbl, hc⟩ := (HA.out.below (w' := wr) (by rw [HM.out]; exact hbw)).at_ h0
              have c0 := hc _ _ (HAT.out i)
              have HFX : Hid ((atD L (drN d i)).length ≤ 140737488355328) := HA.out.fit (HAT.out i)
              have HNI := Lib.hid (HNX.out i)
              have HE := Lib.hid (HRS.out i)
              have hDl := HDL.out i
              obtain ⟨D, hD⟩ : ∃ D, drN d i = D := ⟨_, rfl⟩
              obtain ⟨E, hE⟩ : ∃ E, drN d (i + 1) = E := ⟨_, rfl⟩
              have HEE := Lib.hid hE
              rw [hD] at HNI HE HFX c0 hDl ⊢
              rw [hE] at HNI
              have hpl := Nat.mod_lt D h0
              have g2 : (D : Int).tmod (n : Int) = ((D % n : Nat) : Int) := by rw [Int.tmod_eq_emod_of_nonneg (by omega)]; rfl
              have g3 : IntKind.u64.wrap ((D % n : Nat) : Int) = ((D % n : Nat) : Int) := IntWalk.u64_in _ (by omega)
              have g4 : IntKind.i64.wrap ((D % n : Nat) : Int) = ((D % n : Nat) : Int) := IntWalk.i64_in _ (by omega)
              have g5 : (D : Int) % (n : Int) = ((D % n : Nat) : Int) := rfl
              obtain ⟨pl, hplE⟩ : ∃ pl, D % n = pl := ⟨_, rfl⟩
              rw [hplE] at hpl c0 g2 g3 g4 g5
              have hpl' : (pl : Int) < (n : Int) := by omega
              obtain ⟨x, hx⟩ : ∃ x, atD L D = x := ⟨_, rfl⟩
              rw [hx] at c0 HE HFX
              obtain ⟨T, hT⟩ : ∃ T : ByteArray, (⟨x.toArray⟩ : ByteArray) = T := ⟨_, rfl⟩
              have HTT := Lib.hid hT
              rw [hT] at c0
              have hmw : M ≤ wr.heap.size := by have q1 := hbw.size; have q2 := HM.out; omega
              have HW := Lib.hid (World.ownsRow.alloc (w := wr) HT.out (.cells #[.string T] 9))
              have HONE := Lib.hid (TxAt.one wr x wr.heap.size rfl HFX.out)
              rw [HTT.out] at HONE
              have hzw : M ≤ (wr.alloc (.cells #[.string T] 9)).heap.size := by rw [World.size_alloc]; omega
              have HBX : Hid (Below M w (wr.alloc (.cells #[.string T] 9))) := HBW.out.alloc hmw _
              have hkb : k ≤ 2000 := by omega
              clear hc ht hbw hD hE hplE hx hT hDl hki hzE
              go_wp2_with (at_builtin; refine wpList_append_tx rfl _ _ rfl M (.slice A' k c') k (rpX L d i) rfl HW.out (some ⟨wr.heap.size, 0, none⟩) 1 1 [x] rfl HONE.out (by omega) hzw ?_)
              intro v5 w5 hown hgr
              unfold TxO at hown
              obtain ⟨A5, c5, rfl⟩ := own_slice hown
              have HO5 : Hid (w5.ownsRow M 9 1 (.slice A5 (k + 1) c5) (k + 1) ((rpX L d (i + 1)).map encStr)) := by unfold Hid; rw [HE.out]; exact hown
              have HB5 : Hid (Below M w w5) := HBX.out.grown hgr hzw (fun k e => (HW.out.lt k e).1)
              clear hown hgr
              go_wp2_with fail
              refine (HNI.out w5).mono ?_
              rintro e w6 ⟨rfl, hw6⟩
              rw [hw6]
              clear hw6
              have hwz : IntKind.i64.wrap (z + 1) = z + 1 := IntWalk.i64_in _ (by have := HZE.out; omega)
              go_wp2
              go_roundw
              case rel => exact ⟨i + 1, k + 1, A5, c5, by have := HZE.out; rw [show m + ((i + 1 : Nat) : Int) = z + 1 by omega], by rw [HEE.out], rfl, by have := HKI.out; omega, hlt, HO5.out, HB5.out⟩
              case measure => simp only [intOf]; omega
            · subst hki
              have hzn : ¬ z < 0 := by have := HQ.out; omega
              have hz0 : z = 0 := by have := HQ.out; omega
              subst hz0
              obtain rfl : k = q := by omega
              clear hzn hzE
              have hzn : ¬ (0 : Int) < 0 := by omega
              have hmw : M ≤ wr.heap.size := by have q1 := hbw.size; have q2 := HM.out; omega
              have HEMP : Hid ((wr.alloc (.cells #[] 9)).ownsRow M 9 1 (.slice (some ⟨wr.heap.size, 0, none⟩) 0 0) 0 (([] : List Tx).map encStr)) := World.ownsRow_made wr #[] 0 hmw (by decide) rfl
              have HB1b : Hid (Below M w (wr.alloc (.cells #[] 9))) := hbw.alloc hmw _
              have HST := Lib.hid (HA.out.below (w' := wr.alloc (.cells #[] 9)) (by rw [HM.out]; exact HB1b.out))
              have hxz : M ≤ (wr.alloc (.cells #[] 9)).heap.size := by rw [World.size_alloc]; omega
              obtain ⟨A2, c2, e2, h2, _⟩ := tx_of_own HT.out (HRF.out k)
              injection e2 with e2 _ e3
              subst e2 e3
              have HTX := Lib.hid (h2.below ((Below.refl _ _).alloc (Nat.le_refl _) (.cells #[] 9)))
              clear ht hbw h2
              go_wp2_with (at_builtin; refine wpList_append_tx rfl _ _ rfl wr.heap.size (.slice (some ⟨wr.heap.size, 0, none⟩) 0 0) 0 [] rfl (World.ownsRow_made wr #[] 0 (Nat.le_refl _) (by decide) rfl) A n cp L rfl HST.out (by omega) (by rw [World.size_alloc]; omega) ?_)
              intro v5 w5 hown hgr
              have HB5 : Hid (Below wr.heap.size wr w5) := ((Below.refl _ _).alloc (Nat.le_refl _) _).grown hgr (by rw [World.size_alloc]; omega) (fun k e => by have q := (World.ownsRow_made wr #[] 0 (Nat.le_refl _) (by decide) rfl : (wr.alloc (.cells #[] 9)).ownsRow wr.heap.size 9 1 (.slice (some ⟨wr.heap.size, 0, none⟩) 0 0) 0 []).lt k e; exact q.1)
              unfold TxO at hown
              obtain ⟨A5, c5, rfl⟩ := own_slice hown
              have HT5 := Lib.hid ((tx_of_own HT.out (HRF.out k)))
              clear hown hgr
              go_wp2_with fail
              go_loopw [2, 8, 10] (fun dv ov kv wx => dv = .int .u64 (drN d k) ∧ ov = .slice A' k c' ∧ kv = .int .i64 0 ∧ wx = w5) (fun _ _ _ _ => 0)
              case atStart => exact ⟨rfl, rfl, rfl, rfl⟩
              case round =>
                obtain ⟨rfl, rfl, rfl, rfl⟩ := hrel
                go_wp2
                go_ret2
                obtain ⟨A7, c7, e7, h7, _⟩ := HT5.out
                injection e7 with e71 _ e73
                subst e71 e73
                exact ⟨A', k, c', rfl, h7.below HB5.out, HBW.out.trans (HB5.out.mono hmw)⟩
        · rw [smX_pos hr hm hLn hneg]
          obtain ⟨q, hq⟩ : ∃ q, min m.toNat L.length = q := ⟨_, rfl⟩
          have hln := h.len
          have hqn : q ≤ n := by omega
          have HQ : Hid (∀ k : Nat, k < q ↔ ((k : Int) < m ∧ k < n)) := fun k => by omega
          have HDN : Hid (∀ k, (dlX L d k).length = n) := fun k => by rw [dlX_len, h.len]
          have HDP : Hid (∀ k, k ≤ n → ∀ x ∈ dlX L d k, x.length ≤ 140737488355328) := fun k hk x hx => h.fits x ((dlX_perm L d k (by rw [h.len]; exact hk)).mem_iff.1 hx)
          have HDS : Hid (∀ k, k < n → k + drN d k % (n - k) < n ∧ dlX L d (k + 1) = swX (dlX L d k) k (k + drN d k % (n - k))) := fun k hk => by
            have q := dl_at (L := L) (k := k) (by rw [h.len]; exact hk) (drN d k)
            rw [h.len] at q
            refine ⟨q, ?_⟩
            show swX _ _ _ = _
            rw [h.len]
          have HDT : Hid (∀ k, k < n → ∀ x, (dlX L d (k + 1))[k]? = some x → (dlX L d (k + 1)).take (k + 1) = (dlX L d k).take k ++ [x]) := fun k hk x hx => dlX_next d (by rw [h.len]; exact hk) hx
          have HT0 : Hid ((dlX L d 0).take 0 = []) := rfl
          have HL0 : Hid (dlX L d 0 = L) := rfl
          rw [hq]
          have hm3 : ¬ m < -1024 := hm1
          clear h hr hd hM hm hLn hq hln
          go_enter Try.func33, Try.ntmps33
          go_wp2_with fail
          refine HC.out.mono ?_
          rintro e w1 ⟨rfl, hb1⟩
          have HB1 := Lib.hid hb1
          clear hb1
          go_wp2_with fail
          go_loopw [1, 2, 8] (fun nv dv ov wx => nv = .int .i64 m ∧ dv = .int .u64 d ∧ ov = .slice none 0 0 ∧ wx = w1) (fun _ _ _ _ => 0)
          case atStart => exact ⟨rfl, rfl, rfl, rfl⟩
          case round =>
            obtain ⟨rfl, rfl, rfl, rfl⟩ := hrel
            have hmw : M ≤ wr.heap.size := by have q1 := HB1.out.size; have q2 := HM.out; omega
            have HEMP : Hid ((wr.alloc (.cells #[] 9)).ownsRow M 9 1 (.slice (some ⟨wr.heap.size, 0, none⟩) 0 0) 0 (([] : List Tx).map encStr)) := World.ownsRow_made wr #[] 0 hmw (by decide) rfl
            have HB1b : Hid (Below M w (wr.alloc (.cells #[] 9))) := HB1.out.alloc hmw _
            have HST := Lib.hid (HA.out.below (w' := wr.alloc (.cells #[] 9)) (by rw [HM.out]; exact HB1b.out))
            have hxz : M ≤ (wr.alloc (.cells #[] 9)).heap.size := by rw [World.size_alloc]; omega
            go_wp2_with (at_builtin; refine wpList_append_tx rfl _ _ rfl M (.slice (some ⟨wr.heap.size, 0, none⟩) 0 0) 0 [] rfl HEMP.out A n cp L rfl HST.out (by omega) hxz ?_)
            intro v5 w5 hown hgr
            unfold TxO at hown
            have HB5 : Hid (Below M w w5) := HB1b.out.grown hgr hxz (fun k e => (HEMP.out.lt k e).1)
            obtain ⟨A5, c5, rfl⟩ := own_slice hown
            obtain ⟨g, f0, rfl, hMg, hnc, hcm, hrow, hf0⟩ := own_row hown h0
            have HR0 := Lib.hid hrow
            have HF0 := Lib.hid hf0
            have HMG := Lib.hid hMg
            obtain ⟨G, hG⟩ : ∃ G, w5.heap.size = G := ⟨_, rfl⟩
            have HG := Lib.hid hG
            have HgG : Hid (g < G) := by unfold Hid; rw [← hG]; exact hrow.lt
            have HMGG : Hid (M ≤ G) := by have q1 := HB5.out.size; have q2 := HM.out; unfold Hid; omega
            clear hown hgr hrow hf0 hG
            go_wp2_with fail
            go_loopw [2, 8, 10] (fun dv ov kv wx => ∃ (i : Nat) (f : Nat → Value) (k : Nat) (A' : Option Addr) (c' : Nat), dv = .int .u64 (drN d i) ∧ ov = .slice A' k c' ∧ kv = .int .i64 i ∧ k = i ∧ i ≤ q ∧ Below M w wx ∧ G ≤ wx.heap.size ∧ wx.rowIs g 9 c5 f ∧ (∀ j x, (dlX L d i)[j]? = some x → f j = .string ⟨x.toArray⟩) ∧ wx.ownsRow G 9 1 (.slice A' k c') k (((dlX L d i).take i).map encStr)) (fun _ _ kv _ => q - (intOf kv).toNat)
            case atStart => exact ⟨0, f0, 0, none, 0, by rw [HD0.out], rfl, rfl, rfl, Nat.zero_le _, HB5.out, by rw [HG.out]; exact Nat.le_refl _, HR0.out, HF0.out, by rw [HT0.out]; exact ⟨rfl, Or.inl ⟨rfl, rfl⟩⟩⟩
            case round =>
              obtain ⟨i, f, k, A', c', rfl, rfl, rfl, hki, hi, hb, hGw, hr, hf, ho⟩ := hrel
              have HB := Lib.hid hb
              have HKI := Lib.hid hki
              by_cases hlt : i < q
              · obtain ⟨hlm, hin⟩ := (HQ.out i).1 hlt
                obtain ⟨hat, hsw⟩ := HDS.out i hin
                have HSW := Lib.hid hsw
                have HNI := Lib.hid (HNX.out i)
                have hDl := HDL.out i
                obtain ⟨D, hD⟩ : ∃ D, drN d i = D := ⟨_, rfl⟩
                obtain ⟨E, hE⟩ : ∃ E, drN d (i + 1) = E := ⟨_, rfl⟩
                have HE := Lib.hid hE
                rw [hD] at HNI HSW hat hDl ⊢
                rw [hE] at HNI
                obtain ⟨nk, hnk⟩ : ∃ nk, n - i = nk := ⟨_, rfl⟩
                rw [hnk] at HSW hat
                have hnk0 : 0 < nk := by omega
                have hplt := Nat.mod_lt D hnk0
                have r0 : IntKind.i64.wrap ((n : Int) - (i : Int)) = (nk : Int) := by rw [IntWalk.i64_in _ (by omega)]; omega
                have r1 : IntKind.u64.wrap (nk : Int) = (nk : Int) := IntWalk.u64_in _ (by omega)
                have r2 : (D : Int).tmod (nk : Int) = ((D % nk : Nat) : Int) := by rw [Int.tmod_eq_emod_of_nonneg (by omega)]; rfl
                have r3 : IntKind.u64.wrap ((D % nk : Nat) : Int) = ((D % nk : Nat) : Int) := IntWalk.u64_in _ (by omega)
                have r4 : IntKind.i64.wrap ((D % nk : Nat) : Int) = ((D % nk : Nat) : Int) := IntWalk.i64_in _ (by omega)
                have r5 : (D : Int) % (nk : Int) = ((D % nk : Nat) : Int) := rfl
                have r6 : ¬ (nk : Int) = 0 := by omega
                obtain ⟨pl, hpl⟩ : ∃ pl, D % nk = pl := ⟨_, rfl⟩
                rw [hpl] at HSW hat hplt r2 r3 r4 r5
                obtain ⟨at', hat'⟩ : ∃ q, i + pl = q := ⟨_, rfl⟩
                rw [hat'] at HSW hat
                have r7 : IntKind.i64.wrap ((i : Int) + (pl : Int)) = (at' : Int) := by rw [IntWalk.i64_in _ (by omega)]; omega
                have hlt2 : (i : Int) < (n : Int) := by omega
                have hlt3 : (at' : Int) < (n : Int) := by omega
                obtain ⟨x, hx⟩ : ∃ x, (dlX L d i)[i]? = some x := ⟨_, List.getElem?_eq_getElem (by rw [HDN.out]; omega)⟩
                obtain ⟨y, hy⟩ : ∃ y, (dlX L d i)[at']? = some y := ⟨_, List.getElem?_eq_getElem (by rw [HDN.out]; omega)⟩
                obtain ⟨X, hX⟩ : ∃ X : ByteArray, (⟨x.toArray⟩ : ByteArray) = X := ⟨_, rfl⟩
                obtain ⟨Y, hY⟩ : ∃ Y : ByteArray, (⟨y.toArray⟩ : ByteArray) = Y := ⟨_, rfl⟩
                have c0 := hr.cell (i := i) (by omega)
                have c1' := hr.cell (i := at') (by omega)
                have f0' := hr.frozen i
                have f1' := hr.frozen at'
                rw [hf i x hx, hX] at c0
                rw [hf at' y hy, hY] at c1'
                obtain ⟨v1, hv1⟩ : ∃ v1, (wr.setCell ⟨g, i, none⟩ (.string Y)).cell? ⟨g, at', none⟩ = some v1 := ⟨_, (hr.set i (.string Y)).cell (i := at') (by omega)⟩
                obtain ⟨v2, hv2⟩ : ∃ v2, (wr.setCell ⟨g, at', none⟩ (.string X)).cell? ⟨g, i, none⟩ = some v2 := ⟨_, (hr.set at' (.string X)).cell (i := i) (by omega)⟩
                have fz1 := (hr.set i (.string Y)).frozen at'
                have fz2 := (hr.set at' (.string X)).frozen i
                obtain ⟨z, hzG⟩ : ∃ z, (dlX L d (i + 1))[i]? = some z := ⟨_, List.getElem?_eq_getElem (by rw [HDN.out]; omega)⟩
                have HTN := Lib.hid (HDT.out i hin z hzG)
                have HFZ : Hid (z.length ≤ 140737488355328) := HDP.out (i + 1) (by omega) z (List.mem_of_getElem? hzG)
                have HMV : Hid (∀ w6, ((wr.setCell ⟨g, i, none⟩ (.string Y)).setCell ⟨g, at', none⟩ (.string X)).drew = w6 → Below M w w6 ∧ G ≤ w6.heap.size ∧ w6.ownsRow G 9 1 (.slice A' k c') k (((dlX L d i).take i).map encStr) ∧ ∃ f', w6.rowIs g 9 c5 f' ∧ ∀ j z, (dlX L d (i + 1))[j]? = some z → f' j = .string ⟨z.toArray⟩) := fun w6 h6 => by
                  subst h6
                  refine ⟨((hb.setCell hMg _).setCell hMg _).drew, by simpa [World.setCell, World.drew] using hGw, ?_, _, ((hr.set i (.string Y)).set at' (.string X)).drew, fun j z hz => ?_⟩
                  · refine (ho.kept (row := some g) ⟨rfl, rfl, rfl, by simp [World.setCell, World.drew], fun u _ hne => ?_⟩ ?_)
                    · have hug : u ≠ g := fun e => hne (by rw [e])
                      exact (Below.heap_setCell _ _ _ _ hug).trans (Below.heap_setCell _ _ _ _ hug)
                    · cases hv : (Value.slice A' k c').ownBlock with
                      | none => exact Or.inl rfl
                      | some u => exact Or.inr (fun e => by have q1 := (ho.lt u hv).1; have q2 := HgG.out; injection e with e; omega)
                  · rw [HSW.out, swX_get (by rw [HDN.out]; omega) (by rw [HDN.out]; exact hat)] at hz
                    by_cases q1 : j = at'
                    · rw [if_pos q1, hx] at hz
                      rw [if_pos q1, ← hX, Option.some.inj hz]
                    · rw [if_neg q1] at hz ⊢
                      by_cases q2 : j = i
                      · rw [if_pos q2, hy] at hz
                        rw [if_pos q2, ← hY, Option.some.inj hz]
                      · rw [if_neg q2] at hz ⊢
                        exact hf j z hz
                have HZG := Lib.hid hzG
                have hkb : k ≤ 1000000 := by omega
                clear hb hr hf ho hat hsw hD hE hnk hpl hat' hx hy hX hY hzG hplt hDl hki hGw
                go_wp2_with fail
                go_region
                all_goals
                  obtain ⟨w6, hw6⟩ : ∃ w6, ((wr.setCell ⟨g, i, none⟩ (.string Y)).setCell ⟨g, at', none⟩ (.string X)).drew = w6 := ⟨_, rfl⟩
                  obtain ⟨m1, m2, m3, f', m4, m5⟩ := HMV.out w6 hw6
                  rw [hw6]
                  have k0 := m4.cell (i := i) (by omega)
                  rw [m5 i z HZG.out] at k0
                  have HM1 := Lib.hid m1
                  have HR6 := Lib.hid m4
                  have HF6 := Lib.hid m5
                  have HO6 := Lib.hid m3
                  obtain ⟨T, hT⟩ : ∃ T : ByteArray, (⟨z.toArray⟩ : ByteArray) = T := ⟨_, rfl⟩
                  rw [hT] at k0
                  have HONE := Lib.hid (TxAt.one w6 z w6.heap.size rfl HFZ.out)
                  rw [hT] at HONE
                  have HW := Lib.hid (World.ownsRow.alloc (w := w6) m3 (.cells #[.string T] 9))
                  have hzw : G ≤ (w6.alloc (.cells #[.string T] 9)).heap.size := by rw [World.size_alloc]; omega
                  have HBX : Hid (Below M w (w6.alloc (.cells #[.string T] 9))) := m1.alloc (by have := HMGG.out; omega) _
                  have HRX : Hid ((w6.alloc (.cells #[.string T] 9)).rowIs g 9 c5 f') := m4.alloc _
                  clear hw6 c0 c1' f0' f1' hv1 hv2 fz1 fz2 m1 m3 m4 m5 hT
                  go_wp2_with (at_builtin; refine wpList_append_tx rfl _ _ rfl G (.slice A' k c') k ((dlX L d i).take i) rfl HW.out (some ⟨w6.heap.size, 0, none⟩) 1 1 [z] rfl HONE.out (by omega) hzw ?_)
                  intro v7 w7 hown hgr
                  unfold TxO at hown
                  obtain ⟨A7, c7, rfl⟩ := own_slice hown
                  have HO7 : Hid (w7.ownsRow G 9 1 (.slice A7 (k + 1) c7) (k + 1) (((dlX L d (i + 1)).take (i + 1)).map encStr)) := by unfold Hid; rw [HTN.out]; exact hown
                  have HB7 : Hid (Below M w w7) := HBX.out.grown hgr (Nat.le_trans HMGG.out hzw) (fun k e => Nat.le_trans HMGG.out (HW.out.lt k e).1)
                  have HR7 : Hid (w7.rowIs g 9 c5 f') := HRX.out.of_block (hgr.block g HRX.out.lt (fun e => by have q1 := (HW.out.lt g e.symm).1; have q2 := HgG.out; omega))
                  have hG7 : G ≤ w7.heap.size := Nat.le_trans hzw hgr.size
                  clear hown hgr
                  go_wp2_with fail
                  refine (HNI.out w7).mono ?_
                  rintro e w8 ⟨rfl, hw8⟩
                  rw [hw8]
                  clear hw8
                  go_wp2
                  go_roundw
                  case rel => exact ⟨i + 1, f', k + 1, A7, c7, by rw [HE.out], rfl, by go_num, by have := HKI.out; omega, hlt, HB7.out, hG7, HR7.out, HF6.out, HO7.out⟩
                  case measure => simp only [intOf]; omega
              · subst hki
                obtain rfl : k = q := by omega
                have HOO := Lib.hid ho
                obtain ⟨A2, c2, e2, h2, _⟩ := tx_of_own ho (fun x hx => HDP.out k hqn x (List.mem_of_mem_take hx))
                injection e2 with e2 _ e3
                subst e2 e3
                have HT2 := Lib.hid h2
                have hnot : ¬ ((k : Int) < m ∧ k < n) := fun e => absurd ((HQ.out k).2 e) (Nat.lt_irrefl _)
                have hnot2 : ¬ (k : Int) < m ∨ ((k : Int) < m ∧ ¬ (k : Int) < (n : Int)) := by omega
                clear hb hr hf ho h2 hnot hlt
                rcases hnot2 with hk1 | ⟨hk1, hk2⟩
                · go_wp2
                  go_ret2
                  exact ⟨A', k, c', rfl, HT2.out, HB.out⟩
                · go_wp2
                  go_ret2
                  exact ⟨A', k, c', rfl, HT2.out, HB.out⟩
  · rw [ckX_no hr] at HC
    rw [(smX_no hr m d).1, (smX_no hr m d).2]
    clear h hr hd hM
    go_enter Try.func33, Try.ntmps33
    go_wp2_with fail
    refine HC.out.mono ?_
    rintro e w1 ⟨rfl, hb1⟩
    have HB1 := Lib.hid hb1
    clear hb1
    go_wp2
    go_ret2
    exact ⟨none, 0, 0, rfl, TxAt.nil _, HB1.out⟩

end Go.Proofs.Ytkobhlhkkpnmkaa
