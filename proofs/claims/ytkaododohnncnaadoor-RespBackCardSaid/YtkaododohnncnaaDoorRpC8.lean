/-
  The walk of the statement RespBack: it answers true. Conditions: the table of powers of ten holds what its own text lays; the texts and the bytes behind lie in memory as slices that read as them.
-/
import Derived.Test.YtkaododohnncnaaDoorRwR
import Derived.Test.YtkaododohnncnaaDoorRpP
import Derived.Test.YtkaododohnncnaaDoorRpK
namespace Go.Proofs.YtkaododohnncnaaDoor
open Go.RowKit

theorem SrcAt.take {w : World} {A : Option Addr} {c : Nat} {l : List UInt8} (h : SrcAt w (.slice A l.length c) l) (k : Nat) : SrcAt w (.slice A (l.take k).length c) (l.take k) := by
  obtain ⟨A', c', h1, h2, h3, h4, h5⟩ := h
  simp only [Value.slice.injEq, true_and] at h1
  obtain ⟨rfl, rfl⟩ := h1
  have hl : (l.take k).length = min k l.length := List.length_take
  refine ⟨A, c, rfl, by omega, h3, h4, fun ad e j hj => ?_⟩
  rw [h5 ad e j (by omega)]
  rw [List.getD_eq_getElem?_getD, List.getD_eq_getElem?_getD, List.getElem?_take, if_pos (by omega)]

theorem cut_src (A : Option Addr) (c : Nat) (l : List UInt8) (w : World) (h : SrcAt w (.slice A l.length c) l) :
    Calls Tryd.prog 14 #[.slice A l.length c] w fun e w' => e = .returned (.slice A (l.take 300000).length c) ∧ w = w' := by
  obtain ⟨A', c', h1, h2, h3, h4, h5⟩ := h
  simp only [Value.slice.injEq, true_and] at h1
  obtain ⟨rfl, rfl⟩ := h1
  have hl : (l.take 300000).length = min 300000 l.length := List.length_take
  rcases Nat.lt_or_ge 300000 l.length with hlt | hge
  · rw [hl, show min 300000 l.length = 300000 from by omega]
    rcases A with _ | a
    · have := h4 rfl; omega
    · exact cut_long a l.length c w hlt h2 h3
  · rw [hl, show min 300000 l.length = l.length from by omega]
    exact cut_short _ _ _ w hge

theorem strs_at {w : World} {LA : Option Addr} {b o n cap : Nat} {ws : List (List UInt8)} (hn : ws.length = n) (hLA : 0 < n → LA = some ⟨b, o, none⟩) (hc : ∀ i t, ws[i]? = some t → w.cell? ⟨b, o + i, none⟩ = some (strV t)) : StrsAt w (.slice LA n cap) ws := by
  refine ⟨LA, cap, by rw [List.length_map, hn], fun hne => ⟨b, o, hLA ?_, fun j u hu => ?_⟩⟩
  · rw [← hn]
    rcases ws with _ | _
    · simp at hne
    · simp
  · rw [List.getElem?_map] at hu
    cases hw : ws[j]? with
    | none => rw [hw] at hu; simp at hu
    | some t =>
      rw [hw] at hu
      simp only [Option.map_some, Option.some.injEq] at hu
      subst hu
      exact hc j t hw

/-- A nil slice of bytes as a text. -/
theorem conv_nil (w : World) : (convert 23 9 (.slice none 0 0)).run Tryd.prog w = .ok (.string ⟨#[]⟩) w := by
  rw [run_convert_bytes_string _ _ _ 5 _ _ _ Tryd.underlying23 Tryd.underlying5 Tryd.underlying9]
  rfl

theorem writeE_big {ws : List (List UInt8)} (h : 1024 < ws.length) : writeE ws = 3 := by
  unfold writeE
  rw [if_neg (by omega), if_pos h]

set_option maxRecDepth 100000 in
set_option maxHeartbeats 8000000 in
theorem respBack_walk (LA : Option Addr) (b o cap n : Nat) (ws : List (List UInt8)) (TV : Value) (tl : List UInt8) (w : World) (hn : ws.length = n) (hcap : n ≤ cap) (hcm : cap ≤ 140737488351232) (hLA : 0 < n → LA = some ⟨b, o, none⟩) (hc : ∀ i t, ws[i]? = some t → w.cell? ⟨b, o + i, none⟩ = some (strV t))
    (hsz : ∀ t ∈ ws, t.length ≤ 9223372036854775807) (hT : SrcAt w TV tl) (hp : Pows w) (hB : 0 < w.heap.size) :
    Calls Tryd.prog 3 #[.slice LA n cap, TV] w fun e w' => e = .returned (.bool true) ∧ Below w.heap.size w w' := by
  obtain ⟨TA, tc, rfl⟩ := hT.form
  have HT := Lib.hid hT
  have HN := Lib.hid hn
  have HLA := Lib.hid hLA
  have HC := Lib.hid hc
  have HSZ := Lib.hid hsz
  have HP := Lib.hid hp
  have HAW := Lib.hid (awake_any w)
  have hbw : ∀ i t, ws[i]? = some t → b < w.heap.size := fun i t h => World.block_lt_of_cell? w _ (hc i t h)
  have HBW := Lib.hid hbw
  clear hn hLA hc hsz hp hT hbw
  rcases Nat.lt_or_ge 2000 n with h2 | h2
  · obtain rfl : LA = some ⟨b, o, none⟩ := HLA.out (by omega)
    have hl2 : (ws.take 2000).length = 2000 := by rw [List.length_take, HN.out]; omega
    have hE := writeE_big (show 1024 < (ws.take 2000).length by omega)
    have hcv := conv_nil
    go_enter Tryd.func3, Tryd.ntmps3
    go_wp2_with fail
    refine HAW.out.mono ?_
    rintro e w1 ⟨rfl, hb1⟩
    have hz1 := hb1.size
    have HB1 := Lib.hid hb1
    have hcell1 : ∀ i t, (ws.take 2000)[i]? = some t → w1.cell? ⟨b, o + i, none⟩ = some (strV t) := fun i t h => by
      have hw : ws[i]? = some t := by
        rw [List.getElem?_take] at h
        split at h
        · exact h
        · cases h
      exact (HB1.out.cell (p := ⟨b, o + i, none⟩) (HBW.out i t hw)).trans (HC.out i t hw)
    have HW1 := Lib.hid (pwrite_any (some ⟨b, o, none⟩) b o cap 2000 (ws.take 2000) w1 hl2 (fun _ => rfl) hcell1 (by omega) (fun t ht => HSZ.out t (List.mem_of_mem_take ht)) (HP.out.on HB1.out hB) (by omega))
    have HW2 := Lib.hid (fun w2 (hb2 : Below w1.heap.size w1 w2) => rwrite_any (some ⟨b, o, none⟩) b o cap 2000 (ws.take 2000) w2 hl2 (fun _ => rfl) (fun i t h => (hb2.cell (p := ⟨b, o + i, none⟩) (by
      have := World.block_lt_of_cell? w1 _ (hcell1 i t h); exact this)).trans (hcell1 i t h)) (by omega) (fun t ht => HSZ.out t (List.mem_of_mem_take ht)) (HP.out.on (HB1.out.trans (hb2.mono hz1)) hB) (by have := hb2.size; omega))
    have HE := Lib.hid hE
    clear hb1 hcell1 hl2 hE
    go_wp2_with fail
    refine HW1.out.mono ?_
    rintro e w2 ⟨hb2, ⟨_, rfl⟩ | ⟨he, _⟩⟩
    · have HB2 := Lib.hid hb2
      rw [HE.out]
      clear hb2
      go_wp2_with fail
      refine (HW2.out w2 HB2.out).mono ?_
      rintro e w3 ⟨hb3, ⟨_, rfl⟩ | ⟨he, _⟩⟩
      · have HB3 := Lib.hid ((HB1.out.trans (HB2.out.mono hz1)).trans (hb3.mono (by have := HB2.out.size; omega)))
        rw [HE.out]
        clear hb3
        go_wp2
        go_ret
        exact ⟨rfl, HB3.out⟩
      · exfalso; rw [HE.out] at he; cases he
    · exfalso; rw [HE.out] at he; cases he
  · go_enter Tryd.func3, Tryd.ntmps3
    go_wp2_with fail
    refine HAW.out.mono ?_
    rintro e w1 ⟨rfl, hb1⟩
    have hz1 := hb1.size
    have HB1 := Lib.hid hb1
    have hcell1 : ∀ i t, ws[i]? = some t → w1.cell? ⟨b, o + i, none⟩ = some (strV t) := fun i t hw =>
      (HB1.out.cell (p := ⟨b, o + i, none⟩) (HBW.out i t hw)).trans (HC.out i t hw)
    have HW1 := Lib.hid (pwrite_any LA b o cap n ws w1 HN.out HLA.out hcell1 (by omega) HSZ.out (HP.out.on HB1.out hB) (by omega))
    have HW2 := Lib.hid (fun w2 (hb2 : Below w1.heap.size w1 w2) => rwrite_any LA b o cap n ws w2 HN.out HLA.out (fun i t h => (hb2.cell (p := ⟨b, o + i, none⟩) (by
      have := World.block_lt_of_cell? w1 _ (hcell1 i t h); exact this)).trans (hcell1 i t h)) (by omega) HSZ.out (HP.out.on (HB1.out.trans (hb2.mono hz1)) hB) (by have := hb2.size; omega))
    clear hb1 hcell1
    go_wp2_with fail
    refine HW1.out.mono ?_
    rintro e w2 ⟨hb2, ⟨hne, rfl⟩ | ⟨he, v, rfl, hown⟩⟩
    · have HB2 := Lib.hid hb2
      have hcv := conv_nil
      obtain ⟨E, hE⟩ : ∃ E, writeE ws = E := ⟨_, rfl⟩
      have HE := Lib.hid hE
      rw [hE] at hne ⊢
      have hne2 : (E == 0) = false := by simpa using hne
      have hne3 : (!E == 0) = true := by rw [hne2]; rfl
      clear hb2 hE
      go_wp2_with fail
      refine (HW2.out w2 HB2.out).mono ?_
      rintro e w3 ⟨hb3, ⟨_, rfl⟩ | ⟨he, _⟩⟩
      · have HB3 := Lib.hid ((HB1.out.trans (HB2.out.mono hz1)).trans (hb3.mono (by have := HB2.out.size; omega)))
        rw [HE.out]
        clear hb3
        go_wp2
        go_ret
        exact ⟨rfl, HB3.out⟩
      · exfalso; exact hne (HE.out.symm.trans he)
    · have hws : ws ≠ [] := fun e => by rw [e] at he; revert he; decide
      have hw1024 : ws.length ≤ 1024 := by
        rcases Nat.lt_or_ge 1024 ws.length with h | h
        · rw [writeE_big h] at he; cases he
        · exact h
      have hall : ∀ t ∈ ws, t.length ≤ 65536 := by
        unfold writeE at he
        rw [if_neg (fun h => hws (List.length_eq_zero_iff.1 h)), if_neg (by omega)] at he
        split at he
        · assumption
        · cases he
      obtain ⟨Ar, M, E, hsp⟩ := splitS_write ws (tl.take 300000) hws hw1024 hall
      have hbl : (writeB ws).length ≤ 67300000 := by
        have := writeK_le ws hall hw1024 ws.length (Nat.le_refl _)
        rw [writeK_all] at this
        omega
      have HWS := Lib.hid (show ws.length ≤ 1099511627776 by omega)
      obtain ⟨Bt, hBt⟩ : ∃ B, writeB ws = B := ⟨_, rfl⟩
      unfold WrtPost at HW2
      rw [hBt] at hown hsp hbl HW2
      rcases hown.2 with ⟨hv0, hl0⟩ | ⟨g2, cap2, cur2, rfl, hg2, hh2, hn2, hm2, _⟩
      · exfalso
        have : (writeB ws).length = 0 := by rw [hBt]; exact hl0
        simp [writeB] at this
      have HSP := Lib.hid hsp
      have HO2 := Lib.hid hown
      have HB2 := Lib.hid hb2
      have HE := Lib.hid he
      have hz2 := hb2.size
      clear hb2 hown hBt hsp hws hall he hw1024 hh2
      go_wp2_with fail
      refine (HW2.out w2 HB2.out).mono ?_
      rintro e w3 ⟨hb3, ⟨hne, _⟩ | ⟨_, v3, rfl, hT3⟩⟩
      · exfalso; exact hne HE.out
      obtain ⟨g3, c3, rfl, k1, k2, k3, k4, k5, hby3⟩ := hT3
      have hz3 := hb3.size
      have HB3 := Lib.hid ((HB1.out.trans (HB2.out.mono hz1)).trans (hb3.mono (by omega)))
      have HO3 := Lib.hid (ownsRow_below HO2.out hb3)
      have hcv1 := conv_bytes w3 g2 0 cap2 Bt (own_bytes HO3.out)
      have hcv3 := conv_bytes w3 g3 0 c3 Bt hby3
      have hsrc3 := HT.out.below HB3.out
      have HCT := Lib.hid (cut_src TA tc tl w3 hsrc3)
      have HS3 := Lib.hid (hsrc3.take 300000)
      have htl : (tl.take 300000).length ≤ 300000 := List.length_take_le _ _
      obtain ⟨tx, htx⟩ : ∃ x, tl.take 300000 = x := ⟨_, rfl⟩
      rw [htx] at HCT HS3 HSP htl
      obtain ⟨TB, hTB⟩ : ∃ T : ByteArray, ⟨Bt.toArray⟩ = T := ⟨_, rfl⟩
      rw [hTB] at hcv1 hcv3
      have hzw3 : w1.heap.size ≤ w3.heap.size := by omega
      clear hb3 k1 k2 k3 k4 k5 hby3 hsrc3 htx hTB HW2 HW1
      go_wp2_with fail
      refine HCT.out.mono ?_
      rintro e w' ⟨rfl, rfl⟩
      have hown3 := HO3.out
      have hsr3 := HS3.out
      go_wp2_with (at_builtin; refine wpList_append_src rfl _ _ rfl w1.heap.size _ Bt rfl hown3 _ tx rfl hsr3 ?c1 ?c2 ?c3 ?_)
      case c1 => unfold maxLen; omega
      case c2 => omega
      case c3 => exact hzw3
      intro v4 w4 hown4 hgr4 _ _
      try rw [← List.length_append] at hown4
      have hz4 := hgr4.size
      have HB4 := Lib.hid (HB3.out.grown hgr4 (by omega) (fun k hk => by have := (own_lt hown3 hk).1; omega))
      have hyl : (Bt ++ tx).length ≤ 1099511627776 := by rw [List.length_append]; omega
      obtain ⟨Y, hY⟩ : ∃ Y, Bt ++ tx = Y := ⟨_, rfl⟩
      rw [hY] at hown4 HSP hyl
      obtain ⟨A4, c4, rfl⟩ := ownsRow_form hown4
      have HSS := Lib.hid (psplit_own c4 A4 Y w1.heap.size w4 hown4 hyl)
      unfold SplitPost at HSS
      rw [HSP.out] at HSS
      dsimp only at HSS
      clear hown3 hsr3 hown4 hgr4 hcv1 hcv3 hY
      go_wp2_with fail
      refine HSS.out.mono ?_
      rintro e w5 ⟨hb5, vl, rfl, vs, hv1, hv2, hv3⟩
      rcases hv2.2 with ⟨_, hl0⟩ | ⟨g5, cap5, cur5, rfl, hg5, hh5, hn5, hm5, _⟩
      · simp at hl0
      rw [List.length_cons] at hn5
      have hz5 := hb5.size
      have HB5 := Lib.hid (HB4.out.trans (hb5.mono (by omega)))
      obtain ⟨u, us, rfl⟩ : ∃ u us, vs = u :: us := by
        rcases vs with _ | ⟨u, us⟩
        · simp at hv1
        · exact ⟨u, us, rfl⟩
      have hu5 := hv2.cells (g := g5) rfl 0 u rfl
      have hown5 := hv3 0 u ws rfl rfl
      rw [Go.WideShapes.add_plain] at hu5
      have hal : Below w5.heap.size w5 (w5.alloc (.cells #[.slice LA n cap] 22)) := (Below.refl _ _).alloc (Nat.le_refl _) _
      have hlt5 : g5 < w5.heap.size := (Array.getElem?_eq_some_iff.1 hh5).1
      have hstr : StrsAt (w5.alloc (.cells #[.slice LA n cap] 22)) (.slice LA n cap) ws := strs_at HN.out HLA.out (fun i t h => ((HB5.out.trans (hal.mono (by have := HB5.out.size; omega))).cell (p := ⟨b, o + i, none⟩) (HBW.out i t h)).trans (HC.out i t h))
      have HSA := Lib.hid (rsame_eq g5 0 w5.heap.size 0 cap5 1 [u] [.slice LA n cap] [ws] (w5.alloc (.cells #[.slice LA n cap] 22)) rfl rfl (by simp) (fun i r h => by
          rcases i with _ | i
          · simp at h; rw [← h]; exact HWS.out
          · simp at h)
        (fun j x h => by
          rcases j with _ | j
          · simp at h; rw [← h]; exact (hal.cell (p := ⟨g5, 0, none⟩) hlt5).trans hu5
          · simp at h)
        (fun j x h => by
          rcases j with _ | j
          · simp at h; rw [← h]; exact (cell_in (World.alloc_heap_new w5 _)).trans rfl
          · simp at h)
        (fun i x r h h' => by
          rcases i with _ | i
          · simp at h h'; rw [← h, ← h']; exact SliceAt.of_own (by rw [List.length_map]; exact ownsRow_below hown5 hal)
          · simp at h)
        (fun i x r h h' => by
          rcases i with _ | i
          · simp at h h'; rw [← h, ← h']; exact hstr
          · simp at h))
      rw [show ([ws] : List (List (List UInt8))).length = 1 from rfl] at HSA
      have HFIN := Lib.hid (fun q => below_drewN (HB5.out.trans (hal.mono (by have := HB5.out.size; omega))) q)
      obtain ⟨K, hK⟩ : ∃ K, (ws :: Ar).length = K := ⟨_, rfl⟩
      have hKp : 1 ≤ K := by rw [← hK]; simp
      rw [hK]
      rw [List.length_cons] at hK
      have hKc : K ≤ cap5 := by omega
      clear hal hstr hv1 hv2 hv3 hu5 hown5 hb5 hh5 HSS hn5 hK
      go_wp2_with fail
      refine HSA.out.mono ?_
      rintro e w6 ⟨rfl, q, rfl⟩
      go_wp2
      go_ret
      refine ⟨?_, HFIN.out q⟩
      show Ending.returned (.bool (decide ((Bt.length : Int) ≤ (Bt.length : Int) + (M : Int)))) = .returned (.bool true)
      rw [decide_eq_true (by omega)]

end Go.Proofs.YtkaododohnncnaaDoor
