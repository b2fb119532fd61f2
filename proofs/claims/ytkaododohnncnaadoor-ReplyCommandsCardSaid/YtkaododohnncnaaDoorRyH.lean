/-
  The walk of the statement ReplyCommands: it answers true. Conditions: the table of powers of ten holds what its own text lays; the texts lie in memory as a slice that reads as them.
-/
import Derived.Test.YtkaododohnncnaaDoorRyG
import Derived.Test.YtkaododohnncnaaDoorRrB
namespace Go.Proofs.YtkaododohnncnaaDoor
open Go.RowKit

/-- A nil slice of bytes as a text. -/
theorem conv_nil_y (w : World) : (convert 23 9 (.slice none 0 0)).run Tryd.prog w = .ok (.string ⟨#[]⟩) w := by
  rw [run_convert_bytes_string _ _ _ 5 _ _ _ Tryd.underlying23 Tryd.underlying5 Tryd.underlying9]
  rfl

set_option maxRecDepth 100000 in
set_option maxHeartbeats 8000000 in
theorem replyCommands_walk (LA : Option Addr) (b o cap n : Nat) (ws : List (List UInt8)) (w : World) (hn : ws.length = n) (hcap : n ≤ cap) (hcm : cap ≤ 140737488351232) (hLA : 0 < n → LA = some ⟨b, o, none⟩) (hc : ∀ i t, ws[i]? = some t → w.cell? ⟨b, o + i, none⟩ = some (strV t))
    (hsz : ∀ t ∈ ws, t.length ≤ 9223372036854775807) (hp : Pows w) (hB : 0 < w.heap.size) :
    Calls Tryd.prog 7 #[.slice LA n cap] w fun e w' => e = .returned (.bool true) ∧ Below w.heap.size w w' := by
  have HN := Lib.hid hn
  have HLA := Lib.hid hLA
  have HC := Lib.hid hc
  have HSZ := Lib.hid hsz
  have HP := Lib.hid hp
  have hbw : ∀ i t, ws[i]? = some t → b < w.heap.size := fun i t h => World.block_lt_of_cell? w _ (hc i t h)
  have HBW := Lib.hid hbw
  clear hn hLA hc hsz hp hbw
  rcases Nat.lt_or_ge 2000 n with h2 | h2
  · obtain rfl : LA = some ⟨b, o, none⟩ := HLA.out (by omega)
    have hl2 : (ws.take 2000).length = 2000 := by rw [List.length_take, HN.out]; omega
    have hcell0 : ∀ i t, (ws.take 2000)[i]? = some t → w.cell? ⟨b, o + i, none⟩ = some (strV t) := fun i t h => by
      have hw : ws[i]? = some t := by
        rw [List.getElem?_take] at h
        split at h
        · exact h
        · cases h
      exact HC.out i t hw
    have HW1 := Lib.hid (pcommand_any (some ⟨b, o, none⟩) b o cap 2000 (ws.take 2000) w hl2 (fun _ => rfl) hcell0 (by omega) (fun t ht => HSZ.out t (List.mem_of_mem_take ht)) HP.out hB)
    have HW2 := Lib.hid (fun w2 (hb2 : Below w.heap.size w w2) => rcommand_any (some ⟨b, o, none⟩) b o cap 2000 (ws.take 2000) w2 hl2 (fun _ => rfl) (fun i t h => (hb2.cell (p := ⟨b, o + i, none⟩) (World.block_lt_of_cell? w _ (hcell0 i t h))).trans (hcell0 i t h)) (by omega) (fun t ht => HSZ.out t (List.mem_of_mem_take ht)))
    obtain ⟨us, hus⟩ : ∃ us, ws.take 2000 = us := ⟨_, rfl⟩
    rw [hus] at HW1 HW2
    clear hl2 hcell0 hus
    go_enter Tryd.func7, Tryd.ntmps7
    go_wp2_with fail
    refine HW1.out.mono ?_
    rintro e w1 ⟨hb1, ⟨hne, rfl⟩ | ⟨he, v1, rfl, hown1⟩⟩
    · have HB1 := Lib.hid hb1
      have hcv := conv_nil_y
      obtain ⟨E, hE⟩ : ∃ E, cmdE us = E := ⟨_, rfl⟩
      have HE := Lib.hid hE
      rw [hE] at hne ⊢
      clear hb1 hE
      go_wp2_with fail
      refine (HW2.out w1 HB1.out).mono ?_
      rintro e w2 ⟨hb2, ⟨_, rfl⟩ | ⟨he, _⟩⟩
      · have HB2 := Lib.hid (HB1.out.trans (hb2.mono HB1.out.size))
        rw [HE.out]
        have HAL := Lib.hid (yalive_any w2 (HP.out.on HB2.out hB) (by have := HB2.out.size; omega))
        clear hb2
        go_wp2_with fail
        refine HAL.out.mono ?_
        rintro e w3 ⟨rfl, hb3⟩
        have HB3 := Lib.hid (HB2.out.trans (hb3.mono HB2.out.size))
        clear hb3
        go_wp2
        go_ret
        exact ⟨rfl, HB3.out⟩
      · exfalso; exact hne (HE.out.symm.trans he)
    · rcases hown1.2 with ⟨hv0, hl0⟩ | ⟨g1, c1, cur1, rfl, hg1, hh1, _⟩
      · simp [writeB] at hl0
      have HB1 := Lib.hid hb1
      have HO1 := Lib.hid hown1
      have HE := Lib.hid he
      clear hb1 hown1 hh1 he
      go_wp2_with fail
      refine (HW2.out w1 HB1.out).mono ?_
      rintro e w2 ⟨hb2, ⟨hne, _⟩ | ⟨_, v2, rfl, hT2⟩⟩
      · exfalso; exact hne HE.out
      obtain ⟨g2, c2, rfl, _, _, _, _, _, hby2⟩ := hT2
      have HB2 := Lib.hid (HB1.out.trans (hb2.mono HB1.out.size))
      have hcv1 := conv_bytes w2 g1 0 c1 (writeB us) (own_bytes (ownsRow_below HO1.out hb2))
      have hcv2 := conv_bytes w2 g2 0 c2 (writeB us) hby2
      have HAL := Lib.hid (yalive_any w2 (HP.out.on HB2.out hB) (by have := HB2.out.size; omega))
      obtain ⟨Y, hY⟩ : ∃ Y, writeB us = Y := ⟨_, rfl⟩
      obtain ⟨TB, hTB⟩ : ∃ T : ByteArray, ⟨Y.toArray⟩ = T := ⟨_, rfl⟩
      rw [hY, hTB] at hcv1 hcv2
      rw [hY]
      clear hb2 hby2 hY hTB
      go_wp2_with fail
      refine HAL.out.mono ?_
      rintro e w3 ⟨rfl, hb3⟩
      have HB3 := Lib.hid (HB2.out.trans (hb3.mono HB2.out.size))
      clear hb3
      go_wp2
      go_ret
      exact ⟨rfl, HB3.out⟩
  · have HW1 := Lib.hid (pcommand_any LA b o cap n ws w HN.out HLA.out HC.out (by omega) HSZ.out HP.out hB)
    have HW2 := Lib.hid (fun w2 (hb2 : Below w.heap.size w w2) => rcommand_any LA b o cap n ws w2 HN.out HLA.out (fun i t h => (hb2.cell (p := ⟨b, o + i, none⟩) (HBW.out i t h)).trans (HC.out i t h)) (by omega) HSZ.out)
    obtain ⟨us, hus⟩ : ∃ us, ws = us := ⟨_, rfl⟩
    rw [hus] at HW1 HW2
    clear hus
    go_enter Tryd.func7, Tryd.ntmps7
    go_wp2_with fail
    refine HW1.out.mono ?_
    rintro e w1 ⟨hb1, ⟨hne, rfl⟩ | ⟨he, v1, rfl, hown1⟩⟩
    · have HB1 := Lib.hid hb1
      have hcv := conv_nil_y
      obtain ⟨E, hE⟩ : ∃ E, cmdE us = E := ⟨_, rfl⟩
      have HE := Lib.hid hE
      rw [hE] at hne ⊢
      clear hb1 hE
      go_wp2_with fail
      refine (HW2.out w1 HB1.out).mono ?_
      rintro e w2 ⟨hb2, ⟨_, rfl⟩ | ⟨he, _⟩⟩
      · have HB2 := Lib.hid (HB1.out.trans (hb2.mono HB1.out.size))
        rw [HE.out]
        have HAL := Lib.hid (yalive_any w2 (HP.out.on HB2.out hB) (by have := HB2.out.size; omega))
        clear hb2
        go_wp2_with fail
        refine HAL.out.mono ?_
        rintro e w3 ⟨rfl, hb3⟩
        have HB3 := Lib.hid (HB2.out.trans (hb3.mono HB2.out.size))
        clear hb3
        go_wp2
        go_ret
        exact ⟨rfl, HB3.out⟩
      · exfalso; exact hne (HE.out.symm.trans he)
    · rcases hown1.2 with ⟨hv0, hl0⟩ | ⟨g1, c1, cur1, rfl, hg1, hh1, _⟩
      · simp [writeB] at hl0
      have HB1 := Lib.hid hb1
      have HO1 := Lib.hid hown1
      have HE := Lib.hid he
      clear hb1 hown1 hh1 he
      go_wp2_with fail
      refine (HW2.out w1 HB1.out).mono ?_
      rintro e w2 ⟨hb2, ⟨hne, _⟩ | ⟨_, v2, rfl, hT2⟩⟩
      · exfalso; exact hne HE.out
      obtain ⟨g2, c2, rfl, _, _, _, _, _, hby2⟩ := hT2
      have HB2 := Lib.hid (HB1.out.trans (hb2.mono HB1.out.size))
      have hcv1 := conv_bytes w2 g1 0 c1 (writeB us) (own_bytes (ownsRow_below HO1.out hb2))
      have hcv2 := conv_bytes w2 g2 0 c2 (writeB us) hby2
      have HAL := Lib.hid (yalive_any w2 (HP.out.on HB2.out hB) (by have := HB2.out.size; omega))
      obtain ⟨Y, hY⟩ : ∃ Y, writeB us = Y := ⟨_, rfl⟩
      obtain ⟨TB, hTB⟩ : ∃ T : ByteArray, ⟨Y.toArray⟩ = T := ⟨_, rfl⟩
      rw [hY, hTB] at hcv1 hcv2
      rw [hY]
      clear hb2 hby2 hY hTB
      go_wp2_with fail
      refine HAL.out.mono ?_
      rintro e w3 ⟨rfl, hb3⟩
      have HB3 := Lib.hid (HB2.out.trans (hb3.mono HB2.out.size))
      clear hb3
      go_wp2
      go_ret
      exact ⟨rfl, HB3.out⟩

end Go.Proofs.YtkaododohnncnaaDoor
