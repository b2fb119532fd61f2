/-
  The walk of the document's own Command. Conditions: the texts lie in memory as a slice that reads as them.
-/
import Derived.Test.YtkaododohnncnaaDoorRrA
import Derived.Deep.RegionLaw
namespace Go.Proofs.YtkaododohnncnaaDoor
open Go.RowKit

/-- What the document's Command tells, its bytes a row of its own. -/
def CmdRPost (w : World) (ws : List (List UInt8)) (e : Ending) (w' : World) : Prop :=
  Below w.heap.size w w' ∧ ((cmdE ws ≠ 0 ∧ e = .returned (.tuple #[.slice none 0 0, .int .i64 (cmdE ws)])) ∨
    (cmdE ws = 0 ∧ ∃ v, e = .returned (.tuple #[v, .int .i64 0]) ∧ OwnsT w' w.heap.size v (writeB ws)))

theorem grown_from {w X w1 : World} {row : Option Nat} (hX : Below w.heap.size w X) (hg : X.grownBy w1 row) : w.grownBy w1 row :=
  ⟨hg.os.trans hX.os, hg.tape.trans hX.tape, hg.output.trans hX.output, Nat.le_trans hX.size hg.size, fun k hk hn => (hg.block k (Nat.lt_of_lt_of_le hk hX.size) hn).trans (hX.block k hk)⟩

set_option maxRecDepth 100000 in
set_option maxHeartbeats 8000000 in
theorem rcommand_any (LA : Option Addr) (b o cap n : Nat) (ws : List (List UInt8)) (w : World) (hn : ws.length = n) (hLA : 0 < n → LA = some ⟨b, o, none⟩) (hc : ∀ i t, ws[i]? = some t → w.cell? ⟨b, o + i, none⟩ = some (strV t))
    (hbig : n ≤ 140737488351232) (hsz : ∀ t ∈ ws, t.length ≤ 9223372036854775807) :
    Calls Tryd.prog 28 #[.slice LA n cap] w (CmdRPost w ws) := by
  obtain ⟨i0, hi, hy0, hy1, hy2⟩ := info_parts info_reply
  have HN := Lib.hid hn
  have HC := Lib.hid hc
  have HSZ := Lib.hid hsz
  clear hc hsz
  by_cases h0 : n = 0
  · subst h0
    have HE : Hid (cmdE ws = 3) := by unfold Hid cmdE; rw [if_pos (Or.inl hn)]
    clear hn hLA
    go_enter Tryd.func28, Tryd.ntmps28
    go_wp2
    go_ret2
    exact ⟨Below.refl _ _, Or.inl ⟨by rw [HE.out]; decide, by rw [HE.out]; rfl⟩⟩
  by_cases h1 : 1024 < n
  · have HE : Hid (cmdE ws = 3) := by unfold Hid cmdE; rw [if_pos (Or.inr (by omega))]
    clear hn hLA
    go_enter Tryd.func28, Tryd.ntmps28
    go_wp2
    go_ret2
    exact ⟨Below.refl _ _, Or.inl ⟨by rw [HE.out]; decide, by rw [HE.out]; rfl⟩⟩
  obtain rfl : LA = some ⟨b, o, none⟩ := hLA (by omega)
  have hbw : b < w.heap.size := World.block_lt_of_cell? w _ (HC.out 0 _ (List.getElem?_eq_getElem (show 0 < ws.length by omega)))
  clear hn hLA
  obtain ⟨R, hR⟩ : ∃ R, w.heap.size = R := ⟨_, rfl⟩
  have HM := Lib.hid (mk_new w ws)
  rw [hR] at HM
  have HRW := Lib.hid hR
  have hbR : b < R := by omega
  have hq0 : ((n : Int) == 0) = false := by simp; omega
  have hq1 : decide (1024 < (n : Int)) = false := by simp; omega
  go_enter Tryd.func28, Tryd.ntmps28
  go_wp2
  clear hR hq0 hq1
  go_loopw [5] (fun i wr => ∃ (k : Nat) (vr : Value), i = .int .i64 k ∧ k ≤ n ∧ Mk wr R vr ws k ∧ Below R w wr ∧ Hid (∀ t ∈ ws.take k, t.length ≤ 65536)) (fun i _ => n - (intOf i).toNat)
  case atStart => exact ⟨0, _, rfl, by omega, HM.out, by have := (Below.refl w.heap.size w).alloc (Nat.le_refl _) (.cells #[.int .i64 6, .string ⟨#[]⟩, .int .i64 0, .slice none 0 0] 38); rwa [HRW.out] at this, fun t ht => by simp at ht⟩
  case round =>
    obtain ⟨k, vr, rfl, hk, hm, hbl, HK⟩ := hrel
    have HMK := Lib.hid hm
    have HBL := Lib.hid hbl
    by_cases hlt : k < n
    · obtain ⟨t, ht⟩ : ∃ t, ws[k]? = some t := ⟨_, List.getElem?_eq_getElem (by rw [HN.out]; exact hlt)⟩
      have hcell := (hbl.cell (p := ⟨b, o + k, none⟩) hbR).trans (HC.out k t ht)
      obtain ⟨T, hT⟩ : ∃ T : ByteArray, ⟨t.toArray⟩ = T := ⟨_, rfl⟩
      have hTs : T.size = t.length := by rw [← hT]; rfl
      have hts := HSZ.out t (List.mem_of_getElem? ht)
      unfold strV at hcell
      rw [hT] at hcell
      have HT := Lib.hid hT
      have HTT := Lib.hid ht
      have HTS := Lib.hid hTs
      rw [← hTs] at hts
      by_cases hl : T.size ≤ 65536
      · have hc3 := hm.c3
        have hf3 := hm.f3
        have hRl := hm.lt
        obtain ⟨Ar, cr, rfl⟩ := ownsRow_form hm.own
        have hne : (Value.slice Ar k cr).ownBlock ≠ some R := fun e => by have := (own_lt hm.own e).1; omega
        have HNE := Lib.hid hne
        clear hm hbl ht hT hTs hne
        go_wp2
        go_region_law (first
          | (refine step_append_lies _ (by rfl) _ _ _ (by rfl) (R + 1) 38 i0 _ 4 56 Tryd.underlying36 hi hy0 hy1 hy2 rfl (by omega) (.slice Ar k cr) k (rowCells (ws.take k)) (by rfl) (by first | exact (HMK.out.own.alloc _).drew | exact (HMK.out.own.drew).alloc _) ⟨wr.heap.size, 0, none⟩ 1 1 [.int .i64 4, .string T, .int .i64 0, .slice none 0 0] (by rfl) (by rfl) (World.news_of_block (cs := #[.int .i64 4, .string T, .int .i64 0, .slice none 0 0]) (t := 38) (fr := (0, 0)) (heap_alloc_new wr _)) (by simp [Value.oneCell']) (by omega) (by unfold maxLen; omega) (by omega) (by simp; omega) (wr.heap.size + 1) (by simp) ?_; intro gg cc w1 hown1 hgrow _ _; have hgf := grown_from (w := wr) (by first | exact ((Below.refl wr.heap.size wr).alloc (Nat.le_refl _) _).drew | exact ((Below.refl wr.heap.size wr).drew).alloc (Nat.le_refl _) _) hgrow; have hbR1 := hgf.block R hRl (fun e => HNE.out e.symm); have q3 := (World.cell?_of_block (a := ⟨R, 3, none⟩) hbR1).trans hc3; have e3 := (World.frozen?_of_block (a := ⟨R, 3, none⟩) hbR1).trans hf3; have HGF := Lib.hid hgf; have HOX := Lib.hid hown1; clear hgrow hgf hbR1 hown1))
        all_goals
          have HMM := Lib.hid (HMK.out.more HTT.out HGF.out (by rw [show bulkCells t = [.int .i64 4, .string T, .int .i64 0, .slice none 0 0] from by unfold bulkCells strV; rw [HT.out]]; exact HOX.out))
          have HB2 := Lib.hid (show Below R w (w1.setCell ⟨R, 3, none⟩ (.slice (some ⟨gg, 0, none⟩) (k + 1) cc)) from (HBL.out.trans ((Below.refl R wr).grown HGF.out (by omega) (fun q hq => by have := (own_lt HMK.out.own hq).1; omega))).setCell (Nat.le_refl _) _)
          have HKK : Hid (∀ u ∈ ws.take (k + 1), u.length ≤ 65536) := by
            intro u hu
            rw [List.take_add_one, HTT.out] at hu
            rcases List.mem_append.1 hu with hu | hu
            · exact HK.out u hu
            · simp at hu; rw [hu, ← HTS.out]; exact hl
          clear q3 e3
          go_wp2
          go_roundw
          case rel => exact ⟨k + 1, _, by go_num, by omega, HMM.out, HB2.out, HKK⟩
          case measure => simp only [intOf]; omega
      · have HE : Hid (cmdE ws = 2) := by
          unfold Hid cmdE
          rw [if_neg (by rw [HN.out]; omega), if_neg (fun h => hl (by rw [hTs]; exact (allB_iff ws).1 h t (List.mem_of_getElem? ht)))]
        clear hm hbl ht hT hTs
        go_wp2
        go_ret2
        exact ⟨by rw [HRW.out]; exact HBL.out, Or.inl ⟨by rw [HE.out]; decide, by rw [HE.out]; rfl⟩⟩
    · obtain rfl : k = n := by omega
      have HALL : Hid (∀ t ∈ ws, t.length ≤ 65536) := by have := HK.out; rwa [List.take_of_length_le (by rw [HN.out]; exact Nat.le_refl _)] at this
      have HE : Hid (cmdE ws = 0) := by unfold Hid cmdE; rw [if_neg (by rw [HN.out]; omega), if_pos ((allB_iff ws).2 HALL.out)]
      have hc0 := hm.c0
      have hc1 := hm.c1
      have hc2 := hm.c2
      have hc3 := hm.c3
      have hown : wr.ownsRow (R + 1) 38 4 vr k (rowCells ws) := by
        have := hm.own
        rwa [List.take_of_length_le (by rw [HN.out]; exact Nat.le_refl _)] at this
      have hRl := hm.lt
      rcases hown.2 with ⟨_, hk0⟩ | ⟨g, cr, cur, rfl, hg, hh, hnc, _⟩
      · omega
      have HRB := Lib.hid (rbytes_array (some ⟨g, 0, none⟩) g 0 k cr ws wr HN.out (fun _ => rfl) (bulks_own hown) (by omega) HALL.out)
      clear hm hbl hown hh
      go_wp2_with fail
      refine HRB.out.mono ?_
      rintro e w3 ⟨v3, rfl, hown3, hb3⟩
      have HB3 := Lib.hid (HBL.out.trans (hb3.mono (by omega)))
      have HO3 := Lib.hid (hown3.base (show R ≤ wr.heap.size by omega))
      obtain ⟨g3, c3, rfl, _⟩ := hown3
      clear hb3 hc0 hc1 hc2 hc3
      go_wp2
      go_ret2
      unfold CmdRPost
      rw [HRW.out]
      exact ⟨HB3.out, Or.inr ⟨HE.out, _, rfl, HO3.out⟩⟩

end Go.Proofs.YtkaododohnncnaaDoor
