/-
  The walks of package reply over bulks: mayBe, mayNotBe, slices.IndexFunc and ContainsFunc over a row of bulks, mayBe of an array of bulks. Conditions: as typed.
-/
import Derived.Test.YtbldahkgilkclaaDoorKit
import Derived.Deep.QuietTactic
import Derived.BigQuiet
namespace Go.Proofs.YtbldahkgilkclaaDoor
open Go.RowKit

/-- A bulk as a value, and its cells. -/
def bulkCells (t : List UInt8) : List Value := [.int .i64 4, strV t, .int .i64 0, .slice none 0 0]
def rowCells (ws : List (List UInt8)) : List Value := (ws.map bulkCells).flatten

theorem info_reply : (Tryd.prog.info? 25).map (fun i => (i.zero, i.size, i.bytes)) = some (some (.agg #[.int .i64 0, .string ⟨#[]⟩, .int .i64 0, .slice none 0 0]), 4, 56) := by kernel_rfl

set_option maxRecDepth 100000 in
set_option maxHeartbeats 2000000 in
theorem pmayBe_bulk (T : ByteArray) (w : World) (hs : T.size ≤ 9223372036854775807) :
    Calls Tryd.prog 18 #[.agg #[.int .i64 4, .string T, .int .i64 0, .slice none 0 0]] w fun e w' => e = .returned (.bool (decide (T.size ≤ 65536))) ∧ Below w.heap.size w w' := by
  by_cases hl : T.size ≤ 65536
  all_goals
    go_enter Tryd.func18, Tryd.ntmps18
    go_wp2_with fail
    go_quiet (fail)
    go_wp2
    go_ret
    exact ⟨by simp [hl]; omega, below_drewN ((Below.refl _ _).alloc (Nat.le_refl _) _) _⟩

set_option maxRecDepth 100000 in
set_option maxHeartbeats 2000000 in
theorem pmayNotBe_bulk (T : ByteArray) (w : World) (hs : T.size ≤ 9223372036854775807) :
    Calls Tryd.prog 29 #[.agg #[.int .i64 4, .string T, .int .i64 0, .slice none 0 0]] w fun e w' => e = .returned (.bool (decide (65536 < T.size))) ∧ Below w.heap.size w w' := by
  have HM := Lib.hid (fun w => pmayBe_bulk T w hs)
  by_cases hl : T.size ≤ 65536
  all_goals
    have hd : decide (T.size ≤ 65536) = decide (T.size ≤ 65536) := rfl
    simp only [hl, decide_true, decide_false] at HM
    clear hd
    go_enter Tryd.func29, Tryd.ntmps29
    go_wp2_with fail
    refine (HM.out _).mono ?_
    rintro e w2 ⟨rfl, hb2⟩
    have HB := Lib.hid (((Below.refl w.heap.size w).alloc (Nat.le_refl _) _).trans (hb2.mono (by simp)))
    clear hb2
    go_wp2
    go_ret
    exact ⟨by simp; omega, HB.out⟩

/-- A row of bulks, cell by cell. -/
def BulksAt (w : World) (b o : Nat) (ws : List (List UInt8)) : Prop := ∀ i t, ws[i]? = some t → w.cell? ⟨b, o + i * 4, none⟩ = some (.int .i64 4) ∧ w.cell? ⟨b, o + i * 4 + 1, none⟩ = some (strV t) ∧ w.cell? ⟨b, o + i * 4 + 2, none⟩ = some (.int .i64 0) ∧ w.cell? ⟨b, o + i * 4 + 3, none⟩ = some (.slice none 0 0)

theorem BulksAt.below {w w' : World} {B b o : Nat} {ws : List (List UInt8)} (h : BulksAt w b o ws) (hb : Below B w w') (hB : b < B) : BulksAt w' b o ws := fun i t ht => by
  obtain ⟨h0, h1, h2, h3⟩ := h i t ht
  exact ⟨(hb.cell (p := ⟨b, o + i * 4, none⟩) hB).trans h0, (hb.cell (p := ⟨b, o + i * 4 + 1, none⟩) hB).trans h1, (hb.cell (p := ⟨b, o + i * 4 + 2, none⟩) hB).trans h2, (hb.cell (p := ⟨b, o + i * 4 + 3, none⟩) hB).trans h3⟩

set_option maxRecDepth 100000 in
set_option maxHeartbeats 4000000 in
theorem pindexFunc_bulks (LA : Option Addr) (b o n cap : Nat) (ws : List (List UInt8)) (w : World) (hn : ws.length = n) (hLA : 0 < n → LA = some ⟨b, o, none⟩) (hc : BulksAt w b o ws) (hbig : n ≤ 140737488351232) (hsz : ∀ t ∈ ws, t.length ≤ 9223372036854775807) :
    Calls Tryd.prog 35 #[.slice LA n cap, .func (.func 29) #[] #[]] w fun e w' => ∃ i : Int, e = .returned (.int .i64 i) ∧ (0 ≤ i ↔ ∃ t ∈ ws, 65536 < t.length) ∧ -1 ≤ i ∧ i ≤ n ∧ Below w.heap.size w w' := by
  have HN := Lib.hid hn
  have HC := Lib.hid hc
  have HSZ := Lib.hid hsz
  have HLA := Lib.hid hLA
  clear hn hc hsz hLA
  go_enter Tryd.func35, Tryd.ntmps35
  go_wp2
  go_loopw [5, 8] (fun _ i wr => ∃ k : Nat, i = .int .i64 k ∧ k ≤ n ∧ Below w.heap.size w wr ∧ Hid (∀ t ∈ ws.take k, t.length ≤ 65536)) (fun _ i _ => n - (intOf i).toNat)
  case atStart => exact ⟨0, rfl, by omega, Below.refl _ _, fun t ht => by simp at ht⟩
  case round =>
    obtain ⟨k, rfl, hk, hbl, HK⟩ := hrel
    have HBL := Lib.hid hbl
    have hzr := hbl.size
    clear hbl
    by_cases hlt : k < n
    · obtain rfl : LA = some ⟨b, o, none⟩ := HLA.out (by omega)
      obtain ⟨t, ht⟩ : ∃ t, ws[k]? = some t := ⟨_, List.getElem?_eq_getElem (by rw [HN.out]; exact hlt)⟩
      have hbw : b < w.heap.size := World.block_lt_of_cell? w _ (HC.out k t ht).1
      obtain ⟨c0, c1, c2, c3⟩ := (HC.out.below HBL.out hbw) k t ht
      obtain ⟨T, hT⟩ : ∃ T : ByteArray, ⟨t.toArray⟩ = T := ⟨_, rfl⟩
      have hTs : T.size = t.length := by rw [← hT]; rfl
      have hts := HSZ.out t (List.mem_of_getElem? ht)
      unfold strV at c1
      rw [hT] at c1
      have HTK : Hid (ws.take (k + 1) = ws.take k ++ [t]) := by unfold Hid; rw [List.take_add_one, ht]; rfl
      have HMEM := Lib.hid (List.mem_of_getElem? ht)
      have HTS := Lib.hid hTs
      have HM := Lib.hid (pmayNotBe_bulk T wr (by omega))
      clear ht hT hTs
      by_cases hl : T.size ≤ 65536
      · rw [decide_eq_false (by omega)] at HM
        go_wp2_with fail
        refine HM.out.mono ?_
        rintro e w2 ⟨rfl, hb2⟩
        have HB2 := Lib.hid (HBL.out.trans (hb2.mono hzr))
        clear hb2
        go_wp2
        go_roundw
        case rel => exact ⟨k + 1, by go_num, by omega, HB2.out, fun u hu => by
          rw [HTK.out] at hu
          rcases List.mem_append.1 hu with hu | hu
          · exact HK.out u hu
          · simp at hu; rw [hu, ← HTS.out]; exact hl⟩
        case measure => simp only [intOf]; omega
      · rw [decide_eq_true (by omega)] at HM
        go_wp2_with fail
        refine HM.out.mono ?_
        rintro e w2 ⟨rfl, hb2⟩
        have HB2 := Lib.hid (HBL.out.trans (hb2.mono hzr))
        clear hb2
        go_wp2
        go_ret
        exact ⟨_, rfl, ⟨fun _ => ⟨t, HMEM.out, by have := HTS.out; omega⟩, fun _ => by omega⟩, by omega, by omega, HB2.out⟩
    · obtain rfl : k = n := by omega
      have HALL : Hid (∀ t ∈ ws, t.length ≤ 65536) := by have := HK.out; rwa [List.take_of_length_le (by rw [HN.out]; exact Nat.le_refl _)] at this
      go_wp2
      go_ret
      exact ⟨_, rfl, ⟨fun h => by omega, fun ⟨t, h1, h2⟩ => by have := HALL.out t h1; omega⟩, by omega, by omega, HBL.out⟩

/-- Whether each may be. -/
def allB (ws : List (List UInt8)) : Bool := ws.all fun t => decide (t.length ≤ 65536)
theorem allB_iff (ws : List (List UInt8)) : allB ws = true ↔ ∀ t ∈ ws, t.length ≤ 65536 := by unfold allB; simp

set_option maxRecDepth 100000 in
set_option maxHeartbeats 2000000 in
theorem pcontainsFunc_bulks (LA : Option Addr) (b o n cap : Nat) (ws : List (List UInt8)) (w : World) (hn : ws.length = n) (hLA : 0 < n → LA = some ⟨b, o, none⟩) (hc : BulksAt w b o ws) (hbig : n ≤ 140737488351232) (hsz : ∀ t ∈ ws, t.length ≤ 9223372036854775807) :
    Calls Tryd.prog 26 #[.slice LA n cap, .func (.func 29) #[] #[]] w fun e w' => e = .returned (.bool (!allB ws)) ∧ Below w.heap.size w w' := by
  have HI := Lib.hid (pindexFunc_bulks LA b o n cap ws w hn hLA hc hbig hsz)
  clear hn hLA hc hsz
  go_enter Tryd.func26, Tryd.ntmps26
  go_wp2_with fail
  refine HI.out.mono ?_
  rintro e w2 ⟨i, rfl, h1, h2, h3, hb2⟩
  have HB := Lib.hid hb2
  have HE : Hid ((!allB ws) = decide (0 ≤ i)) := by
    unfold Hid
    by_cases h : 0 ≤ i
    · obtain ⟨t, ht, hl⟩ := h1.1 h
      rw [decide_eq_true h]
      cases hb : allB ws
      · rfl
      · have := (allB_iff ws).1 hb t ht; omega
    · rw [decide_eq_false h]
      rw [(allB_iff ws).2 (fun t ht => by
        rcases Nat.lt_or_ge 65536 t.length with hl | hl
        · exact absurd (h1.2 ⟨t, ht, hl⟩) h
        · exact hl)]
      rfl
  clear hb2 h1
  go_wp2
  go_ret
  refine ⟨?_, HB.out⟩
  rw [HE.out]
  rfl

set_option maxRecDepth 100000 in
set_option maxHeartbeats 2000000 in
theorem pmayBe_array (LA : Option Addr) (b o n cap : Nat) (ws : List (List UInt8)) (w : World) (hn : ws.length = n) (hLA : 0 < n → LA = some ⟨b, o, none⟩) (hc : BulksAt w b o ws) (hbig : n ≤ 1024) (hsz : ∀ t ∈ ws, t.length ≤ 9223372036854775807) :
    Calls Tryd.prog 18 #[.agg #[.int .i64 6, .string ⟨#[]⟩, .int .i64 0, .slice LA n cap]] w fun e w' => e = .returned (.bool (allB ws)) ∧ Below w.heap.size w w' := by
  have hbw : 0 < n → b < w.heap.size := fun h => World.block_lt_of_cell? w _ (hc 0 _ (List.getElem?_eq_getElem (show 0 < ws.length by omega))).1
  have HCF := Lib.hid (fun w2 (hb2 : Below w.heap.size w w2) => pcontainsFunc_bulks LA b o n cap ws w2 hn hLA (fun i t ht => (hc.below hb2 (hbw (by
    have := (List.getElem?_eq_some_iff.1 ht).1; omega))) i t ht) (by omega) hsz)
  clear hn hLA hc hsz hbw
  go_enter Tryd.func18, Tryd.ntmps18
  go_wp2_with fail
  go_quiet (fail)
  go_wp2_with fail
  refine (HCF.out _ (below_drewN ((Below.refl w.heap.size w).alloc (Nat.le_refl _) _) _)).mono ?_
  rintro e w2 ⟨rfl, hb2⟩
  have HB := Lib.hid ((below_drewN ((Below.refl w.heap.size w).alloc (Nat.le_refl _) (.cells #[.int .i64 6, .string ⟨#[]⟩, .int .i64 0, .slice LA n cap] 25)) nq).trans (hb2.mono (by simp)))
  clear hb2
  cases hA : allB ws
  all_goals
    go_wp2
    go_ret
    exact ⟨by rw [hA]; rfl, HB.out⟩

end Go.Proofs.YtbldahkgilkclaaDoor
