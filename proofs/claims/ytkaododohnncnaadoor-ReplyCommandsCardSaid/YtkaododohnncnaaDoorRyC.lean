/-
  The walk of package reply's Command. Conditions: the table of powers of ten holds what its own text lays; the texts lie in memory as a slice that reads as them.
-/
import Derived.Test.YtkaododohnncnaaDoorRyB
namespace Go.Proofs.YtkaododohnncnaaDoor
open Go.RowKit

theorem rowCells_get : ∀ (ws : List (List UInt8)) (i : Nat) (t : List UInt8), ws[i]? = some t → ∀ f, f < 4 → (rowCells ws)[i * 4 + f]? = (bulkCells t)[f]?
  | [], i, t, h, _, _ => by simp at h
  | x :: r, 0, t, h, f, hf => by
    simp only [List.getElem?_cons_zero, Option.some.injEq] at h
    subst h
    rw [show rowCells (x :: r) = bulkCells x ++ rowCells r from rfl, Nat.zero_mul, Nat.zero_add, List.getElem?_append_left (by simpa [bulkCells] using hf)]
  | x :: r, i + 1, t, h, f, hf => by
    simp only [List.getElem?_cons_succ] at h
    have ih := rowCells_get r i t h f hf
    rw [show rowCells (x :: r) = bulkCells x ++ rowCells r from rfl, List.getElem?_append_right (by simp [bulkCells]; omega), ← ih]
    congr 1
    simp only [bulkCells, List.length_cons, List.length_nil]
    omega
theorem rowCells_snoc (l : List (List UInt8)) (t : List UInt8) : rowCells (l ++ [t]) = rowCells l ++ bulkCells t := by simp [rowCells]

theorem bulks_own {w : World} {base g c n : Nat} {ws : List (List UInt8)} (h : w.ownsRow base 38 4 (.slice (some ⟨g, 0, none⟩) n c) n (rowCells ws)) : BulksAt w g 0 ws := fun i t ht => by
  have r := fun f hf => rowCells_get ws i t ht f hf
  have c0 := h.cells (g := g) rfl _ _ ((r 0 (by decide)).trans rfl)
  have c1 := h.cells (g := g) rfl _ _ ((r 1 (by decide)).trans rfl)
  have c2 := h.cells (g := g) rfl _ _ ((r 2 (by decide)).trans rfl)
  have c3 := h.cells (g := g) rfl _ _ ((r 3 (by decide)).trans rfl)
  rw [Go.WideShapes.add_plain] at c0 c1 c2 c3
  exact ⟨c0, by rw [Nat.add_assoc]; exact c1, by rw [Nat.add_assoc]; exact c2, by rw [Nat.add_assoc]; exact c3⟩

/-- Which error Command tells. -/
def cmdE (ws : List (List UInt8)) : Int := if ws.length = 0 ∨ 1024 < ws.length then 3 else if allB ws then 0 else 2

/-- What Command tells, its bytes a row of its own. -/
def CmdPost (w : World) (ws : List (List UInt8)) (e : Ending) (w' : World) : Prop :=
  Below w.heap.size w w' ∧ ((cmdE ws ≠ 0 ∧ e = .returned (.tuple #[.slice none 0 0, .int .i64 (cmdE ws)])) ∨
    (cmdE ws = 0 ∧ ∃ v, e = .returned (.tuple #[v, .int .i64 0]) ∧ w'.ownsRow w.heap.size 5 1 v (writeB ws).length (Lib.byteCells (writeB ws))))

/-- A row that is being made: its four cells. -/
structure Mk (w : World) (R : Nat) (vr : Value) (ws : List (List UInt8)) (k : Nat) : Prop where
  lt : R < w.heap.size
  c0 : w.cell? ⟨R, 0, none⟩ = some (.int .i64 6)
  c1 : w.cell? ⟨R, 1, none⟩ = some (.string ⟨#[]⟩)
  c2 : w.cell? ⟨R, 2, none⟩ = some (.int .i64 0)
  c3 : w.cell? ⟨R, 3, none⟩ = some vr
  f3 : w.frozen? ⟨R, 3, none⟩ = false
  own : w.ownsRow (R + 1) 38 4 vr k (rowCells (ws.take k))

theorem mk_new (w : World) (ws : List (List UInt8)) : Mk (w.alloc (.cells #[.int .i64 6, .string ⟨#[]⟩, .int .i64 0, .slice none 0 0] 38)) w.heap.size (.slice none 0 0) ws 0 :=
  have h := World.alloc_heap_new w (.cells #[.int .i64 6, .string ⟨#[]⟩, .int .i64 0, .slice none 0 0] 38)
  { lt := by simp
    c0 := (cell_in h).trans rfl
    c1 := (cell_in h).trans rfl
    c2 := (cell_in h).trans rfl
    c3 := (cell_in h).trans rfl
    f3 := mark_in h
    own := ⟨by simp [rowCells], .inl ⟨rfl, rfl⟩⟩ }

/-- One bulk more, and the row stored. -/
theorem Mk.more {w w1 : World} {R : Nat} {vr v' : Value} {ws : List (List UInt8)} {k : Nat} {t : List UInt8} (h : Mk w R vr ws k) (ht : ws[k]? = some t) (hg : w.grownBy w1 vr.ownBlock) (ho : w1.ownsRow (R + 1) 38 4 v' (k + 1) (rowCells (ws.take k) ++ bulkCells t)) :
    Mk (w1.setCell ⟨R, 3, none⟩ v') R v' ws (k + 1) := by
  have hne : vr.ownBlock ≠ some R := fun e => by have := (own_lt h.own e).1; omega
  have hb := hg.block R h.lt (fun e => hne e.symm)
  have hR : R < w1.heap.size := Nat.lt_of_lt_of_le h.lt hg.size
  have hk := Put.set w1 (p := ⟨R, 3, none⟩) v' hR
  have c0 := (World.cell?_of_block (a := ⟨R, 0, none⟩) hb).trans h.c0
  have c1 := (World.cell?_of_block (a := ⟨R, 1, none⟩) hb).trans h.c1
  have c2 := (World.cell?_of_block (a := ⟨R, 2, none⟩) hb).trans h.c2
  have c3 := (World.cell?_of_block (a := ⟨R, 3, none⟩) hb).trans h.c3
  have f3 := (World.frozen?_of_block (a := ⟨R, 3, none⟩) hb).trans h.f3
  refine ⟨by have := hk.size; omega, (hk.old (q := ⟨R, 0, none⟩) (by intro e; injection e with _ e _; cases e) hR).trans c0, (hk.old (q := ⟨R, 1, none⟩) (by intro e; injection e with _ e _; cases e) hR).trans c1, (hk.old (q := ⟨R, 2, none⟩) (by intro e; injection e with _ e _; cases e) hR).trans c2, hk.cell c3, (hk.frozen (q := ⟨R, 3, none⟩) hR).trans f3, ?_⟩
  rw [List.take_add_one, ht]
  show (w1.setCell ⟨R, 3, none⟩ v').ownsRow (R + 1) _ 4 v' (k + 1) (rowCells (ws.take k ++ [t]))
  rw [rowCells_snoc]
  exact ownsRow_set ho R (Nat.lt_succ_self R) 3 v'

set_option maxRecDepth 100000 in
set_option maxHeartbeats 8000000 in
theorem pcommand_any (LA : Option Addr) (b o cap n : Nat) (ws : List (List UInt8)) (w : World) (hn : ws.length = n) (hLA : 0 < n → LA = some ⟨b, o, none⟩) (hc : ∀ i t, ws[i]? = some t → w.cell? ⟨b, o + i, none⟩ = some (strV t))
    (hbig : n ≤ 140737488351232) (hsz : ∀ t ∈ ws, t.length ≤ 9223372036854775807) (hp : Pows w) (hB : 0 < w.heap.size) :
    Calls Tryd.prog 27 #[.slice LA n cap] w (CmdPost w ws) := by
  obtain ⟨i0, hi, hy0, hy1, hy2⟩ := info_parts info_reply
  have HN := Lib.hid hn
  have HC := Lib.hid hc
  have HP := Lib.hid hp
  have HSZ := Lib.hid hsz
  clear hc hp hsz
  by_cases h0 : n = 0
  · subst h0
    have HE : Hid (cmdE ws = 3) := by unfold Hid cmdE; rw [if_pos (Or.inl hn)]
    clear hn hLA
    go_enter Tryd.func27, Tryd.ntmps27
    go_wp2
    go_ret2
    exact ⟨Below.refl _ _, Or.inl ⟨by rw [HE.out]; decide, by rw [HE.out]; rfl⟩⟩
  by_cases h1 : 1024 < n
  · have HE : Hid (cmdE ws = 3) := by unfold Hid cmdE; rw [if_pos (Or.inr (by omega))]
    clear hn hLA
    go_enter Tryd.func27, Tryd.ntmps27
    go_wp2
    go_ret2
    exact ⟨Below.refl _ _, Or.inl ⟨by rw [HE.out]; decide, by rw [HE.out]; rfl⟩⟩
  obtain rfl : LA = some ⟨b, o, none⟩ := hLA (by omega)
  have hbw : b < w.heap.size := World.block_lt_of_cell? w _ (HC.out 0 _ (List.getElem?_eq_getElem (show 0 < ws.length by omega)))
  clear hn hLA
  obtain ⟨R, hR⟩ : ∃ R, w.heap.size = R := ⟨_, rfl⟩
  have HM := Lib.hid (mk_new w ws)
  rw [hR] at HM
  have HRW := Lib.hid hR
  have hbR : b < R := by omega
  have hq0 : ((n : Int) == 0) = false := by simp; omega
  have hq1 : decide (1024 < (n : Int)) = false := by simp; omega
  have hRB : 0 < R := by omega
  go_enter Tryd.func27, Tryd.ntmps27
  go_wp2
  clear hR hq0 hq1
  go_loopw [6, 18] (fun _ i wr => ∃ (k : Nat) (vr : Value), i = .int .i64 k ∧ k ≤ n ∧ Mk wr R vr ws k ∧ Below R w wr) (fun _ i _ => n - (intOf i).toNat)
  case atStart => exact ⟨0, _, rfl, by omega, HM.out, by have := (Below.refl w.heap.size w).alloc (Nat.le_refl _) (.cells #[.int .i64 6, .string ⟨#[]⟩, .int .i64 0, .slice none 0 0] 38); rwa [HRW.out] at this⟩
  case round =>
    obtain ⟨k, vr, rfl, hk, hm, hbl⟩ := hrel
    have HMK := Lib.hid hm
    have HBL := Lib.hid hbl
    by_cases hlt : k < n
    · obtain ⟨t, ht⟩ : ∃ t, ws[k]? = some t := ⟨_, List.getElem?_eq_getElem (by rw [HN.out]; exact hlt)⟩
      have hcell := (hbl.cell (p := ⟨b, o + k, none⟩) hbR).trans (HC.out k t ht)
      obtain ⟨T, hT⟩ : ∃ T : ByteArray, ⟨t.toArray⟩ = T := ⟨_, rfl⟩
      unfold strV at hcell
      rw [hT] at hcell
      have HT := Lib.hid hT
      have HTT := Lib.hid ht
      have hc3 := hm.c3
      have hf3 := hm.f3
      have hRl := hm.lt
      obtain ⟨Ar, cr, rfl⟩ := ownsRow_form hm.own
      have hown := hm.own.alloc (.cells #[.int .i64 4, .string T, .int .i64 0, .slice none 0 0] 38)
      clear hm hbl ht hT
      go_wp2_with (at_builtin; refine wpList_append_own _ rfl _ _ 36 rfl (R + 1) 38 i0 (.agg #[.int .i64 0, .string ⟨#[]⟩, .int .i64 0, .slice none 0 0]) 4 56 Tryd.underlying36 hi hy0 hy1 hy2 rfl (by decide) _ _ _ rfl hown ⟨wr.heap.size, 0, none⟩ 1 1 [.int .i64 4, .string T, .int .i64 0, .slice none 0 0] rfl rfl ?d1 ?d2 ?d3 ?d4 ?d5 ?_)
      case d1 => exact World.news_of_block (cs := #[.int .i64 4, .string T, .int .i64 0, .slice none 0 0]) (t := 38) (fr := (0, 0)) (World.alloc_heap_new wr _)
      case d2 => intro u hu; simp at hu; rcases hu with rfl | rfl | rfl | rfl <;> rfl
      case d3 => unfold maxLen; omega
      case d4 => omega
      case d5 => rw [World.size_alloc]; omega
      intro v' w1 hown1 hgr1 _
      have hg1 := (World.grownBy_alloc wr (.cells #[.int .i64 4, .string T, .int .i64 0, .slice none 0 0] 38) (Value.slice Ar k cr).ownBlock).trans hgr1
      have hne : (Value.slice Ar k cr).ownBlock ≠ some R := fun e => by have := (own_lt HMK.out.own e).1; omega
      have hbR1 := hg1.block R hRl (fun e => hne e.symm)
      have d3 := (World.cell?_of_block (a := ⟨R, 3, none⟩) hbR1).trans hc3
      have e3 := (World.frozen?_of_block (a := ⟨R, 3, none⟩) hbR1).trans hf3
      have HMM := Lib.hid (HMK.out.more HTT.out hg1 (by rw [show bulkCells t = [.int .i64 4, .string T, .int .i64 0, .slice none 0 0] from by unfold bulkCells strV; rw [HT.out]]; exact hown1))
      have HB2 : Hid (Below R w (w1.setCell ⟨R, 3, none⟩ v')) := by
        have hlow : Below R wr w1 := (Below.refl R wr).grown hg1 (by omega) (fun q hq => by have := (own_lt HMK.out.own hq).1; omega)
        exact (HBL.out.trans hlow).setCell (Nat.le_refl _) _
      obtain ⟨A1, c1, rfl⟩ := ownsRow_form hown1
      clear hown hown1 hgr1 hg1 hbR1 hc3 hf3 hcell
      go_wp2
      go_roundw
      case rel => exact ⟨k + 1, _, by go_num, by omega, HMM.out, HB2.out⟩
      case measure => simp only [intOf]; omega
    · obtain rfl : k = n := by omega
      have hc0 := hm.c0
      have hc1 := hm.c1
      have hc2 := hm.c2
      have hc3 := hm.c3
      have hown : wr.ownsRow (R + 1) 38 4 vr k (rowCells ws) := by
        have := hm.own
        rwa [List.take_of_length_le (by rw [HN.out]; exact Nat.le_refl _)] at this
      have hRl := hm.lt
      rcases hown.2 with ⟨_, hk0⟩ | ⟨g, cr, cur, rfl, hg, hh, hnc, _⟩
      · omega
      have hbk := bulks_own hown
      have hglt : g < wr.heap.size := (Array.getElem?_eq_some_iff.1 hh).1
      have HMB := Lib.hid (pmayBe_array (some ⟨g, 0, none⟩) g 0 k cr ws wr HN.out (fun _ => rfl) hbk (by omega) HSZ.out)
      have HBK := Lib.hid hbk
      clear hm hbl hown hh hbk
      cases hA : allB ws with
      | false =>
        rw [hA] at HMB
        have HE : Hid (cmdE ws = 2) := by unfold Hid cmdE; rw [if_neg (by rw [HN.out]; omega), hA]; rfl
        clear hA
        go_wp2_with fail
        refine HMB.out.mono ?_
        rintro e w2 ⟨rfl, hb2⟩
        have HB2 := Lib.hid (HBL.out.trans (hb2.mono (by omega)))
        clear hb2
        go_wp2
        go_ret2
        exact ⟨by rw [HRW.out]; exact HB2.out, Or.inl ⟨by rw [HE.out]; decide, by rw [HE.out]; rfl⟩⟩
      | true =>
        rw [hA] at HMB
        have hall := (allB_iff ws).1 hA
        have HE : Hid (cmdE ws = 0) := by unfold Hid cmdE; rw [if_neg (by rw [HN.out]; omega), hA]; rfl
        have HALL := Lib.hid hall
        clear hA hall
        go_wp2_with fail
        refine HMB.out.mono ?_
        rintro e w2 ⟨rfl, hb2⟩
        have HB2 := Lib.hid (HBL.out.trans (hb2.mono (by omega)))
        have hz2 := hb2.size
        have d0 := (hb2.cell (p := ⟨R, 0, none⟩) hRl).trans hc0
        have d1 := (hb2.cell (p := ⟨R, 1, none⟩) hRl).trans hc1
        have d2 := (hb2.cell (p := ⟨R, 2, none⟩) hRl).trans hc2
        have d3 := (hb2.cell (p := ⟨R, 3, none⟩) hRl).trans hc3
        have HW := Lib.hid (pwithReply_array R (.slice none 0 0) [] (some ⟨g, 0, none⟩) g 0 k cr ws w2 ⟨rfl, .inl ⟨rfl, rfl⟩⟩ (by omega) (by simp) HN.out (fun _ => rfl) (HBK.out.below hb2 hglt) (by omega) HALL.out (by simp [Value.ownBlock]) (HP.out.on HB2.out hRB) hRB)
        rw [List.nil_append] at HW
        clear hb2 hc0 hc1 hc2 hc3
        go_wp2_with fail
        refine HW.out.mono ?_
        rintro e w3 ⟨v3, rfl, hown3, hg3⟩
        have HB3 := Lib.hid (HB2.out.trans (hg3.low (n := R) (by omega) (fun q hq => by cases hq)))
        have HO3 := Lib.hid hown3
        obtain ⟨A3, c3, rfl⟩ := ownsRow_form hown3
        clear hg3 hown3 d0 d1 d2 d3
        go_wp2
        go_ret2
        unfold CmdPost
        rw [HRW.out]
        exact ⟨HB3.out, Or.inr ⟨HE.out, _, rfl, HO3.out⟩⟩

end Go.Proofs.YtkaododohnncnaaDoor
