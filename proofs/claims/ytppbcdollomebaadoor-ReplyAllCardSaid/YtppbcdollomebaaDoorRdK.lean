/-
  The walk of the document's own Decode. Conditions: the bytes lie in memory, at most 70000.
-/
import Derived.Test.YtppbcdollomebaaDoorRdJ
namespace Go.Proofs.YtppbcdollomebaaDoor
open Go.RowKit

theorem dreply_all (R : Nat) (A : Option Addr) (b o cap : Nat) (bs : List UInt8) : ∀ (left nest : Nat) (_ : left + nest = 8) (i : Nat) (w : World) (_ : b < w.heap.size) (_ : RdAt w R A b o cap bs i 0),
    Calls Tryd.prog 27 #[.pointer (some ⟨R, 0, none⟩), .int .i64 nest] w (DPost w R A b o cap bs (replyS bs left i))
  | 0, nest, hn, i, w, hb, h => dreply_step R A b o cap bs 0 nest i hn w hb h (fun h0 => absurd h0 (by omega))
  | left + 1, nest, hn, i, w, hb, h => dreply_step R A b o cap bs (left + 1) nest i hn w hb h (fun _ i w _ hb h => darray_step R A b o cap bs (nest + 1) (replyS bs left) i w hb h (fun i w hb h => dreply_all R A b o cap bs left (nest + 1) (by omega) i w hb h))

/-- What the document's Decode tells: a tree, a place, an error. -/
def decS (bs : List UInt8) : RT × (Nat × Nat) := if (replyS bs 8 0).2.2 = 0 then replyS bs 8 0 else (rt0, (replyS bs 8 0).2)

set_option maxRecDepth 100000 in
set_option maxHeartbeats 8000000 in
theorem ddecode_ok (A : Option Addr) (b o cap : Nat) (bs : List UInt8) (w : World) (hA : 0 < bs.length → A = some ⟨b, o, none⟩) (hb : 0 < bs.length → b < w.heap.size) (hat : BytesAt w b o bs) (hbig : bs.length ≤ 70000) (hcl : bs.length ≤ cap) (hcm : cap ≤ 9223372036854775807) :
    Calls Tryd.prog 16 #[.slice A bs.length cap] w fun en w' => Below w.heap.size w w' ∧ ∃ (k : Nat) (T : ByteArray) (n : Int) (A' : Option Addr) (l c : Nat),
      en = .returned (.tuple #[.agg #[.int .i64 k, .string T, .int .i64 n, .slice A' l c], .int .i64 (decS bs).2.1, .int .i64 (decS bs).2.2]) ∧
      RepAt w' (fun g => w.heap.size ≤ g) (decS bs).1 [.int .i64 k, .string T, .int .i64 n, .slice A' l c] := by
  obtain ⟨b', o', hA', hat', hlt'⟩ : ∃ b' o', (0 < bs.length → A = some ⟨b', o', none⟩) ∧ (∀ w' : World, Below w.heap.size w w' → BytesAt w' b' o' bs) ∧ b' < w.heap.size + 1 := by
    by_cases h0 : 0 < bs.length
    · exact ⟨b, o, hA, fun w' hw => hat.below hw (hb h0), by have := hb h0; omega⟩
    · exact ⟨w.heap.size, 0, fun h => absurd h h0, fun _ _ j hj => by omega, by omega⟩
  clear hA hb hat
  have hal : Below w.heap.size w (w.alloc (.cells #[.int .i64 0, .string ⟨#[]⟩, .int .i64 0, .slice none 0 0] 25)) := (Below.refl _ _).alloc (Nat.le_refl _) _
  have hnew := World.alloc_heap_new w (.cells #[.int .i64 0, .string ⟨#[]⟩, .int .i64 0, .slice none 0 0] 25)
  have hs : (w.alloc (.cells #[.int .i64 0, .string ⟨#[]⟩, .int .i64 0, .slice none 0 0] 25)).heap.size = w.heap.size + 1 := by simp
  obtain ⟨wa, hwa⟩ : ∃ wa, w.alloc (.cells #[.int .i64 0, .string ⟨#[]⟩, .int .i64 0, .slice none 0 0] 25) = wa := ⟨_, rfl⟩
  rw [hwa] at hal hnew hs
  have HAL := Lib.hid hal
  have HNEW := Lib.hid hnew
  have halb : Below wa.heap.size wa (wa.alloc (.cells #[.slice A bs.length cap, .int .i64 0, .int .i64 0] 60)) := (Below.refl _ _).alloc (Nat.le_refl _) _
  have hnewb := World.alloc_heap_new wa (.cells #[.slice A bs.length cap, .int .i64 0, .int .i64 0] 60)
  have hsb : (wa.alloc (.cells #[.slice A bs.length cap, .int .i64 0, .int .i64 0] 60)).heap.size = w.heap.size + 2 := by simp [hs]
  obtain ⟨wb, hwb⟩ : ∃ wb, wa.alloc (.cells #[.slice A bs.length cap, .int .i64 0, .int .i64 0] 60) = wb := ⟨_, rfl⟩
  rw [hwb] at halb hnewb hsb
  rw [hs] at hnewb
  have hrd : RdAt wb (w.heap.size + 1) A b' o' cap bs 0 0 :=
    ⟨(cell_in hnewb).trans rfl, (cell_in hnewb).trans rfl, (cell_in hnewb).trans rfl, mark_in hnewb, mark_in hnewb, hA', hat' wb (hal.trans (halb.mono (by omega))), by omega, by omega, hbig, hcl, hcm⟩
  have HX := Lib.hid (dreply_all (w.heap.size + 1) A b' o' cap bs 8 0 rfl 0 wb (by omega) hrd)
  have HWAB := Lib.hid halb
  rw [show (((0 : Nat) : Nat) : Int) = 0 from rfl] at HX
  obtain ⟨⟨tree, ⟨i1, e1⟩⟩, ht⟩ : ∃ x, replyS bs 8 0 = x := ⟨_, rfl⟩
  rw [ht] at HX
  have HDS : Hid (decS bs = if e1 = 0 then (tree, (i1, e1)) else (rt0, (i1, e1))) := by unfold Hid decS; rw [ht]
  clear hal hnew halb hnewb hrd ht hat' hA'
  go_enter Tryd.func16, Tryd.ntmps16
  go_wp2_with fail
  try rw [hwa]
  clear hwa
  try rw [hwb]
  clear hwb
  refine HX.out.mono ?_
  rintro en w4 ⟨K, T, nn, A4, l4, c4, rfl, hx, hw4⟩
  have hg4 : wa.grownBy w4 (some (w.heap.size + 1)) := grown_below HWAB.out hw4.grown
  have hz4 := hw4.grown.size
  obtain ⟨w5, hw5⟩ : ∃ w5, w4.alloc (.cells #[.int .i64 K, .string T, .int .i64 nn, .slice A4 l4 c4] 25) = w5 := ⟨_, rfl⟩
  have hg5 : wa.grownBy w5 (some (w.heap.size + 1)) := by rw [← hw5]; exact hg4.trans (World.grownBy_alloc _ _ _)
  have hb45 : Below w4.heap.size w4 w5 := by rw [← hw5]; exact (Below.refl _ _).alloc (Nat.le_refl _) _
  have hn5 : w5.heap[w4.heap.size]? = some (.cells #[.int .i64 K, .string T, .int .i64 nn, .slice A4 l4 c4] 25) := by rw [← hw5]; exact World.alloc_heap_new w4 _
  have hrd5 := hw4.rd.below hb45
  have c1 := hrd5.c1
  have c2 := hrd5.c2
  have x0 : w5.cell? ⟨w4.heap.size, 0, none⟩ = some (.int .i64 K) := cell_in hn5
  have x1 : w5.cell? ⟨w4.heap.size, 1, none⟩ = some (.string T) := cell_in hn5
  have x2 : w5.cell? ⟨w4.heap.size, 2, none⟩ = some (.int .i64 nn) := cell_in hn5
  have x3 : w5.cell? ⟨w4.heap.size, 3, none⟩ = some (.slice A4 l4 c4) := cell_in hn5
  have hne : ¬ (some w.heap.size = some (w.heap.size + 1)) := fun e => by injection e with e; omega
  have hlw : w.heap.size < wa.heap.size := by omega
  have r0 : w5.cell? ⟨w.heap.size, 0, none⟩ = some (.int .i64 0) := (hg5.cell_far ⟨w.heap.size, 0, none⟩ hlw hne).trans (cell_in HNEW.out)
  have r1 : w5.cell? ⟨w.heap.size, 1, none⟩ = some (.string ⟨#[]⟩) := (hg5.cell_far ⟨w.heap.size, 1, none⟩ hlw hne).trans (cell_in HNEW.out)
  have r2 : w5.cell? ⟨w.heap.size, 2, none⟩ = some (.int .i64 0) := (hg5.cell_far ⟨w.heap.size, 2, none⟩ hlw hne).trans (cell_in HNEW.out)
  have r3 : w5.cell? ⟨w.heap.size, 3, none⟩ = some (.slice none 0 0) := (hg5.cell_far ⟨w.heap.size, 3, none⟩ hlw hne).trans (cell_in HNEW.out)
  have s0 : w5.frozen? ⟨w.heap.size, 0, none⟩ = false := (hg5.frozen_far ⟨w.heap.size, 0, none⟩ hlw hne).trans (mark_in HNEW.out)
  have s1 : w5.frozen? ⟨w.heap.size, 1, none⟩ = false := (hg5.frozen_far ⟨w.heap.size, 1, none⟩ hlw hne).trans (mark_in HNEW.out)
  have s2 : w5.frozen? ⟨w.heap.size, 2, none⟩ = false := (hg5.frozen_far ⟨w.heap.size, 2, none⟩ hlw hne).trans (mark_in HNEW.out)
  have s3 : w5.frozen? ⟨w.heap.size, 3, none⟩ = false := (hg5.frozen_far ⟨w.heap.size, 3, none⟩ hlw hne).trans (mark_in HNEW.out)
  have HBW : Hid (Below w.heap.size w w5) := ⟨hg5.os.trans HAL.out.os, hg5.tape.trans HAL.out.tape, hg5.output.trans HAL.out.output, Nat.le_trans HAL.out.size hg5.size, fun k hk => (hg5.block k (by omega) (fun e => by injection e with e; omega)).trans (HAL.out.block k hk)⟩
  have HX5 : Hid (e1 = 0 → RepAt w5 (fun g => w.heap.size < g) tree [.int .i64 K, .string T, .int .i64 nn, .slice A4 l4 c4]) := fun q => (hx q).keep hb45.size (fun g h1 _ => by have h1 : wb.heap.size ≤ g := h1; omega) (fun g _ h2 => hb45.block g h2)
  have c2a := c2
  rw [← hw5] at c2a
  have HW5 := Lib.hid hw5
  have hne2 : w4.heap.size ≠ w.heap.size := by omega
  clear hx hw4 hg4 hg5 hb45 hn5 hrd5 hne hw5
  by_cases he : e1 = 0
  · subst he
    rw [if_pos rfl] at HDS
    go_wp2
    rw [HW5.out]
    clear c2a
    go_region
    all_goals
      go_wp2
      refine bodyPost_ret (v := .tuple #[.agg #[.int .i64 K, .string T, .int .i64 nn, .slice A4 l4 c4], .int .i64 i1, .int .i64 0]) ?_ rfl ⟨(by first | exact ((((HBW.out.drew.setCell (Nat.le_refl _) _).setCell (Nat.le_refl _) _).setCell (Nat.le_refl _) _).setCell (Nat.le_refl _) _) | exact ((((HBW.out.setCell (Nat.le_refl _) _).setCell (Nat.le_refl _) _).setCell (Nat.le_refl _) _).setCell (Nat.le_refl _) _).drew), K, T, nn, A4, l4, c4, by rw [HDS.out]; rfl, ?_⟩
      · simp [results, Tryd.results16, go_sem, r0, r1, r2, r3]
      · rw [HDS.out]
        refine (HX5.out (by trivial)).keep (by simp [World.setCell]) (fun g h1 _ => by have h1 : w.heap.size < g := h1; omega) (fun g h1 _ => ?_)
        have h1 : w.heap.size < g := h1
        have hg : g ≠ w.heap.size := by omega
        show ((((w5.setCell ⟨w.heap.size, 0, none⟩ (.int .i64 K)).setCell ⟨w.heap.size, 1, none⟩ (.string T)).setCell ⟨w.heap.size, 2, none⟩ (.int .i64 nn)).setCell ⟨w.heap.size, 3, none⟩ (.slice A4 l4 c4)).heap[g]? = w5.heap[g]?
        rw [Below.heap_setCell _ _ _ _ hg, Below.heap_setCell _ _ _ _ hg, Below.heap_setCell _ _ _ _ hg, Below.heap_setCell _ _ _ _ hg]
  · rw [if_neg he] at HDS
    have hq : ((e1 : Int) != 0) = true := by rw [bne_iff_ne]; omega
    go_wp2
    rw [HW5.out]
    clear c2a
    go_region
    all_goals
      go_wp2
      refine bodyPost_ret (v := .tuple #[.agg #[.int .i64 0, .string ⟨#[]⟩, .int .i64 0, .slice none 0 0], .int .i64 i1, .int .i64 e1]) ?_ rfl ⟨(by first | exact ((((HBW.out.drew.setCell (Nat.le_refl _) _).setCell (Nat.le_refl _) _).setCell (Nat.le_refl _) _).setCell (Nat.le_refl _) _) | exact ((((HBW.out.setCell (Nat.le_refl _) _).setCell (Nat.le_refl _) _).setCell (Nat.le_refl _) _).setCell (Nat.le_refl _) _).drew), 0, ⟨#[]⟩, 0, none, 0, 0, by rw [HDS.out]; rfl, by rw [HDS.out]; exact .leaf 0 [] 0 ⟨#[]⟩ rfl⟩
      simp [results, Tryd.results16, go_sem, r0, r1, r2, r3]

end Go.Proofs.YtppbcdollomebaaDoor
