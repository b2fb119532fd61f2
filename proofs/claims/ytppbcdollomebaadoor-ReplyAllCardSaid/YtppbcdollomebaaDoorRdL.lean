/-
  The walk of the document's own Same at two values that read as one tree. Conditions: as typed.
-/
import Derived.Test.YtppbcdollomebaaDoorRdK
namespace Go.Proofs.YtppbcdollomebaaDoor
open Go.RowKit

theorem bytes_ext {S T : ByteArray} (h : S.data.toList = T.data.toList) : S = T := by
  cases S; cases T
  simp only at h
  rw [Array.toList_inj.1 h]

set_option maxRecDepth 100000 in
set_option maxHeartbeats 8000000 in
theorem rsame_all : ∀ (N : Nat) (x : RT), SizeOf.sizeOf x ≤ N → ∀ (w : World) (P Q : Nat → Prop) (a0 a1 a2 a3 b0 b1 b2 b3 : Value), RepAt w P x [a0, a1, a2, a3] → RepAt w Q x [b0, b1, b2, b3] →
    Calls Tryd.prog 13 #[.agg #[a0, a1, a2, a3], .agg #[b0, b1, b2, b3]] w fun en w' => en = .returned (.bool true) ∧ Below w.heap.size w w' := by
  intro N
  induction N with
  | zero => intro x hx; cases x; simp at hx
  | succ N ih =>
    intro x hx w P Q a0 a1 a2 a3 b0 b1 b2 b3 hA hB
    obtain ⟨k, t, n, l⟩ := x
    obtain ⟨T, A, c, ha, hT, hlen, hka⟩ := hA.form
    obtain ⟨S, B, d, hb, hS, _, hkb⟩ := hB.form
    obtain rfl : T = S := bytes_ext (hT.trans hS.symm)
    injection ha with e0 ha; injection ha with e1 ha; injection ha with e2 ha; injection ha with e3 _
    injection hb with g0 hb; injection hb with g1 hb; injection hb with g2 hb; injection hb with g3 _
    subst e0 e1 e2 e3 g0 g1 g2 g3
    obtain ⟨len, hl⟩ : ∃ len, l.length = len := ⟨_, rfl⟩
    have HKA := Lib.hid hka
    have HKB := Lib.hid hkb
    have HIH := Lib.hid ih
    have HSZ := Lib.hid hx
    have HL := Lib.hid hl
    rw [hl] at hlen ⊢
    clear hA hB hka hkb ih hx hT hS hl
    go_enter Tryd.func13, Tryd.ntmps13
    go_wp2
    obtain ⟨wa, hwa⟩ : ∃ wa, (w.alloc (.cells #[.int .i64 k, .string T, .int .i64 n, .slice A len c] 25)).alloc (.cells #[.int .i64 k, .string T, .int .i64 n, .slice B len d] 25) = wa := ⟨_, rfl⟩
    have hba : Below w.heap.size w wa := by rw [← hwa]; exact ((Below.refl _ _).alloc (Nat.le_refl _) _).alloc (by simp) _
    have hsa : wa.heap.size = w.heap.size + 2 := by rw [← hwa]; simp
    have ya : wa.cell? ⟨w.heap.size, 3, none⟩ = some (.slice A len c) := by
      rw [← hwa]
      exact (((Below.refl (w.heap.size + 1) (w.alloc (.cells #[.int .i64 k, .string T, .int .i64 n, .slice A len c] 25))).alloc (by simp) _).cell (p := ⟨w.heap.size, 3, none⟩) (by show w.heap.size < w.heap.size + 1; omega)).trans (cell_in (World.alloc_heap_new w _))
    have yb : wa.cell? ⟨w.heap.size + 1, 3, none⟩ = some (.slice B len d) := by
      rw [← hwa]
      have h := World.alloc_heap_new (w.alloc (.cells #[.int .i64 k, .string T, .int .i64 n, .slice A len c] 25)) (.cells #[.int .i64 k, .string T, .int .i64 n, .slice B len d] 25)
      rw [show (w.alloc (.cells #[.int .i64 k, .string T, .int .i64 n, .slice A len c] 25)).heap.size = w.heap.size + 1 from by simp] at h
      exact cell_in h
    try rw [hwa]
    have HBA := Lib.hid hba
    have HYA := Lib.hid ya
    have HYB := Lib.hid yb
    clear hwa hba ya yb
    go_loopw [5] (fun iv wr => ∃ j : Nat, iv = .int .i64 j ∧ j ≤ len ∧ Below wa.heap.size wa wr) (fun iv _ => len - (intOf iv).toNat)
    case atStart => exact ⟨0, rfl, by omega, Below.refl _ _⟩
    case round =>
      obtain ⟨j, rfl, hj, hbr⟩ := hrel
      have za := (hbr.cell (p := ⟨w.heap.size, 3, none⟩) (by show w.heap.size < wa.heap.size; omega)).trans HYA.out
      have zb := (hbr.cell (p := ⟨w.heap.size + 1, 3, none⟩) (by show w.heap.size + 1 < wa.heap.size; omega)).trans HYB.out
      have HBR := Lib.hid hbr
      have hzr := hbr.size
      clear hbr
      by_cases hlt : j < len
      · obtain ⟨x, hx⟩ : ∃ x, l[j]? = some x := ⟨_, List.getElem?_eq_getElem (by rw [HL.out]; exact hlt)⟩
        have hsx : SizeOf.sizeOf x ≤ N := by
          have h1 := List.sizeOf_lt_of_mem (List.mem_of_getElem? hx)
          have h2 := HSZ.out
          simp only [RT.node.sizeOf_spec] at h2
          omega
        have HSX := Lib.hid hsx
        have hwr : Below w.heap.size w wr := HBA.out.trans (HBR.out.mono (by omega))
        obtain ⟨g, o, v0, v1, v2, v3, rfl, hg, ⟨p0, p1, p2, p3⟩, hra⟩ := HKA.out j x hx
        obtain ⟨g', o', u0, u1, u2, u3, rfl, hg', ⟨q0, q1, q2, q3⟩, hrb⟩ := HKB.out j x hx
        have p0 := (hwr.cell (p := ⟨g, o + j * 4, none⟩) hg).trans p0
        have p1 := (hwr.cell (p := ⟨g, o + j * 4 + 1, none⟩) hg).trans p1
        have p2 := (hwr.cell (p := ⟨g, o + j * 4 + 2, none⟩) hg).trans p2
        have p3 := (hwr.cell (p := ⟨g, o + j * 4 + 3, none⟩) hg).trans p3
        have q0 := (hwr.cell (p := ⟨g', o' + j * 4, none⟩) hg').trans q0
        have q1 := (hwr.cell (p := ⟨g', o' + j * 4 + 1, none⟩) hg').trans q1
        have q2 := (hwr.cell (p := ⟨g', o' + j * 4 + 2, none⟩) hg').trans q2
        have q3 := (hwr.cell (p := ⟨g', o' + j * 4 + 3, none⟩) hg').trans q3
        have HCA := Lib.hid (fun (W : World) (hW : Below wr.heap.size wr W) => HIH.out x HSX.out W P Q v0 v1 v2 v3 u0 u1 u2 u3 (hra.keep (Nat.le_trans hwr.size hW.size) (fun _ h _ => h) (fun b _ hb => (hW.block b (by have := hwr.size; omega)).trans (hwr.block b hb))) (hrb.keep (Nat.le_trans hwr.size hW.size) (fun _ h _ => h) (fun b _ hb => (hW.block b (by have := hwr.size; omega)).trans (hwr.block b hb))))
        clear hx hsx hra hrb hwr
        go_wp2
        go_region_law (go_simp; go_at_call 13; refine (HCA.out _ (by first | exact (Below.refl _ _).drew | exact Below.refl _ _)).mono ?_; rintro en w4 ⟨rfl, hb4⟩; have HB4 := Lib.hid (show Below wa.heap.size wa w4 from HBR.out.trans (Below.mono (show Below wr.heap.size wr w4 from by first | exact hb4 | exact (Below.refl wr.heap.size wr).drew.trans hb4) hzr)); clear hb4)
        all_goals
          go_wp2
          go_roundw
          case rel => exact ⟨j + 1, by go_num, by omega, HB4.out⟩
          case measure => simp only [intOf]; omega
      · obtain rfl : j = len := by omega
        go_wp2
        go_ret
        exact ⟨rfl, HBA.out.trans (HBR.out.mono (by omega))⟩

end Go.Proofs.YtppbcdollomebaaDoor
