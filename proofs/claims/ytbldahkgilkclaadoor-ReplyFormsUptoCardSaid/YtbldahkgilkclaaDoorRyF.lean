/-
  The walks of package reply's whole and Decode at the bytes of -17 and two more, of Encode at a bulk, and of what every statement of layer 3 asks besides: alive. Condition: the table of powers of ten holds what its own text lays.
-/
import Derived.Test.YtbldahkgilkclaaDoorRyE
import Derived.Test.YtbldahkgilkclaaDoorRyC
namespace Go.Proofs.YtbldahkgilkclaaDoor
open Go.RowKit

theorem assert_nil_y (x : TypeId) (w : World) : (Instr.typeAssert .nilIface x 64 true).run Tryd.prog w = .ok (.tuple #[.int .i64 0, .bool false]) w := by
  simp [Instr.typeAssert, go_sem]

set_option maxRecDepth 100000 in
set_option maxHeartbeats 1000000 in
theorem yerrnoOf_nil (w : World) : Calls Tryd.prog 32 #[.nilIface] w fun e w' => e = .returned (.int .i64 0) ∧ w = w' := by
  have hta := assert_nil_y
  go_enter Tryd.func32, Tryd.ntmps32
  go_wp2
  go_ret
  exact ⟨rfl, rfl⟩

set_option maxRecDepth 100000 in
set_option maxHeartbeats 2000000 in
theorem ydeferred_ret (T : Nat) (v0 : Value) (w : World) (hc : w.cell? ⟨T, 0, none⟩ = some v0) (hf : w.frozen? ⟨T, 0, none⟩ = false) :
    CallsD Tryd.prog 31 #[.pointer (some ⟨T, 0, none⟩)] .returning w fun e u' w' => e = .returned (.tuple #[]) ∧ u' = .returning ∧ w' = w.setCell ⟨T, 0, none⟩ (.int .i64 0) := by
  refine callsD_of_wpS Tryd.func31 rfl fun c₀ cs hu => ?_
  apply wpS_region
  simp [wpOpsS, go_sem, recoverD, hu, Tryd.ntmps31]
  refine (yerrnoOf_nil w).mono ?_
  rintro e w' ⟨rfl, rfl⟩
  simp [go_sem, hc, hf, bodyPostS, results, Tryd.results31]
  cases c₀
  simp_all

set_option maxRecDepth 100000 in
set_option maxHeartbeats 4000000 in
theorem ywhole_17 (B b : Nat) (v : Value) (w : World) (hB : B < w.heap.size) (hb : b < w.heap.size) (hn : b ≠ B) (hc : w.cell? ⟨B, 0, none⟩ = some v) (hf : w.frozen? ⟨B, 0, none⟩ = false) (hl : LeftV w b v l17) :
    Calls Tryd.prog 22 #[.pointer (some ⟨B, 0, none⟩)] w fun e w' => e = .returned (.tuple #[int17, .int .i64 0]) ∧ ∃ v', LeftV w b v' [120, 121] ∧ Put w ⟨B, 0, none⟩ v' w' := by
  have hmf : ∀ (fn : Fn) (first cap : Array Value) (w : World), (Instr.makeFunc fn first cap).run Tryd.prog w = .ok (.func fn first cap) w := fun _ _ _ _ => rfl
  obtain ⟨w1, hw1⟩ : ∃ w1, w.alloc (.cells #[.int .i64 0, .string ⟨#[]⟩, .int .i64 0, .slice none 0 0] 25) = w1 := ⟨_, rfl⟩
  have hz1 : w1.heap.size = w.heap.size + 1 := by rw [← hw1]; simp
  have hb1 : Below w.heap.size w w1 := by rw [← hw1]; exact (Below.refl _ _).alloc (Nat.le_refl _) _
  have hn1 : w1.heap[w.heap.size]? = some (.cells #[.int .i64 0, .string ⟨#[]⟩, .int .i64 0, .slice none 0 0] 25) := by rw [← hw1]; exact World.alloc_heap_new w _
  obtain ⟨w2, hw2⟩ : ∃ w2, w1.alloc (.cells #[.int .i64 0] 27) = w2 := ⟨_, rfl⟩
  have hz2 : w2.heap.size = w.heap.size + 2 := by rw [← hw2, World.size_alloc, hz1]
  have hb2 : Below w1.heap.size w1 w2 := by rw [← hw2]; exact (Below.refl _ _).alloc (Nat.le_refl _) _
  have hn2 : w2.heap[w1.heap.size]? = some (.cells #[.int .i64 0] 27) := by rw [← hw2]; exact World.alloc_heap_new w1 _
  have hn12 := (hb2.block w.heap.size (by omega)).trans hn1
  rw [hz1] at hn2
  have hb12 : Below w.heap.size w w2 := hb1.trans (hb2.mono (by omega))
  have hca := (hb12.cell (p := ⟨B, 0, none⟩) hB).trans hc
  have hfa := (hb12.frozen (p := ⟨B, 0, none⟩) hB).trans hf
  have HLA := Lib.hid (hl.below hb12 hb)
  have HR := Lib.hid (yreply_17 B b v w2 (by omega) (by omega) hn hca hfa HLA.out)
  have HB12 := Lib.hid hb12
  have HN1 := Lib.hid hn12
  have HN2 := Lib.hid hn2
  have HCA := Lib.hid hca
  have HZ1 := Lib.hid hz1
  have HZ2 := Lib.hid hz2
  clear hb1 hn1 hb2 hn2 hn12 hb12 hca hfa hc hf hl hz2
  go_enter_defers Tryd.func22, Tryd.ntmps22
  go_wp2_with fail
  refine HR.out.mono ?_
  clear hw1 hw2 hz1
  rintro e w3 ⟨rfl, v3, hv3, hp3⟩
  have hz1 := HZ1.out
  have hz2 := HZ2.out
  have HP3 := Lib.hid (Put.after HB12.out hp3 hB)
  have HV3 := Lib.hid (LeftV.back hv3 (Put.after HB12.out (Put.refl HCA.out (by show B < w2.heap.size; omega)) hB) hb hn)
  have hne : ∀ (k i : Nat), k ≠ B → (⟨k, i, none⟩ : Addr) ≠ ⟨B, 0, none⟩ := fun k i h e => by injection e with e _ _; exact h e
  have r0 : w3.cell? ⟨w.heap.size, 0, none⟩ = some (.int .i64 0) := (hp3.old (q := ⟨w.heap.size, 0, none⟩) (hne _ 0 (by omega)) (by show w.heap.size < w2.heap.size; omega)).trans (cell_in HN1.out)
  have r1 : w3.cell? ⟨w.heap.size, 1, none⟩ = some (.string ⟨#[]⟩) := (hp3.old (q := ⟨w.heap.size, 1, none⟩) (hne _ 1 (by omega)) (by show w.heap.size < w2.heap.size; omega)).trans (cell_in HN1.out)
  have r2 : w3.cell? ⟨w.heap.size, 2, none⟩ = some (.int .i64 0) := (hp3.old (q := ⟨w.heap.size, 2, none⟩) (hne _ 2 (by omega)) (by show w.heap.size < w2.heap.size; omega)).trans (cell_in HN1.out)
  have r3 : w3.cell? ⟨w.heap.size, 3, none⟩ = some (.slice none 0 0) := (hp3.old (q := ⟨w.heap.size, 3, none⟩) (hne _ 3 (by omega)) (by show w.heap.size < w2.heap.size; omega)).trans (cell_in HN1.out)
  have q0 : w3.cell? ⟨w.heap.size + 1, 0, none⟩ = some (.int .i64 0) := (hp3.old (q := ⟨w.heap.size + 1, 0, none⟩) (hne _ 0 (by omega)) (by show w.heap.size + 1 < w2.heap.size; omega)).trans (cell_in HN2.out)
  have s0 := (hp3.frozen (q := ⟨w.heap.size, 0, none⟩) (by show w.heap.size < w2.heap.size; omega)).trans (mark_in HN1.out)
  have s1 := (hp3.frozen (q := ⟨w.heap.size, 1, none⟩) (by show w.heap.size < w2.heap.size; omega)).trans (mark_in HN1.out)
  have s2 := (hp3.frozen (q := ⟨w.heap.size, 2, none⟩) (by show w.heap.size < w2.heap.size; omega)).trans (mark_in HN1.out)
  have s3 := (hp3.frozen (q := ⟨w.heap.size, 3, none⟩) (by show w.heap.size < w2.heap.size; omega)).trans (mark_in HN1.out)
  have t0 := (hp3.frozen (q := ⟨w.heap.size + 1, 0, none⟩) (by show w.heap.size + 1 < w2.heap.size; omega)).trans (mark_in HN2.out)
  clear hp3 hv3 hne HR hz1 hz2
  unfold int17
  go_wp2
  obtain ⟨X, hX⟩ : ∃ X, ((((w3.setCell ⟨w.heap.size, 0, none⟩ (.int .i64 3)).setCell ⟨w.heap.size, 1, none⟩ (.string ⟨#[]⟩)).setCell ⟨w.heap.size, 2, none⟩ (.int .i64 (-17))).setCell ⟨w.heap.size, 3, none⟩ (.slice none 0 0)).setCell ⟨w.heap.size + 1, 0, none⟩ (.int .i64 0) = X := ⟨_, rfl⟩
  have x0 : X.cell? ⟨w.heap.size, 0, none⟩ = some (.int .i64 3) := by rw [← hX]; simp [go_sem, r0]
  have x1 : X.cell? ⟨w.heap.size, 1, none⟩ = some (.string ⟨#[]⟩) := by rw [← hX]; simp [go_sem, r1]
  have x2 : X.cell? ⟨w.heap.size, 2, none⟩ = some (.int .i64 (-17)) := by rw [← hX]; simp [go_sem, r2]
  have x3 : X.cell? ⟨w.heap.size, 3, none⟩ = some (.slice none 0 0) := by rw [← hX]; simp [go_sem, r3]
  have x4 : X.cell? ⟨w.heap.size + 1, 0, none⟩ = some (.int .i64 0) := by rw [← hX]; simp [go_sem, q0]
  have x5 : X.frozen? ⟨w.heap.size + 1, 0, none⟩ = false := by rw [← hX]; simp [go_sem, t0]
  have HPX := Lib.hid (show Put w ⟨B, 0, none⟩ v3 X from by rw [← hX]; exact ((((HP3.out.far (Nat.le_refl _) _).far (Nat.le_refl _) _).far (Nat.le_refl _) _).far (Nat.le_refl _) _).far (show w.heap.size ≤ w.heap.size + 1 from Nat.le_succ _) _)
  rw [hX]
  clear hX r0 r1 r2 r3 q0 s0 s1 s2 s3 t0
  refine leaves_cons (f := 31) (args := #[.pointer (some ⟨w.heap.size + 1, 0, none⟩)]) (by simp) (by simp [go_sem]) ?_
  refine (ydeferred_ret (w.heap.size + 1) (.int .i64 0) X x4 x5).mono ?_
  rintro e u' w'' ⟨rfl, rfl, rfl⟩
  simp [Leaves, settle, results, Tryd.results22, go_sem, x0, x1, x2, x3, x4, int17]
  exact ⟨v3, HV3.out, HPX.out.far (show w.heap.size ≤ w.heap.size + 1 from Nat.le_succ _) _⟩

set_option maxRecDepth 100000 in
set_option maxHeartbeats 4000000 in
theorem ydecode_17 (b cap : Nat) (w : World) (hcap : 8 ≤ cap) (hcm : cap ≤ 9223372036854775807) (hb : b < w.heap.size) (hl : BytesAt w b 0 l17) :
    Calls Tryd.prog 13 #[.slice (some ⟨b, 0, none⟩) 8 cap] w fun e w' => e = .returned (.tuple #[int17, .int .i64 6, .int .i64 0]) ∧ Below w.heap.size w w' := by
  obtain ⟨w1, hw1⟩ : ∃ w1, w.alloc (.cells #[.int .i64 0, .string ⟨#[]⟩, .int .i64 0, .slice none 0 0] 25) = w1 := ⟨_, rfl⟩
  have hz1 : w1.heap.size = w.heap.size + 1 := by rw [← hw1]; simp
  have hb1 : Below w.heap.size w w1 := by rw [← hw1]; exact (Below.refl _ _).alloc (Nat.le_refl _) _
  have hn1 : w1.heap[w.heap.size]? = some (.cells #[.int .i64 0, .string ⟨#[]⟩, .int .i64 0, .slice none 0 0] 25) := by rw [← hw1]; exact World.alloc_heap_new w _
  obtain ⟨w2, hw2⟩ : ∃ w2, w1.alloc (.cells #[.slice (some ⟨b, 0, none⟩) 8 cap, .int .i64 0] 50) = w2 := ⟨_, rfl⟩
  have hz2 : w2.heap.size = w.heap.size + 2 := by rw [← hw2, World.size_alloc, hz1]
  have hb2 : Below w1.heap.size w1 w2 := by rw [← hw2]; exact (Below.refl _ _).alloc (Nat.le_refl _) _
  have hn2 : w2.heap[w1.heap.size]? = some (.cells #[.slice (some ⟨b, 0, none⟩) 8 cap, .int .i64 0] 50) := by rw [← hw2]; exact World.alloc_heap_new w1 _
  have hn12 := (hb2.block w.heap.size (by omega)).trans hn1
  rw [hz1] at hn2
  have hb12 : Below w.heap.size w w2 := hb1.trans (hb2.mono (by omega))
  have hlv : LeftV w2 b (.slice (some ⟨b, 0, none⟩) 8 cap) l17 := ⟨0, cap, rfl, hcap, hcm, hl.below hb12 hb⟩
  have hcB : w2.cell? ⟨w.heap.size + 1, 0, none⟩ = some (.slice (some ⟨b, 0, none⟩) 8 cap) := (cell_in hn2).trans rfl
  have HR := Lib.hid (ywhole_17 (w.heap.size + 1) b _ w2 (by omega) (by omega) (by omega) hcB (mark_in hn2) hlv)
  have HB12 := Lib.hid hb12
  have HN1 := Lib.hid hn12
  have HCB := Lib.hid hcB
  have HZ1 := Lib.hid hz1
  have HZ2 := Lib.hid hz2
  have HW1 := Lib.hid hw1
  have HW2 := Lib.hid hw2
  clear hb1 hn1 hb2 hn2 hn12 hb12 hz2 hcB hlv hl hw1 hw2 hz1
  go_enter Tryd.func13, Tryd.ntmps13
  go_wp2_with fail
  rw [HW1.out, HW2.out]
  refine HR.out.mono ?_
  rintro e w3 ⟨rfl, v3, hv3, hp3⟩
  have hz2 := HZ2.out
  have hz3 := hp3.size
  obtain ⟨o3, c3, rfl, _⟩ := hv3
  have hne : ∀ (k i : Nat), k ≠ w.heap.size + 1 → (⟨k, i, none⟩ : Addr) ≠ ⟨w.heap.size + 1, 0, none⟩ := fun k i h e => by injection e with e _ _; exact h e
  have r0 : w3.cell? ⟨w.heap.size, 0, none⟩ = some (.int .i64 0) := (hp3.old (q := ⟨w.heap.size, 0, none⟩) (hne _ 0 (by omega)) (by show w.heap.size < w2.heap.size; omega)).trans (cell_in HN1.out)
  have r1 : w3.cell? ⟨w.heap.size, 1, none⟩ = some (.string ⟨#[]⟩) := (hp3.old (q := ⟨w.heap.size, 1, none⟩) (hne _ 1 (by omega)) (by show w.heap.size < w2.heap.size; omega)).trans (cell_in HN1.out)
  have r2 : w3.cell? ⟨w.heap.size, 2, none⟩ = some (.int .i64 0) := (hp3.old (q := ⟨w.heap.size, 2, none⟩) (hne _ 2 (by omega)) (by show w.heap.size < w2.heap.size; omega)).trans (cell_in HN1.out)
  have r3 : w3.cell? ⟨w.heap.size, 3, none⟩ = some (.slice none 0 0) := (hp3.old (q := ⟨w.heap.size, 3, none⟩) (hne _ 3 (by omega)) (by show w.heap.size < w2.heap.size; omega)).trans (cell_in HN1.out)
  have s0 := (hp3.frozen (q := ⟨w.heap.size, 0, none⟩) (by show w.heap.size < w2.heap.size; omega)).trans (mark_in HN1.out)
  have s1 := (hp3.frozen (q := ⟨w.heap.size, 1, none⟩) (by show w.heap.size < w2.heap.size; omega)).trans (mark_in HN1.out)
  have s2 := (hp3.frozen (q := ⟨w.heap.size, 2, none⟩) (by show w.heap.size < w2.heap.size; omega)).trans (mark_in HN1.out)
  have s3 := (hp3.frozen (q := ⟨w.heap.size, 3, none⟩) (by show w.heap.size < w2.heap.size; omega)).trans (mark_in HN1.out)
  have hcr := hp3.cell HCB.out
  have HBW : Hid (Below w.heap.size w w3) := HB12.out.trans ⟨hp3.os, hp3.tape, hp3.output, hp3.size, fun k hk => hp3.other k (by omega) (by show k ≠ w.heap.size + 1; omega)⟩
  have hlt3 : w.heap.size < w3.heap.size := by omega
  have hlt4 : w.heap.size + 1 < w3.heap.size := by omega
  clear hp3 hne HR hz2 hz3
  unfold int17
  go_wp2
  go_region
  all_goals
    go_wp2
    obtain ⟨Z, hZ⟩ : ∃ Z, (((w3.setCell ⟨w.heap.size, 0, none⟩ (.int .i64 3)).setCell ⟨w.heap.size, 1, none⟩ (.string ⟨#[]⟩)).setCell ⟨w.heap.size, 2, none⟩ (.int .i64 (-17))).setCell ⟨w.heap.size, 3, none⟩ (.slice none 0 0) = Z := ⟨_, rfl⟩
    have zs : Z.heap.size = w3.heap.size := by rw [← hZ]; simp [World.setCell]
    have x0 : Z.cell? ⟨w.heap.size, 0, none⟩ = some (.int .i64 3) := by rw [← hZ]; simp [go_sem, r0]
    have x1 : Z.cell? ⟨w.heap.size, 1, none⟩ = some (.string ⟨#[]⟩) := by rw [← hZ]; simp [go_sem, r1]
    have x2 : Z.cell? ⟨w.heap.size, 2, none⟩ = some (.int .i64 (-17)) := by rw [← hZ]; simp [go_sem, r2]
    have x3 : Z.cell? ⟨w.heap.size, 3, none⟩ = some (.slice none 0 0) := by rw [← hZ]; simp [go_sem, r3]
    have hbz : Below w.heap.size w Z := by rw [← hZ]; exact (((HBW.out.setCell (Nat.le_refl _) _).setCell (Nat.le_refl _) _).setCell (Nat.le_refl _) _).setCell (Nat.le_refl _) _
    rw [hZ]
    have hbo : Below w.heap.size w (Z.alloc (.cells #[.int .i64 3, .string ⟨#[]⟩, .int .i64 (-17), .slice none 0 0] 25)) := hbz.alloc (by omega) _
    have y0 := (World.cell?_alloc_lt Z (.cells #[.int .i64 3, .string ⟨#[]⟩, .int .i64 (-17), .slice none 0 0] 25) ⟨w.heap.size, 0, none⟩ (by show w.heap.size < Z.heap.size; omega)).trans x0
    have y1 := (World.cell?_alloc_lt Z (.cells #[.int .i64 3, .string ⟨#[]⟩, .int .i64 (-17), .slice none 0 0] 25) ⟨w.heap.size, 1, none⟩ (by show w.heap.size < Z.heap.size; omega)).trans x1
    have y2 := (World.cell?_alloc_lt Z (.cells #[.int .i64 3, .string ⟨#[]⟩, .int .i64 (-17), .slice none 0 0] 25) ⟨w.heap.size, 2, none⟩ (by show w.heap.size < Z.heap.size; omega)).trans x2
    have y3 := (World.cell?_alloc_lt Z (.cells #[.int .i64 3, .string ⟨#[]⟩, .int .i64 (-17), .slice none 0 0] 25) ⟨w.heap.size, 3, none⟩ (by show w.heap.size < Z.heap.size; omega)).trans x3
    refine bodyPost_ret (v := .tuple #[int17, .int .i64 6, .int .i64 0]) ?_ rfl ⟨rfl, by first | exact hbo.drew | exact hbo⟩
    simp [results, Tryd.results13, go_sem, int17, y0, y1, y2, y3]

end Go.Proofs.YtbldahkgilkclaaDoor
