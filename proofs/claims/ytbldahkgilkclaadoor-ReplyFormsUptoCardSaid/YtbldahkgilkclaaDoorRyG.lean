/-
  The walks of package reply's Check and Encode at a bulk, and of what every statement of layer 3 asks besides: alive. Condition: the table of powers of ten holds what its own text lays.
-/
import Derived.Test.YtbldahkgilkclaaDoorRyF
import Derived.Test.YtbldahkgilkclaaDoorKit
import Derived.Lib.SlBytesConst
namespace Go.Proofs.YtbldahkgilkclaaDoor
open Go.RowKit

set_option maxRecDepth 100000 in
set_option maxHeartbeats 1000000 in
theorem pnests_bulk (T : ByteArray) (w : World) :
    Calls Tryd.prog 17 #[.agg #[.int .i64 4, .string T, .int .i64 0, .slice none 0 0], .int .i64 8] w fun e w' => e = .returned (.bool false) ∧ Below w.heap.size w w' := by
  go_enter Tryd.func17, Tryd.ntmps17
  go_wp2
  go_ret
  exact ⟨rfl, ((Below.refl _ _).alloc (Nat.le_refl _) _).alloc (by simp) _⟩

set_option maxRecDepth 100000 in
set_option maxHeartbeats 2000000 in
theorem pcheck_bulk (T : ByteArray) (w : World) (hs : T.size ≤ 65536) :
    Calls Tryd.prog 8 #[.agg #[.int .i64 4, .string T, .int .i64 0, .slice none 0 0]] w fun e w' => e = .returned (.int .i64 0) ∧ Below w.heap.size w w' := by
  have HM := Lib.hid (fun w => pmayBe_bulk T w (by omega))
  rw [decide_eq_true hs] at HM
  obtain ⟨wb, hwb⟩ : ∃ wb, w.alloc (.cells #[.int .i64 4, .string T, .int .i64 0, .slice none 0 0] 25) = wb := ⟨_, rfl⟩
  have hnew : wb.heap[w.heap.size]? = some (.cells #[.int .i64 4, .string T, .int .i64 0, .slice none 0 0] 25) := by rw [← hwb]; exact World.alloc_heap_new w _
  have hbw : Below w.heap.size w wb := by rw [← hwb]; exact (Below.refl _ _).alloc (Nat.le_refl _) _
  have hlt : w.heap.size < wb.heap.size := by rw [← hwb]; simp
  have HW := Lib.hid hwb
  have HNEW := Lib.hid hnew
  have HBW := Lib.hid hbw
  clear hwb hnew hbw
  go_enter Tryd.func8, Tryd.ntmps8
  go_wp2_with fail
  rw [HW.out]
  refine (pnests_bulk T wb).mono ?_
  rintro e w2 ⟨rfl, hb2⟩
  have HB2 := Lib.hid (HBW.out.trans (hb2.mono (by omega)))
  have r0 := (hb2.cell (p := ⟨w.heap.size, 0, none⟩) hlt).trans (cell_in HNEW.out)
  have r1 := (hb2.cell (p := ⟨w.heap.size, 1, none⟩) hlt).trans (cell_in HNEW.out)
  have r2 := (hb2.cell (p := ⟨w.heap.size, 2, none⟩) hlt).trans (cell_in HNEW.out)
  have r3 := (hb2.cell (p := ⟨w.heap.size, 3, none⟩) hlt).trans (cell_in HNEW.out)
  have r0 : w2.cell? ⟨w.heap.size, 0, none⟩ = some (.int .i64 4) := r0
  have r1 : w2.cell? ⟨w.heap.size, 1, none⟩ = some (.string T) := r1
  have r2 : w2.cell? ⟨w.heap.size, 2, none⟩ = some (.int .i64 0) := r2
  have r3 : w2.cell? ⟨w.heap.size, 3, none⟩ = some (.slice none 0 0) := r3
  have hz2 := hb2.size
  clear hb2
  go_wp2_with fail
  refine (HM.out w2).mono ?_
  rintro e w3 ⟨rfl, hb3⟩
  have HB3 := Lib.hid (HB2.out.trans (hb3.mono (by omega)))
  clear hb3 r0 r1 r2 r3
  go_wp2
  go_ret
  exact ⟨rfl, HB3.out⟩

set_option maxRecDepth 100000 in
set_option maxHeartbeats 2000000 in
theorem pencode_bulk (T : ByteArray) (t : List UInt8) (w : World) (hx : T.data.toList = t) (ht : t.length ≤ 65536) (hp : Pows w) (hB : 1 < w.heap.size) :
    Calls Tryd.prog 6 #[.agg #[.int .i64 4, .string T, .int .i64 0, .slice none 0 0]] w fun e w' => ∃ v, e = .returned (.tuple #[v, .int .i64 0]) ∧ w'.ownsRow w.heap.size 5 1 v (bulkW t).length (Lib.byteCells (bulkW t)) ∧ Below w.heap.size w w' := by
  have hT : T.size ≤ 65536 := by
    have : T.size = t.length := by rw [← hx, Array.length_toList]; rfl
    omega
  obtain ⟨wb, hwb⟩ : ∃ wb, w.alloc (.cells #[.int .i64 4, .string T, .int .i64 0, .slice none 0 0] 25) = wb := ⟨_, rfl⟩
  have hnew : wb.heap[w.heap.size]? = some (.cells #[.int .i64 4, .string T, .int .i64 0, .slice none 0 0] 25) := by rw [← hwb]; exact World.alloc_heap_new w _
  have hbw : Below w.heap.size w wb := by rw [← hwb]; exact (Below.refl _ _).alloc (Nat.le_refl _) _
  have hlt : w.heap.size < wb.heap.size := by rw [← hwb]; simp
  have HW := Lib.hid hwb
  have HNEW := Lib.hid hnew
  have HBW := Lib.hid hbw
  have HP := Lib.hid hp
  have HX := Lib.hid hx
  clear hwb hnew hbw hp hx
  go_enter Tryd.func6, Tryd.ntmps6
  go_wp2_with fail
  rw [HW.out]
  refine (pcheck_bulk T wb hT).mono ?_
  rintro e w2 ⟨rfl, hb2⟩
  have HB2 := Lib.hid (HBW.out.trans (hb2.mono (by omega)))
  have r0 : w2.cell? ⟨w.heap.size, 0, none⟩ = some (.int .i64 4) := (hb2.cell (p := ⟨w.heap.size, 0, none⟩) hlt).trans (cell_in HNEW.out)
  have r1 : w2.cell? ⟨w.heap.size, 1, none⟩ = some (.string T) := (hb2.cell (p := ⟨w.heap.size, 1, none⟩) hlt).trans (cell_in HNEW.out)
  have r2 : w2.cell? ⟨w.heap.size, 2, none⟩ = some (.int .i64 0) := (hb2.cell (p := ⟨w.heap.size, 2, none⟩) hlt).trans (cell_in HNEW.out)
  have r3 : w2.cell? ⟨w.heap.size, 3, none⟩ = some (.slice none 0 0) := (hb2.cell (p := ⟨w.heap.size, 3, none⟩) hlt).trans (cell_in HNEW.out)
  have hz2 := hb2.size
  have HR := Lib.hid (pwithReply_bulk w.heap.size (.slice none 0 0) [] t T w2 ⟨rfl, .inl ⟨rfl, rfl⟩⟩ HX.out (by omega) (by simp) ht (HP.out.on HB2.out hB) (by omega))
  rw [List.nil_append] at HR
  clear hb2
  go_wp2_with fail
  refine HR.out.mono ?_
  rintro e w3 ⟨v3, rfl, hown3, hg3⟩
  have HB3 := Lib.hid (HB2.out.trans (hg3.low (n := w.heap.size) (by omega) (fun q hq => by cases hq)))
  have HO3 := Lib.hid hown3
  obtain ⟨A3, c3, rfl⟩ := ownsRow_form hown3
  clear hg3 hown3 r0 r1 r2 r3
  go_wp2
  go_ret2
  exact ⟨_, rfl, HO3.out, HB3.out⟩

def abc9 : List UInt8 := [36, 51, 13, 10, 97, 98, 99, 13, 10]
theorem abc_bulk : bulkW [97, 98, 99] = abc9 := by
  have h := itoa_parse [51] 3 (by decide)
  unfold bulkW
  rw [show (([97, 98, 99] : List UInt8).length : Int) = 3 from rfl, h.1]
  rfl

set_option maxRecDepth 100000 in
set_option maxHeartbeats 4000000 in
theorem yalive_any (w : World) (hp : Pows w) (hB : 1 < w.heap.size) :
    Calls Tryd.prog 12 #[] w fun e w' => e = .returned (.bool true) ∧ Below w.heap.size w w' := by
  have hcv := fun (w : World) (C : Array Value) (n c : Nat) => Lib.run_convert_bytes_const (P := Tryd.prog) w 26 5 C n c Tryd.underlying26 Tryd.underlying5
  have HE := Lib.hid (pencode_bulk ⟨#[97, 98, 99]⟩ [97, 98, 99] w rfl (by decide) hp hB)
  rw [abc_bulk] at HE
  clear hp
  go_enter Tryd.func12, Tryd.ntmps12
  go_wp2_with fail
  refine HE.out.mono ?_
  rintro e w1 ⟨v1, rfl, hown1, hb1⟩
  rcases hown1.2 with ⟨_, hl0⟩ | ⟨g, c1, cur, rfl, hg, hh, hn1, _⟩
  · simp [abc9] at hl0
  have HO1 := Lib.hid hown1
  have HB1 := Lib.hid hb1
  have hz1 := hb1.size
  obtain ⟨w2, hw2⟩ : ∃ w2, w1.alloc (.cells (l17.map fun c => Value.int .u8 (c.toNat : Int)).toArray 5 (8, 9)) = w2 := ⟨_, rfl⟩
  have hz2 : w2.heap.size = w1.heap.size + 1 := by rw [← hw2]; simp
  have hb2 : Below w1.heap.size w1 w2 := by rw [← hw2]; exact (Below.refl _ _).alloc (Nat.le_refl _) _
  have HD := Lib.hid (ydecode_17 w1.heap.size 8 w2 (by omega) (by omega) (by omega) (by rw [← hw2]; exact bytes_new w1 l17 (8, 9)))
  have HB2 := Lib.hid (HB1.out.trans (hb2.mono hz1))
  have HW2 := Lib.hid hw2
  have HO2 := Lib.hid (ownsRow_below HO1.out hb2)
  clear hown1 hb1 hh hw2 hb2
  have HD' := HD.out
  rw [← HW2.out] at HD'
  go_wp2_with fail
  refine HD'.mono ?_
  rw [HW2.out]
  clear HD' hcv
  rintro e w3 ⟨rfl, hb3⟩
  have HB3 := Lib.hid (HB2.out.trans (hb3.mono (by omega)))
  have hown3 := ownsRow_below HO2.out hb3
  have hcv1 := fun o => conv_bytes (w3.alloc o) g 0 c1 abc9 (own_bytes (hown3.alloc o))
  have hz3 := hb3.size
  rw [show abc9.length = 9 from rfl] at hcv1 ⊢
  unfold abc9 at hcv1
  unfold int17
  clear hb3 hown3 HO2 HO1 HE
  go_wp2
  go_ret
  exact ⟨rfl, HB3.out.alloc (by omega) _⟩

end Go.Proofs.YtbldahkgilkclaaDoor
