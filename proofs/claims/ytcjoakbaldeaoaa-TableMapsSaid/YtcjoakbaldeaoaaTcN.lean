/-
  A table that nobody made, nil or zeroed: what each call of package table tells of it; the walk of TableNobody at any text and any draw. items$1, the closure that lays a key and its value behind the rest. All's closure with items$1: a table's keys and values in a row of the call's own. items: a table's keys and values; same: two rows that read alike.
-/
import Derived.Test.YtcjoakbaldeaoaaTcS
import Derived.Test.YtcjoakbaldeaoaaTcB
import Derived.Test.YtcjoakbaldeaoaaGTqI
namespace Go.Proofs.Ytcjoakbaldeaoaa
open Go.RowKit

section
/-- Of it isMade tells false, from here on. -/
def NM (w : World) (v : Value) : Prop := ∀ X, Below w.heap.size w X → Calls Try.prog 51 #[v] X fun e w' => e = .returned (.bool false) ∧ w' = X

theorem NM.below {w X : World} {v : Value} (h : NM w v) (hX : Below w.heap.size w X) : NM X v := fun Y hY => h Y (hX.trans (hY.mono hX.size))

theorem nm_nil (w : World) : NM w (.pointer none) := fun X _ => isMadeI_nil X

theorem nm_zero {w : World} {Q : Nat} (hQ : Q < w.heap.size) (c0 : w.cell? ⟨Q, 0, none⟩ = some (.pointer none)) : NM w (.pointer (some ⟨Q, 0, none⟩)) := fun X hX => isMadeI_zero Q X ((hX.cell (p := ⟨Q, 0, none⟩) hQ).trans c0)

set_option maxRecDepth 100000 in
set_option maxHeartbeats 8000000 in
theorem len_nm {w : World} {v : Value} (h : NM w v) (X : World) (hX : Below w.heap.size w X) :
    Calls Try.prog 18 #[v] X fun e w' => e = .returned (.int .i64 0) ∧ w' = X := by
  have H := Lib.hid h
  have HX := Lib.hid hX
  clear h hX
  go_enter Try.func18, Try.ntmps18
  go_wp2_with fail
  refine (H.out _ (by first | exact HX.out | exact HB1.out)).mono ?_
  rintro e w1 ⟨rfl, rfl⟩
  go_wp2
  go_ret
  exact ⟨rfl, rfl⟩

set_option maxRecDepth 100000 in
set_option maxHeartbeats 8000000 in
theorem sizes_nm {w : World} {v : Value} (h : NM w v) (X : World) (hX : Below w.heap.size w X) :
    Calls Try.prog 17 #[v] X fun e w' => e = .returned (.tuple #[.int .i64 0, .int .i64 0, .int .i64 0]) ∧ w' = X := by
  have H := Lib.hid h
  have HX := Lib.hid hX
  clear h hX
  go_enter Try.func17, Try.ntmps17
  go_wp2_with fail
  refine (H.out _ (by first | exact HX.out | exact HB1.out)).mono ?_
  rintro e w1 ⟨rfl, rfl⟩
  go_wp2
  first | (go_ret; exact ⟨rfl, rfl⟩) | exact bodyPost_ret (v := .tuple #[.int .i64 0, .int .i64 0, .int .i64 0]) (by simp [results, go_sem]) rfl ⟨rfl, rfl⟩

set_option maxRecDepth 100000 in
set_option maxHeartbeats 8000000 in
theorem look_nm {w : World} {v : Value} (h : NM w v) (K : ByteArray) (X : World) (hX : Below w.heap.size w X) :
    Calls Try.prog 28 #[v, .string K] X fun e w' => e = .returned (.tuple #[.int .i64 0, .bool false]) ∧ w' = X := by
  have H := Lib.hid h
  have HX := Lib.hid hX
  clear h hX
  go_enter Try.func28, Try.ntmps28
  go_wp2_with fail
  refine (H.out _ (by first | exact HX.out | exact HB1.out)).mono ?_
  rintro e w1 ⟨rfl, rfl⟩
  go_wp2
  go_ret2
  exact ⟨rfl, rfl⟩

set_option maxRecDepth 100000 in
set_option maxHeartbeats 8000000 in
theorem step_nm {w : World} {v : Value} (h : NM w v) (X : World) (hX : Below w.heap.size w X) :
    Calls Try.prog 40 #[v] X fun e w' => e = .returned (.bool false) ∧ w' = X := by
  have H := Lib.hid h
  have HX := Lib.hid hX
  clear h hX
  go_enter Try.func40, Try.ntmps40
  go_wp2_with fail
  refine (H.out _ (by first | exact HX.out | exact HB1.out)).mono ?_
  rintro e w1 ⟨rfl, rfl⟩
  go_wp2
  go_ret
  exact ⟨rfl, rfl⟩

set_option maxRecDepth 100000 in
set_option maxHeartbeats 8000000 in
theorem get_nm {w : World} {v : Value} (h : NM w v) (K : ByteArray) (X : World) (hX : Below w.heap.size w X) :
    Calls Try.prog 36 #[v, .string K] X fun e w' => e = .returned (.tuple #[.int .i64 0, .bool false]) ∧ w' = X := by
  have H := Lib.hid h
  have HX := Lib.hid hX
  clear h hX
  go_enter Try.func36, Try.ntmps36
  go_wp2_with fail
  refine (step_nm H.out _ HX.out).mono ?_
  rintro e w1 ⟨rfl, rfl⟩
  go_wp2_with fail
  refine (look_nm H.out K _ HX.out).mono ?_
  rintro e w1 ⟨rfl, rfl⟩
  go_wp2
  go_ret2
  exact ⟨rfl, rfl⟩

set_option maxRecDepth 100000 in
set_option maxHeartbeats 8000000 in
theorem put_nm {w : World} {v : Value} (h : NM w v) (K : ByteArray) (n : Int) (X : World) (hX : Below w.heap.size w X) :
    Calls Try.prog 38 #[v, .string K, .int .i64 n] X fun e w' => e = .returned (.bool false) ∧ w' = X := by
  have H := Lib.hid h
  have HX := Lib.hid hX
  clear h hX
  go_enter Try.func38, Try.ntmps38
  go_wp2_with fail
  refine (H.out _ (by first | exact HX.out | exact HB1.out)).mono ?_
  rintro e w1 ⟨rfl, rfl⟩
  go_wp2
  go_ret
  exact ⟨rfl, rfl⟩

set_option maxRecDepth 100000 in
set_option maxHeartbeats 8000000 in
theorem del_nm {w : World} {v : Value} (h : NM w v) (K : ByteArray) (X : World) (hX : Below w.heap.size w X) :
    Calls Try.prog 39 #[v, .string K] X fun e w' => e = .returned (.bool false) ∧ w' = X := by
  have H := Lib.hid h
  have HX := Lib.hid hX
  clear h hX
  go_enter Try.func39, Try.ntmps39
  go_wp2_with fail
  refine (H.out _ (by first | exact HX.out | exact HB1.out)).mono ?_
  rintro e w1 ⟨rfl, rfl⟩
  go_wp2
  go_ret
  exact ⟨rfl, rfl⟩

set_option maxRecDepth 100000 in
set_option maxHeartbeats 8000000 in
theorem pairs_nm {w : World} {v : Value} (h : NM w v) (X : World) (hX : Below w.heap.size w X) :
    Calls Try.prog 78 #[v] X fun e w' => e = .returned (.slice none 0 0) ∧ w' = X := by
  have H := Lib.hid h
  have HX := Lib.hid hX
  clear h hX
  go_enter Try.func78, Try.ntmps78
  go_wp2_with fail
  refine (H.out _ (by first | exact HX.out | exact HB1.out)).mono ?_
  rintro e w1 ⟨rfl, rfl⟩
  go_wp2
  go_ret
  exact ⟨rfl, rfl⟩

set_option maxRecDepth 100000 in
set_option maxHeartbeats 8000000 in
theorem pick_nm {w : World} {v : Value} (h : NM w v) (draw : Int) :
    Calls Try.prog 37 #[v, .int .u64 draw] w fun e w' => e = .returned (.tuple #[.string ⟨#[]⟩, .int .i64 0, .bool false]) ∧ Below w.heap.size w w' := by
  have HLEN := Lib.hid (fun (W : World) (hW : Below w.heap.size w W) => show Calls Try.prog 18 #[v] W (fun e w' => e = .returned (.int .i64 0) ∧ Below W.heap.size W w') from (len_nm h W hW).mono (fun e w' he => ⟨he.1, by rw [he.2]; exact Below.refl _ _⟩))
  clear h
  go_enter Try.func37, Try.ntmps37
  go_wp2_with fail
  obtain ⟨wz, hwz⟩ : ∃ wz, ((w.alloc (.cells #[.string ⟨#[]⟩] 9)).alloc (.cells #[.int .i64 0] 3)).alloc (.cells #[.bool false] 4) = wz := ⟨_, rfl⟩
  have hbz : Below w.heap.size w wz := by rw [← hwz]; exact (((Below.refl w.heap.size w).alloc (Nat.le_refl _) _).alloc (by simp) _).alloc (by simp; omega) _
  have hb4 : Boxed wz w.heap.size 9 (.string ⟨#[]⟩) := by rw [← hwz]; exact ((Boxed.new w _ _).alloc _).alloc _
  have hb5 : Boxed wz (w.heap.size + 1) 3 (.int .i64 0) := by rw [← hwz]; have q := (Boxed.new (w.alloc (.cells #[.string ⟨#[]⟩] 9)) 3 (.int .i64 0)).alloc (.cells #[.bool false] 4); rw [World.size_alloc] at q; exact q
  have hb6 : Boxed wz (w.heap.size + 2) 4 (.bool false) := by rw [← hwz]; have q := Boxed.new ((w.alloc (.cells #[.string ⟨#[]⟩] 9)).alloc (.cells #[.int .i64 0] 3)) 4 (.bool false); rw [World.size_alloc, World.size_alloc] at q; exact q
  rw [hwz]
  have hsz : wz.heap.size = w.heap.size + 3 := by rw [← hwz]; simp
  clear hwz
  refine (HLEN.out _ hbz).mono ?_
  rintro e w1 ⟨rfl, hb1⟩
  have d4 := hb4.kept (row := none) ⟨hb1.os, hb1.tape, hb1.output, hb1.size, fun k hk _ => hb1.block k hk⟩ (by simp)
  have d5 := hb5.kept (row := none) ⟨hb1.os, hb1.tape, hb1.output, hb1.size, fun k hk _ => hb1.block k hk⟩ (by simp)
  have d6 := hb6.kept (row := none) ⟨hb1.os, hb1.tape, hb1.output, hb1.size, fun k hk _ => hb1.block k hk⟩ (by simp)
  have e4 := d4.cell
  have e5 := d5.cell
  have e6 := d6.cell
  have f4 := d4.frozen
  have f5 := d5.frozen
  have f6 := d6.frozen
  have HBZ := Lib.hid (hbz.trans (hb1.mono hbz.size))
  have HD4 := Lib.hid d4
  have HD5 := Lib.hid d5
  have HD6 := Lib.hid d6
  have HQW : Hid (w.heap.size ≤ wz.heap.size) := hbz.size
  clear hb1 hb4 hb5 hb6 hsz hbz d4 d5 d6
  go_wp2
  have g4 := (((HD4.out.set (.string ⟨#[]⟩)).other (B' := w.heap.size + 1) (by omega) (.int .i64 0)).other (B' := w.heap.size + 2) (by omega) (.bool false)).cell
  have g5 := (((HD5.out.other (B' := w.heap.size) (by omega) (.string ⟨#[]⟩)).set (.int .i64 0)).other (B' := w.heap.size + 2) (by omega) (.bool false)).cell
  have g6 := (((HD6.out.other (B' := w.heap.size) (by omega) (.string ⟨#[]⟩)).other (B' := w.heap.size + 1) (by omega) (.int .i64 0)).set (.bool false)).cell
  have hbf := ((HBZ.out.setCell (p := ⟨w.heap.size, 0, none⟩) (Nat.le_refl _) (.string ⟨#[]⟩)).setCell (p := ⟨w.heap.size + 1, 0, none⟩) (by show w.heap.size ≤ w.heap.size + 1; omega) (.int .i64 0)).setCell (p := ⟨w.heap.size + 2, 0, none⟩) (by show w.heap.size ≤ w.heap.size + 2; omega) (.bool false)
  obtain ⟨wf, hwf⟩ : ∃ wf, (((w1.setCell ⟨w.heap.size, 0, none⟩ (.string ⟨#[]⟩)).setCell ⟨w.heap.size + 1, 0, none⟩ (.int .i64 0)).setCell ⟨w.heap.size + 2, 0, none⟩ (.bool false)) = wf := ⟨_, rfl⟩
  rw [show w.heap.size + 1 + 1 = w.heap.size + 2 from rfl, hwf]
  rw [hwf] at g4 g5 g6 hbf
  exact bodyPost_ret (v := .tuple #[.string ⟨#[]⟩, .int .i64 0, .bool false]) (by simp [results, Try.results37, go_sem, g4, g5, g6]) rfl ⟨rfl, hbf⟩

set_option maxRecDepth 100000 in
set_option maxHeartbeats 8000000 in
theorem map_nm {w : World} {v : Value} (h : NM w v) (F : Fn) (F1 F2 : Array Value) :
    Calls Try.prog 41 #[v, .func F F1 F2] w fun e w' => e = .returned (.pointer none) ∧ Below w.heap.size w w' := by
  have H := Lib.hid h
  clear h
  go_enter_defers Try.func41, Try.ntmps41
  go_wp2_with fail
  obtain ⟨wz, hwz⟩ : ∃ wz, w.alloc (.cells #[.func F F1 F2] 73) = wz := ⟨_, rfl⟩
  have hbz : Below w.heap.size w wz := by rw [← hwz]; exact (Below.refl w.heap.size w).alloc (Nat.le_refl _) _
  rw [hwz]
  have HBZ := Lib.hid hbz
  clear hwz hbz
  refine (H.out _ HBZ.out).mono ?_
  rintro e w1 ⟨rfl, rfl⟩
  go_wp2
  exact ⟨_, results_tmp rfl _ _ _, rfl, HBZ.out⟩

set_option maxRecDepth 100000 in
set_option maxHeartbeats 8000000 in
theorem allI_any (p : Option Addr) (w : World) :
    Calls Try.prog 43 #[.pointer p] w fun e w' => e = .returned (.func (.func 77) #[] #[.pointer (some ⟨w.heap.size, 0, none⟩)]) ∧ w' = w.alloc (.cells #[.pointer p] 28) := by
  have hmf : ∀ (fn : Fn) (first cap : Array Value) (w : World), (Instr.makeFunc fn first cap).run Try.prog w = .ok (.func fn first cap) w := fun _ _ _ _ => rfl
  go_enter Try.func43, Try.ntmps43
  go_wp2
  go_ret
  exact ⟨rfl, rfl⟩

set_option maxRecDepth 100000 in
set_option maxHeartbeats 8000000 in
theorem all1_nm {w : World} {v : Value} (h : NM w v) {B : Nat} (hc : w.cell? ⟨B, 0, none⟩ = some v) (y : Value) :
    Calls Try.prog 77 #[y, .pointer (some ⟨B, 0, none⟩)] w fun e w' => e = .returned (.tuple #[]) ∧ Below w.heap.size w w' := by
  have H := Lib.hid h
  clear h
  go_enter Try.func77, Try.ntmps77
  go_wp2_with fail
  refine (pairs_nm H.out _ (Below.refl _ _)).mono ?_
  rintro e w1 ⟨rfl, rfl⟩
  go_wp2_with fail
  go_loopw [8] (fun iv wr => iv = .int .i64 0 ∧ wr = w1) (fun _ _ => 0)
  case atStart => exact ⟨rfl, rfl⟩
  case round =>
    obtain ⟨rfl, rfl⟩ := hrel
    go_wp2
    go_end0
    exact ⟨rfl, Below.refl _ _⟩

set_option maxRecDepth 100000 in
set_option maxHeartbeats 8000000 in
theorem map_nof (Q : Nat) (w : World) (c0 : w.cell? ⟨Q, 0, none⟩ = some (.pointer (some ⟨Q, 0, none⟩))) :
    Calls Try.prog 41 #[.pointer (some ⟨Q, 0, none⟩), .nilFunc] w fun e w' => e = .returned (.pointer none) ∧ Below w.heap.size w w' := by
  have hQ : Q < w.heap.size := World.block_lt_of_cell? w _ c0
  have hnf : ∀ W : World, (binOp .eql 73 .nilFunc .nilFunc).run Try.prog W = .ok (.bool true) W := fun _ => by first | rfl | kernel_rfl
  have HM := Lib.hid (fun (X : World) (hX : Below w.heap.size w X) => isMadeI_any Q X ((hX.cell (p := ⟨Q, 0, none⟩) hQ).trans c0))
  clear c0
  go_enter_defers Try.func41, Try.ntmps41
  go_wp2_with fail
  obtain ⟨wz, hwz⟩ : ∃ wz, w.alloc (.cells #[.nilFunc] 73) = wz := ⟨_, rfl⟩
  have hbz : Below w.heap.size w wz := by rw [← hwz]; exact (Below.refl w.heap.size w).alloc (Nat.le_refl _) _
  have hq := heap_alloc_new w (.cells #[.nilFunc] 73)
  rw [hwz] at hq
  have cz : wz.cell? ⟨w.heap.size, 0, none⟩ = some .nilFunc := by simp [World.cell?, hq]
  rw [hwz]
  have HBZ := Lib.hid hbz
  clear hwz hbz hq
  refine (HM.out _ HBZ.out).mono ?_
  rintro e w1 ⟨rfl, rfl⟩
  go_wp2
  exact ⟨_, results_tmp rfl _ _ _, rfl, HBZ.out⟩

set_option maxRecDepth 100000 in
set_option maxHeartbeats 16000000 in
theorem tableNobody_any (s : ByteArray) (x : Int) (w : World) :
    Calls Try.prog 9 #[.string s, .int .u64 x] w fun e w' => e = .returned (.bool true) ∧ Below w.heap.size w w' := by
  have hmf : ∀ (fn : Fn) (first cap : Array Value) (w : World), (Instr.makeFunc fn first cap).run Try.prog w = .ok (.func fn first cap) w := fun _ _ _ _ => rfl
  have hng : ∀ (W : World) (f : Fn) (a b : Array Value), (binOp .eql 75 (.func f a b) .nilFunc).run Try.prog W = .ok (.bool false) W := fun _ _ _ _ => by first | rfl | kernel_rfl
  have HNEW := Lib.hid (fun X => newI_any 1 X)
  go_enter Try.func9, Try.ntmps9
  go_wp2_with fail
  obtain ⟨w0, hw0⟩ : ∃ w0, (w.alloc (.cells #[.pointer none, .int .u64 0, .int .i64 0, .slice none 0 0, .slice none 0 0, .int .i64 0] 67)).alloc (.cells #[.pointer none, .pointer (some ⟨w.heap.size, 0, none⟩)] 28) = w0 := ⟨_, rfl⟩
  have hb0 : Below w.heap.size w w0 := by rw [← hw0]; exact ((Below.refl w.heap.size w).alloc (Nat.le_refl _) _).alloc (by simp) _
  have hsz : w0.heap.size = w.heap.size + 2 := by rw [← hw0]; simp
  have hB1 := heap_alloc_new (w.alloc (.cells #[.pointer none, .int .u64 0, .int .i64 0, .slice none 0 0, .slice none 0 0, .int .i64 0] 67)) (.cells #[.pointer none, .pointer (some ⟨w.heap.size, 0, none⟩)] 28)
  rw [World.size_alloc, hw0] at hB1
  have hB0 := (((Below.refl (w.heap.size + 1) (w.alloc (.cells #[.pointer none, .int .u64 0, .int .i64 0, .slice none 0 0, .slice none 0 0, .int .i64 0] 67))).alloc (by simp) (.cells #[.pointer none, .pointer (some ⟨w.heap.size, 0, none⟩)] 28)).block w.heap.size (by omega)).trans (heap_alloc_new w _)
  rw [hw0] at hB0
  have z0 : w0.cell? ⟨w.heap.size, 0, none⟩ = some (.pointer none) := by simp [World.cell?, hB0]
  have z1 : w0.cell? ⟨w.heap.size + 1, 0, none⟩ = some (.pointer none) := by simp [World.cell?, hB1]
  have z2 : w0.cell? ⟨w.heap.size + 1, 1, none⟩ = some (.pointer (some ⟨w.heap.size, 0, none⟩)) := by simp [World.cell?, hB1]
  rw [hw0]
  obtain ⟨N, hN⟩ : ∃ N, w.heap.size + 1 = N := ⟨_, rfl⟩
  rw [hN] at z1 z2 ⊢
  have HEL : Hid (∀ (X : World) (i : Nat), Below w0.heap.size w0 X → i < 2 → ∃ p, X.cell? ⟨N, i, none⟩ = some (.pointer p) ∧ NM X (.pointer p)) := by
    intro X i hX hi
    have hi2 : i = 0 ∨ i = 1 := by omega
    rcases hi2 with rfl | rfl
    · exact ⟨none, (hX.cell (p := ⟨N, 0, none⟩) (by show N < _; omega)).trans z1, nm_nil X⟩
    · exact ⟨some ⟨w.heap.size, 0, none⟩, (hX.cell (p := ⟨N, 1, none⟩) (by show N < _; omega)).trans z2, (nm_zero (by omega) z0).below hX⟩
  have HB0 := Lib.hid hb0
  have HSZ := Lib.hid hsz
  clear hw0 hb0 hsz hB1 hB0 z0 z1 z2
  have hN2 : 1 ≤ N := by omega
  clear hN
  go_loopw [26] (fun iv wr => ∃ i : Nat, iv = .int .i64 i ∧ i ≤ 2 ∧ Below w0.heap.size w0 wr) (fun iv _ => 2 - (intOf iv).toNat)
  case atStart => exact ⟨0, rfl, by omega, Below.refl _ _⟩
  case round =>
    obtain ⟨i, rfl, hi, hbr⟩ := hrel
    have HBR := Lib.hid hbr
    clear hbr
    by_cases hlt : i < 2
    · obtain ⟨p, hp, hnm⟩ := HEL.out wr i HBR.out hlt
      have HP := Lib.hid hnm
      have HBX := Lib.hid (Below.refl wr.heap.size wr)
      clear hnm
      go_wp2_with fail
      refine (get_nm HP.out s _ (Below.refl _ _)).mono ?_
      rintro e w1 ⟨rfl, rfl⟩
      go_wp2_with fail
      refine (look_nm HP.out s _ (Below.refl _ _)).mono ?_
      rintro e w1 ⟨rfl, rfl⟩
      go_wp2_with fail
      refine (pick_nm HP.out x).mono ?_
      rintro e w2 ⟨rfl, hb2⟩
      have HP2 := Lib.hid (HP.out.below hb2)
      have HB2 := Lib.hid (HBR.out.trans (hb2.mono HBR.out.size))
      clear hb2 hp HP HBX
      go_wp2_with fail
      refine (sizes_nm HP2.out _ (Below.refl _ _)).mono ?_
      rintro e w3 ⟨rfl, rfl⟩
      go_wp2_with fail
      refine (put_nm HP2.out s 1 _ (Below.refl _ _)).mono ?_
      rintro e w3 ⟨rfl, rfl⟩
      go_wp2_with fail
      refine (del_nm HP2.out s _ (Below.refl _ _)).mono ?_
      rintro e w3 ⟨rfl, rfl⟩
      go_wp2_with fail
      refine (step_nm HP2.out _ (Below.refl _ _)).mono ?_
      rintro e w3 ⟨rfl, rfl⟩
      go_wp2_with fail
      refine (len_nm HP2.out _ (Below.refl _ _)).mono ?_
      rintro e w3 ⟨rfl, rfl⟩
      go_wp2_with fail
      refine (map_nm HP2.out _ _ _).mono ?_
      rintro e w4 ⟨rfl, hb4⟩
      have HP4 := Lib.hid (HP2.out.below hb4)
      have HB4 := Lib.hid (HB2.out.trans (hb4.mono HB2.out.size))
      clear hb4 HP2 HB2
      go_wp2_with fail
      obtain ⟨w5, hw5⟩ : ∃ w5, w4.alloc (.cells #[.bool false] 4) = w5 := ⟨_, rfl⟩
      have hb5 : Below w4.heap.size w4 w5 := by rw [← hw5]; exact (Below.refl _ _).alloc (Nat.le_refl _) _
      have hq5 := heap_alloc_new w4 (.cells #[.bool false] 4)
      have hs5 : w5.heap.size = w4.heap.size + 1 := by rw [← hw5]; simp
      rw [hw5] at hq5 ⊢
      have c5 : w5.cell? ⟨w4.heap.size, 0, none⟩ = some (.bool false) := by simp [World.cell?, hq5]
      have HP5 := Lib.hid (HP4.out.below hb5)
      have HB5 := Lib.hid (HB4.out.trans (hb5.mono HB4.out.size))
      obtain ⟨M, hM⟩ : ∃ M, w4.heap.size = M := ⟨_, rfl⟩
      rw [hM] at c5 hs5 ⊢
      clear hw5 hb5 hq5 hM HP4 HB4
      refine (allI_any p w5).mono ?_
      rintro e w6 ⟨rfl, hw6⟩
      have hb6 : Below w5.heap.size w5 w6 := by rw [hw6]; exact (Below.refl _ _).alloc (Nat.le_refl _) _
      have hq6 := heap_alloc_new w5 (.cells #[.pointer p] 28)
      rw [← hw6] at hq6
      have d6 : w6.cell? ⟨w5.heap.size, 0, none⟩ = some (.pointer p) := by simp [World.cell?, hq6]
      have c6 : w6.cell? ⟨M, 0, none⟩ = some (.bool false) := (hb6.cell (p := ⟨M, 0, none⟩) (by show M < _; omega)).trans c5
      have HM6 : Hid (M < w6.heap.size) := by unfold Hid; have := hb6.size; omega
      have HP6 := Lib.hid (HP5.out.below hb6)
      have HB6 := Lib.hid (HB5.out.trans (hb6.mono HB5.out.size))
      clear hw6 hb6 hq6 HP5 HB5 c5 hs5
      go_wp2_with fail
      refine (all1_nm HP6.out d6 _).mono ?_
      rintro e w7 ⟨rfl, hb7⟩
      have c7 : w7.cell? ⟨M, 0, none⟩ = some (.bool false) := (hb7.cell (p := ⟨M, 0, none⟩) HM6.out).trans c6
      have HB7 := Lib.hid (HB6.out.trans (hb7.mono HB6.out.size))
      clear hb7 c6 d6 HP6 HB6
      go_wp2
      go_roundw
      case rel => exact ⟨i + 1, by go_num, by omega, HB7.out⟩
      case measure => simp only [intOf]; omega
    · obtain rfl : i = 2 := by omega
      clear hlt hi
      go_wp2_with fail
      refine (HNEW.out _).mono ?_
      rintro e w1 ⟨Q, o1, gA, sA, gB, sB, rfl, hp, hb1⟩
      have HB1 := Lib.hid (HBR.out.trans (hb1.mono HBR.out.size))
      have c1 : w1.cell? ⟨Q, 0, none⟩ = some (.pointer (some ⟨Q, 0, none⟩)) := hp.hd.cell (by omega)
      clear hp hb1
      go_wp2_with fail
      refine (map_nof Q _ c1).mono ?_
      rintro e w2 ⟨rfl, hb2⟩
      have HB2 := Lib.hid (HB1.out.trans (hb2.mono HB1.out.size))
      clear hb2 c1
      go_wp2_with fail
      refine (alive_any w2).mono ?_
      rintro e w3 ⟨rfl, hb3⟩
      have HB3 := Lib.hid (HB0.out.trans ((HB2.out.trans (hb3.mono HB2.out.size)).mono HB0.out.size))
      clear hb3
      go_wp2
      go_ret
      exact ⟨rfl, HB3.out⟩
end

section
set_option maxRecDepth 100000 in
set_option maxHeartbeats 8000000 in
theorem items1_any {w : World} {n0 B : Nat} {v : Value} {xs : List (List UInt8 × Int)} (K : ByteArray) (n : Int) (hbx : Boxed w B 42 v) (hrow : w.ownsRow n0 53 2 v xs.length (itemCells xs)) (hn0 : n0 ≤ w.heap.size) (hB : n0 ≤ B) (hl : xs.length ≤ 100000) :
    Calls Try.prog 52 #[.string K, .int .i64 n, .pointer (some ⟨B, 0, none⟩)] w fun e w' => e = .returned (.bool (decide (((xs.length + 1 : Nat) : Int) < 5000))) ∧ ∃ v', Boxed w' B 42 v' ∧ w'.ownsRow n0 53 2 v' (xs.length + 1) (itemCells (xs ++ [(K.data.toList, n)])) ∧ Below n0 w w' ∧ (∀ k, k < w.heap.size → k ≠ B → some k ≠ v.ownBlock → w'.heap[k]? = w.heap[k]?) ∧ (v'.ownBlock = v.ownBlock ∨ v'.ownBlock = some (w.heap.size + 1)) := by
  have c0 := hbx.cell
  obtain ⟨w1, hw1⟩ : ∃ w1, w.alloc (.cells #[.string K, .int .i64 n] 53) = w1 := ⟨_, rfl⟩
  have hq1 := heap_alloc_new w (.cells #[.string K, .int .i64 n] 53)
  have hs1 : w1.heap.size = w.heap.size + 1 := by rw [← hw1]; simp
  rw [hw1] at hq1
  have hrow1 : w1.ownsRow n0 53 2 v xs.length (itemCells xs) := by rw [← hw1]; exact hrow.alloc _
  have hbk : BktAt w1 (some ⟨w.heap.size, 0, none⟩) w.heap.size 0 1 [(K.data.toList, n)] := ⟨Nat.le_refl 1, by decide, fun _ => ⟨rfl, by omega⟩, fun i x hx => by
    cases i with
    | zero =>
      simp only [List.getElem?_cons_zero, Option.some.injEq] at hx
      subst hx
      exact ⟨by simp [World.cell?, hq1], by simp [World.cell?, hq1]⟩
    | succ i => simp at hx, fun e => by cases e⟩
  have HW1 := Lib.hid hw1
  have HROW1 := Lib.hid hrow1
  have HBK := Lib.hid hbk
  have HROW := Lib.hid hrow
  have HBX := Lib.hid hbx
  obtain ⟨Av, cv, rfl⟩ := own_form hrow
  have hs1' : n0 ≤ w1.heap.size := by omega
  clear hw1 hq1 hrow1 hbk hrow hbx
  go_enter Try.func52, Try.ntmps52
  go_wp2_with (first | rw [HW1.out] | (at_builtin; refine wpList_append_items rfl _ _ rfl n0 _ xs rfl HROW1.out (some ⟨w.heap.size, 0, none⟩) w.heap.size 0 1 [(K.data.toList, n)] rfl HBK.out ?c1 ?c2 ?_))
  try case c1 => simp; omega
  try case c2 => exact hs1'
  intro v' w' hown' hgr hor
  replace hown' : w'.ownsRow n0 53 2 v' (xs.length + 1) (itemCells (xs ++ [(K.data.toList, n)])) := hown'
  have hgr' : (w.alloc (.cells #[.string K, .int .i64 n] 53)).grownBy w' (Value.slice Av xs.length cv).ownBlock := by rw [HW1.out]; exact hgr
  obtain ⟨a1, a2, a3, a4, a5⟩ := Boxed.appended HBX.out (by decide) HROW.out hn0 hB hown' hgr'
  have hoth : ∀ k, k < w.heap.size → k ≠ B → some k ≠ (Value.slice Av xs.length cv).ownBlock → w'.heap[k]? = w.heap[k]? := fun k hk _ hne => by
    have h1 := hgr.block k (by omega) hne
    have h2 := ((Below.refl w.heap.size w).alloc (Nat.le_refl _) (.cells #[.string K, .int .i64 n] 53)).block k hk
    rw [HW1.out] at h2
    exact h1.trans h2
  obtain ⟨Av', cv', rfl⟩ := own_form hown'
  obtain ⟨m, hm⟩ : ∃ m, xs.length + 1 = m := ⟨_, rfl⟩
  rw [hm] at a2 a3 a4 a5 hown' hor ⊢
  have e1 := a1.cell
  have f1 := a1.frozen
  obtain ⟨wf, hwf⟩ : ∃ wf, w'.setCell ⟨B, 0, none⟩ (.slice Av' m cv') = wf := ⟨_, rfl⟩
  have hoth2 : ∀ k, k < w.heap.size → k ≠ B → some k ≠ (Value.slice Av xs.length cv).ownBlock → wf.heap[k]? = w.heap[k]? := fun k hk hkB hne => by
    rw [← hwf]
    exact (Below.heap_setCell _ _ _ _ (by show k ≠ B; exact hkB)).trans (hoth k hk hkB hne)
  rw [hwf] at a2 a3 a4 a5
  have e2 := a2.cell
  have HWF := Lib.hid hwf
  have HA2 := Lib.hid a2
  have HA3 := Lib.hid a3
  have HA5 := Lib.hid a5
  have HO2 := Lib.hid hoth2
  have HOR := Lib.hid hor
  clear hown' hgr hgr' a1 a2 a3 a4 a5 hoth hoth2 hwf hor
  have hmx := Lib.hid hm
  clear hm
  go_wp2_with fail
  rw [HWF.out, hmx.out]
  go_ret
  exact ⟨rfl, _, HA2.out, HA3.out, HA5.out, HO2.out, HOR.out⟩

theorem rows_apart {w : World} {b1 b2 s1 s2 n1 n2 : Nat} {e1 e2 : TypeId} {v1 v2 : Value} {x1 x2 : List Value} (h1 : w.ownsRow b1 e1 s1 v1 n1 x1) (h2 : w.ownsRow b2 e2 s2 v2 n2 x2) (hne : e1 ≠ e2) {b : Nat} (q1 : v1.ownBlock = some b) : some b ≠ v2.ownBlock := by
  intro q2
  rcases h1.2 with ⟨rfl, _⟩ | ⟨g, cap, cur, rfl, _, hg, _⟩
  · cases q1
  · rcases h2.2 with ⟨rfl, _⟩ | ⟨g', cap', cur', rfl, _, hg', _⟩
    · cases q2
    · simp only [Value.ownBlock, Option.some.injEq] at q1 q2
      subst q1
      rw [q2, hg'] at hg
      simp only [Option.some.injEq, Obj.cells.injEq] at hg
      exact hne hg.2.1.symm

theorem by_w {G F : World → Prop} {goal : Prop} (h1 : Hid (∀ W, F W → G W) → goal) (h2 : ∀ W, F W → G W) : goal := h1 h2

set_option maxRecDepth 100000 in
set_option maxHeartbeats 8000000 in
theorem all1_items {w : World} {base Q A B n0 seed m : Nat} {ow : Own} {t : Tb Int} {gA gB : Nat} {sA sB : Nat → Value} (h : PT KI w base ow Q 67 seed t gA sA gB sB) (hg : Good (hashT seed) m t) (hm : m ≤ 4000) (hks : KeysT (fun k => k.length ≤ 1000) t) (hkl : ∀ x ∈ allT t, x.1.length ≤ 1000)
    (hA : w.cell? ⟨A, 0, none⟩ = some (.pointer (some ⟨Q, 0, none⟩))) (hbx : Boxed w B 42 (.slice none 0 0)) (hn0 : n0 ≤ B) :
    Calls Try.prog 77 #[.func (.func 52) #[] #[.pointer (some ⟨B, 0, none⟩)], .pointer (some ⟨A, 0, none⟩)] w fun e w' => e = .returned (.tuple #[]) ∧ ∃ v', Boxed w' B 42 v' ∧ w'.ownsRow n0 53 2 v' (allT t).length (itemCells (allT t)) ∧ Below n0 w w' := by
  have HP := Lib.hid (pairsI_any w h hg (by omega) hks)
  have hlen : (allT t).length < 5000 := by have := all_length hg.cnt; have := hg.n; omega
  have hBw := hbx.lt
  have HBX := Lib.hid hbx
  obtain ⟨l, hl⟩ : ∃ l, allT t = l := ⟨_, rfl⟩
  rw [hl] at HP hlen hkl ⊢
  have HKL := Lib.hid hkl
  obtain ⟨N, hN⟩ : ∃ N, l.length = N := ⟨_, rfl⟩
  have HN := Lib.hid hN
  clear h hg hks hbx hl hkl
  go_enter Try.func77, Try.ntmps77
  go_wp2_with fail
  refine HP.out.mono ?_
  rintro e w2 ⟨vp, rfl, hrow, hb2⟩
  obtain ⟨Ap, cp, rfl⟩ := own_form hrow
  have HROW := Lib.hid hrow
  have HB2 := Lib.hid hb2
  have HBX2 : Hid (Boxed w2 B 42 (.slice none 0 0)) := (hb2.block B hBw).trans HBX.out
  rw [hN] at HROW hlen ⊢
  clear hrow hb2 hN
  go_wp2_with fail
  go_loopw [8] (fun iv wr => ∃ (j : Nat) (v : Value), iv = .int .i64 j ∧ j ≤ N ∧ Boxed wr B 42 v ∧ wr.ownsRow n0 53 2 v j (itemCells (l.take j)) ∧ Below n0 w wr ∧ wr.ownsRow w.heap.size 95 2 (.slice Ap N cp) N (encIt KI.enc l)) (fun iv _ => N - (intOf iv).toNat)
  case atStart => exact ⟨0, _, rfl, by omega, HBX2.out, ⟨rfl, .inl ⟨rfl, rfl⟩⟩, HB2.out.mono (by omega), HROW.out⟩
  case round =>
    obtain ⟨j, v, rfl, hj, hbxr, hrowr, hbr, hpr⟩ := hrel
    by_cases hlt : j < N
    · obtain ⟨⟨k, n⟩, hx⟩ : ∃ x, l[j]? = some x := ⟨_, List.getElem?_eq_getElem (by rw [HN.out]; exact hlt)⟩
      have hk := HKL.out (k, n) (List.mem_of_getElem? hx)
      have HTK : Hid (l.take (j + 1) = l.take j ++ [(k, n)]) := by unfold Hid; rw [List.take_add_one, hx, Option.toList_some]
      obtain ⟨g, rfl⟩ : ∃ g, Ap = some ⟨g, 0, none⟩ := by
        rcases hpr.2 with ⟨q, q2⟩ | ⟨g, cap, cur, q, _⟩
        · omega
        · injection q with q
          exact ⟨g, q⟩
      have e0 := (World.ownsRow.cellAt hpr (j * 2) (by omega)).trans (encIt_get KI.enc l j _ hx).1
      have e1 := (World.ownsRow.cellAt hpr (j * 2 + 1) (by omega)).trans (encIt_get KI.enc l j _ hx).2
      obtain ⟨K, hK⟩ : ∃ K : ByteArray, (⟨k.toArray⟩ : ByteArray) = K := ⟨_, rfl⟩
      have hKd : K.data.toList = k := by rw [← hK]
      dsimp only at e0 hk
      replace e1 : wr.cell? ⟨g, j * 2 + 1, none⟩ = some (.int .i64 n) := e1
      rw [hK] at e0
      have hKs : K.size ≤ 1000 := by rw [← hK]; simpa [ByteArray.size] using hk
      have HCL := Lib.hid (fun X => clone_any K X (by omega))
      obtain ⟨wb, hwb⟩ : ∃ wb, wr.alloc (.cells #[.string K, .int .i64 n] 95) = wb := ⟨_, rfl⟩
      have hqb := heap_alloc_new wr (.cells #[.string K, .int .i64 n] 95)
      have hbb : Below wr.heap.size wr wb := by rw [← hwb]; exact (Below.refl _ _).alloc (Nat.le_refl _) _
      have hsb : wb.heap.size = wr.heap.size + 1 := by rw [← hwb]; simp
      rw [hwb] at hqb
      have hrlt := hbxr.lt
      have hzr : n0 ≤ wr.heap.size := by omega
      have hap : ∀ b, (Value.slice (some ⟨g, 0, none⟩) N cp).ownBlock = some b → some b ≠ v.ownBlock := fun b q => rows_apart hpr hrowr (by decide) q
      have hgl := World.block_lt_of_cell? wr _ e0
      have HST : Hid (∀ X, Below wb.heap.size wb X → X.cell? ⟨wr.heap.size, 0, none⟩ = some (.string K) ∧ X.cell? ⟨wr.heap.size, 1, none⟩ = some (.int .i64 n)) := fun X hX => by
        have hq := (hX.block wr.heap.size (by omega)).trans hqb
        exact ⟨by simp [World.cell?, hq], by simp [World.cell?, hq]⟩
      have HIT : Hid (∀ X, Below wb.heap.size wb X → Calls Try.prog 52 #[.string K, .int .i64 n, .pointer (some ⟨B, 0, none⟩)] X fun e W' => e = .returned (.bool true) ∧ ∃ v', Boxed W' B 42 v' ∧ W'.ownsRow n0 53 2 v' (j + 1) (itemCells (l.take (j + 1))) ∧ Below n0 w W' ∧ W'.ownsRow w.heap.size 95 2 (.slice (some ⟨g, 0, none⟩) N cp) N (encIt KI.enc l)) := fun X hX => by
        have hX2 : Below wr.heap.size wr X := hbb.trans (hX.mono (by omega))
        have hlj : (l.take j).length = j := by rw [List.length_take, HN.out]; omega
        have hr' := ownsRow_of_block hrowr (w' := X) (fun b hb => hX2.block b (hrowr.lt b hb).2)
        have hq := items1_any (w := X) (xs := l.take j) K n ((hX2.block B hrlt).trans hbxr) (by rw [hlj]; exact hr') (by have := hX2.size; omega) hn0 (by omega)
        refine hq.mono ?_
        rintro e W' ⟨rfl, v', q1, q2, q3, q4, _⟩
        rw [hlj] at q2
        rw [hKd, ← HTK.out] at q2
        refine ⟨by rw [hlj, decide_eq_true (by omega)], v', q1, q2, (hbr.trans (hX2.mono hzr)).trans q3, ?_⟩
        refine ownsRow_of_block hpr (fun b hb => ?_)
        have hbl := (hpr.lt b hb).2
        have hbB : b ≠ B := fun e => by
          subst e
          exact hbxr.not_row (by decide) hpr hb.symm
        exact (q4 b (by have := hX2.size; omega) hbB (hap b hb)).trans (hX2.block b hbl)
      have HWB := Lib.hid hwb
      obtain ⟨M, hM⟩ : ∃ M, wr.heap.size = M := ⟨_, rfl⟩
      rw [hM] at HST
      have HM := Lib.hid hM
      obtain ⟨y0, y1⟩ := HST.out wb (Below.refl _ _)
      have hcp : N ≤ 9223372036854775807 := by omega
      clear hqb hbb hsb hrlt hap hbxr hrowr hbr hpr hx hk hK hKd hwb hM HN HROW HBX2
      go_wp2_with fail
      rw [HWB.out, HM.out]
      apply by_w (F := fun W' => ∃ v', Boxed W' B 42 v' ∧ W'.ownsRow n0 53 2 v' (j + 1) (itemCells (l.take (j + 1))) ∧ Below n0 w W' ∧ W'.ownsRow w.heap.size 95 2 (.slice (some ⟨g, 0, none⟩) N cp) N (encIt KI.enc l))
      case h1 =>
        intro HFIN
        go_region_law (first
          | (have qq := HX4; go_simp; go_at_call 52; refine (HIT.out _ (by first | exact HX4.out | exact HX4.out.drew)).mono ?_; rintro en w5 ⟨rfl, hv5⟩; have HV5 := Lib.hid hv5; clear hv5)
          | (go_simp; go_at_call 59; refine (HCL.out _).mono ?_; rintro en w4 ⟨rfl, hb4⟩; have HX4 : Hid (Below wb.heap.size wb w4) := (by first | exact hb4 | exact (Below.refl wb.heap.size wb).drew.trans hb4); obtain ⟨x0, x1⟩ := HST.out w4 HX4.out; clear hb4))
        all_goals
          exact HFIN.out w5 HV5.out
      case h2 =>
        intro wf hround
        have HR := Lib.hid hround
        clear hround y0 y1 e0 e1
        go_wp2
        go_roundw
        case rel =>
          obtain ⟨v', q1, q2, q3, q4⟩ := HR.out
          exact ⟨j + 1, v', by go_num, by omega, q1, q2, q3, q4⟩
        case measure => simp only [intOf]; omega
    · obtain rfl : j = N := by omega
      have HE : Hid (l.take j = l) := List.take_of_length_le (by rw [HN.out]; exact Nat.le_refl _)
      have HQ := Lib.hid hbxr
      have HQ2 := Lib.hid hrowr
      have HQ3 := Lib.hid hbr
      clear hbxr hrowr hbr hpr
      go_wp2_with fail
      go_end0
      rw [HN.out]
      exact ⟨rfl, v, HQ.out, by have q := HQ2.out; rw [HE.out] at q; exact q, HQ3.out⟩

theorem keys_all {p : List UInt8 → Prop} {t : Tb Int} (h : KeysT p t) : ∀ x ∈ allT t, p x.1 := by
  intro x hx
  unfold allT at hx
  rcases List.mem_append.1 hx with hx | hx
  · obtain ⟨l, hl, hxl⟩ := List.mem_flatten.1 hx
    obtain ⟨i, hi⟩ := List.getElem?_of_mem hl
    exact h.1 i l hi x hxl
  · obtain ⟨l, hl, hxl⟩ := List.mem_flatten.1 hx
    obtain ⟨i, hi⟩ := List.getElem?_of_mem hl
    exact h.2 i l hi x hxl

set_option maxRecDepth 100000 in
set_option maxHeartbeats 8000000 in
theorem items_any {w : World} {base Q seed m : Nat} {ow : Own} {t : Tb Int} {gA gB : Nat} {sA sB : Nat → Value} (h : PT KI w base ow Q 67 seed t gA sA gB sB) (hg : Good (hashT seed) m t) (hm : m ≤ 4000) (hks : KeysT (fun k => k.length ≤ 1000) t) :
    Calls Try.prog 20 #[.pointer (some ⟨Q, 0, none⟩)] w fun e w' => ∃ v, e = .returned v ∧ w'.ownsRow w.heap.size 53 2 v (allT t).length (itemCells (allT t)) ∧ Below w.heap.size w w' := by
  have hmf : ∀ (fn : Fn) (first cap : Array Value) (w : World), (Instr.makeFunc fn first cap).run Try.prog w = .ok (.func fn first cap) w := fun _ _ _ _ => rfl
  have hng : ∀ (W : World) (f : Fn) (a b : Array Value), (binOp .eql 75 (.func f a b) .nilFunc).run Try.prog W = .ok (.bool false) W := fun _ _ _ _ => by first | rfl | kernel_rfl
  have HALL : Hid (∀ (X : World) (A : Nat), Below w.heap.size w X → X.cell? ⟨A, 0, none⟩ = some (.pointer (some ⟨Q, 0, none⟩)) → Boxed X w.heap.size 42 (.slice none 0 0) → Calls Try.prog 77 #[.func (.func 52) #[] #[.pointer (some ⟨w.heap.size, 0, none⟩)], .pointer (some ⟨A, 0, none⟩)] X fun e w' => e = .returned (.tuple #[]) ∧ ∃ v', Boxed w' w.heap.size 42 v' ∧ w'.ownsRow w.heap.size 53 2 v' (allT t).length (itemCells (allT t)) ∧ Below w.heap.size X w') :=
    fun X A hX hA hb => all1_items (h.below' hX) hg hm hks (keys_all hks) hA hb (Nat.le_refl _)
  clear h hg hks
  obtain ⟨w1, hw1⟩ : ∃ w1, w.alloc (.cells #[.slice none 0 0] 42) = w1 := ⟨_, rfl⟩
  have hb1 : Below w.heap.size w w1 := by rw [← hw1]; exact (Below.refl _ _).alloc (Nat.le_refl _) _
  have hx1 : Boxed w1 w.heap.size 42 (.slice none 0 0) := by rw [← hw1]; exact Boxed.new w _ _
  have HW1 := Lib.hid hw1
  have HB1 := Lib.hid hb1
  have HX1 := Lib.hid hx1
  clear hw1 hb1 hx1
  go_enter Try.func20, Try.ntmps20
  go_wp2_with fail
  rw [HW1.out]
  refine (allI_any (some ⟨Q, 0, none⟩) w1).mono ?_
  rintro e w2 ⟨rfl, hw2⟩
  have hb2 : Below w1.heap.size w1 w2 := by rw [hw2]; exact (Below.refl _ _).alloc (Nat.le_refl _) _
  have hc2 : w2.cell? ⟨w1.heap.size, 0, none⟩ = some (.pointer (some ⟨Q, 0, none⟩)) := by
    have q := heap_alloc_new w1 (.cells #[.pointer (some ⟨Q, 0, none⟩)] 28)
    rw [← hw2] at q
    simp [World.cell?, q]
  have HC2 := Lib.hid hc2
  have HX2 : Hid (Boxed w2 w.heap.size 42 (.slice none 0 0)) := by unfold Hid; rw [hw2]; exact HX1.out.alloc _
  have HB2 := Lib.hid (HB1.out.trans (hb2.mono HB1.out.size))
  clear hw2 hb2 hc2
  go_wp2_with fail
  refine (HALL.out _ _ HB2.out HC2.out HX2.out).mono ?_
  rintro e w3 ⟨rfl, v, q1, q2, q3⟩
  have c3 := q1.cell
  have HQ2 := Lib.hid q2
  have HB3 := Lib.hid (HB2.out.trans q3)
  obtain ⟨Av, cv, rfl⟩ := own_form q2
  clear q1 q2 q3
  go_wp2
  go_ret
  exact ⟨_, rfl, HQ2.out, HB3.out⟩

set_option maxRecDepth 100000 in
set_option maxHeartbeats 8000000 in
theorem same_any {w : World} {b1 b2 : Nat} {v1 v2 : Value} {l : List (List UInt8 × Int)} (h1 : w.ownsRow b1 53 2 v1 l.length (itemCells l)) (h2 : w.ownsRow b2 53 2 v2 l.length (itemCells l)) (hl : l.length ≤ 100000) :
    Calls Try.prog 19 #[v1, v2] w fun e w' => e = .returned (.bool true) ∧ Below w.heap.size w w' := by
  obtain ⟨A1, c1, rfl⟩ := own_form h1
  obtain ⟨A2, c2, rfl⟩ := own_form h2
  have H1 := Lib.hid h1
  have H2 := Lib.hid h2
  obtain ⟨N, hN⟩ : ∃ N, l.length = N := ⟨_, rfl⟩
  have HN := Lib.hid hN
  rw [hN] at H1 H2 hl ⊢
  clear h1 h2 hN
  go_enter Try.func19, Try.ntmps19
  go_wp2_with fail
  go_loopw [5] (fun iv wr => ∃ j : Nat, iv = .int .i64 j ∧ j ≤ N ∧ Below w.heap.size w wr) (fun iv _ => N - (intOf iv).toNat)
  case atStart => exact ⟨0, rfl, by omega, Below.refl _ _⟩
  case round =>
    obtain ⟨j, rfl, hj, hb⟩ := hrel
    have HB := Lib.hid hb
    clear hb
    by_cases hlt : j < N
    · obtain ⟨⟨k, n⟩, hx⟩ : ∃ x, l[j]? = some x := ⟨_, List.getElem?_eq_getElem (by rw [HN.out]; exact hlt)⟩
      obtain ⟨g1, rfl⟩ : ∃ g, A1 = some ⟨g, 0, none⟩ := by
        rcases H1.out.2 with ⟨q, q2⟩ | ⟨g, cap, cur, q, _⟩
        · omega
        · injection q with q
          exact ⟨g, q⟩
      obtain ⟨g2, rfl⟩ : ∃ g, A2 = some ⟨g, 0, none⟩ := by
        rcases H2.out.2 with ⟨q, q2⟩ | ⟨g, cap, cur, q, _⟩
        · omega
        · injection q with q
          exact ⟨g, q⟩
      obtain ⟨K, hK⟩ : ∃ K : ByteArray, (⟨k.toArray⟩ : ByteArray) = K := ⟨_, rfl⟩
      have d0 := (World.ownsRow.cellAt H1.out (j * 2) (by omega)).trans (encIt_get KR.enc l j _ hx).1
      have d1 := (World.ownsRow.cellAt H1.out (j * 2 + 1) (by omega)).trans (encIt_get KR.enc l j _ hx).2
      have e0 := (World.ownsRow.cellAt H2.out (j * 2) (by omega)).trans (encIt_get KR.enc l j _ hx).1
      have e1 := (World.ownsRow.cellAt H2.out (j * 2 + 1) (by omega)).trans (encIt_get KR.enc l j _ hx).2
      dsimp only at d0 e0
      rw [hK] at d0 e0
      replace d0 := (HB.out.cell (p := ⟨g1, j * 2, none⟩) (World.block_lt_of_cell? w _ d0)).trans d0
      replace e0 := (HB.out.cell (p := ⟨g2, j * 2, none⟩) (World.block_lt_of_cell? w _ e0)).trans e0
      replace d1 : wr.cell? ⟨g1, j * 2 + 1, none⟩ = some (.int .i64 n) := (HB.out.cell (p := ⟨g1, j * 2 + 1, none⟩) (World.block_lt_of_cell? w _ d1)).trans d1
      replace e1 : wr.cell? ⟨g2, j * 2 + 1, none⟩ = some (.int .i64 n) := (HB.out.cell (p := ⟨g2, j * 2 + 1, none⟩) (World.block_lt_of_cell? w _ e1)).trans e1
      have k0 : (K.toList == K.toList) = true := by simp
      have k1 : (n == n) = true := by simp
      clear hx hK
      have hne : ∀ X : World, (binOp .neq 53 (.agg #[.string K, .int .i64 n]) (.agg #[.string K, .int .i64 n])).run Try.prog X = .ok (.bool false) X := by intro X; go_simp
      go_wp2_with fail
      go_quiet (fail)
      go_wp2
      go_roundw
      case rel => exact ⟨j + 1, by go_num, by omega, HB.out.trans (bdN _ _ _)⟩
      case measure => simp only [intOf]; omega
    · obtain rfl : j = N := by omega
      go_wp2
      go_ret
      exact ⟨rfl, HB.out⟩
end

end Go.Proofs.Ytcjoakbaldeaoaa
