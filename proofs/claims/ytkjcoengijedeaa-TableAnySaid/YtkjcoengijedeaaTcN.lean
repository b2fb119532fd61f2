/-
  A table that nobody made, nil or zeroed: what each call of package table tells of it; the walk of TableNobody at any text and any draw.
-/
import Derived.Test.YtkjcoengijedeaaTcV
namespace Go.Proofs.Ytkjcoengijedeaa
open Go.RowKit

/-- Of it isMade tells false, from here on. -/
def NM (w : World) (v : Value) : Prop := ∀ X, Below w.heap.size w X → Calls Try.prog 51 #[v] X fun e w' => e = .returned (.bool false) ∧ w' = X

theorem NM.below {w X : World} {v : Value} (h : NM w v) (hX : Below w.heap.size w X) : NM X v := fun Y hY => h Y (hX.trans (hY.mono hX.size))

theorem nm_nil (w : World) : NM w (.pointer none) := fun X _ => isMadeI_nil X

theorem nm_zero {w : World} {Q : Nat} (hQ : Q < w.heap.size) (c0 : w.cell? ⟨Q, 0, none⟩ = some (.pointer none)) : NM w (.pointer (some ⟨Q, 0, none⟩)) := fun X hX => isMadeI_zero Q X ((hX.cell (p := ⟨Q, 0, none⟩) hQ).trans c0)

set_option maxRecDepth 100000 in
set_option maxHeartbeats 8000000 in
theorem len_nm {w : World} {v : Value} (h : NM w v) (X : World) (hX : Below w.heap.size w X) :
    Calls Try.prog 18 #[v] X fun e w' => e = .returned (.int .i64 0) ∧ w' = X := by
  have H := Lib.hid h
  have HX := Lib.hid hX
  clear h hX
  go_enter Try.func18, Try.ntmps18
  go_wp2_with fail
  refine (H.out _ (by first | exact HX.out | exact HB1.out)).mono ?_
  rintro e w1 ⟨rfl, rfl⟩
  go_wp2
  go_ret
  exact ⟨rfl, rfl⟩

set_option maxRecDepth 100000 in
set_option maxHeartbeats 8000000 in
theorem sizes_nm {w : World} {v : Value} (h : NM w v) (X : World) (hX : Below w.heap.size w X) :
    Calls Try.prog 17 #[v] X fun e w' => e = .returned (.tuple #[.int .i64 0, .int .i64 0, .int .i64 0]) ∧ w' = X := by
  have H := Lib.hid h
  have HX := Lib.hid hX
  clear h hX
  go_enter Try.func17, Try.ntmps17
  go_wp2_with fail
  refine (H.out _ (by first | exact HX.out | exact HB1.out)).mono ?_
  rintro e w1 ⟨rfl, rfl⟩
  go_wp2
  first | (go_ret; exact ⟨rfl, rfl⟩) | exact bodyPost_ret (v := .tuple #[.int .i64 0, .int .i64 0, .int .i64 0]) (by simp [results, go_sem]) rfl ⟨rfl, rfl⟩

set_option maxRecDepth 100000 in
set_option maxHeartbeats 8000000 in
theorem look_nm {w : World} {v : Value} (h : NM w v) (K : ByteArray) (X : World) (hX : Below w.heap.size w X) :
    Calls Try.prog 28 #[v, .string K] X fun e w' => e = .returned (.tuple #[.int .i64 0, .bool false]) ∧ w' = X := by
  have H := Lib.hid h
  have HX := Lib.hid hX
  clear h hX
  go_enter Try.func28, Try.ntmps28
  go_wp2_with fail
  refine (H.out _ (by first | exact HX.out | exact HB1.out)).mono ?_
  rintro e w1 ⟨rfl, rfl⟩
  go_wp2
  go_ret2
  exact ⟨rfl, rfl⟩

set_option maxRecDepth 100000 in
set_option maxHeartbeats 8000000 in
theorem step_nm {w : World} {v : Value} (h : NM w v) (X : World) (hX : Below w.heap.size w X) :
    Calls Try.prog 40 #[v] X fun e w' => e = .returned (.bool false) ∧ w' = X := by
  have H := Lib.hid h
  have HX := Lib.hid hX
  clear h hX
  go_enter Try.func40, Try.ntmps40
  go_wp2_with fail
  refine (H.out _ (by first | exact HX.out | exact HB1.out)).mono ?_
  rintro e w1 ⟨rfl, rfl⟩
  go_wp2
  go_ret
  exact ⟨rfl, rfl⟩

set_option maxRecDepth 100000 in
set_option maxHeartbeats 8000000 in
theorem get_nm {w : World} {v : Value} (h : NM w v) (K : ByteArray) (X : World) (hX : Below w.heap.size w X) :
    Calls Try.prog 36 #[v, .string K] X fun e w' => e = .returned (.tuple #[.int .i64 0, .bool false]) ∧ w' = X := by
  have H := Lib.hid h
  have HX := Lib.hid hX
  clear h hX
  go_enter Try.func36, Try.ntmps36
  go_wp2_with fail
  refine (step_nm H.out _ HX.out).mono ?_
  rintro e w1 ⟨rfl, rfl⟩
  go_wp2_with fail
  refine (look_nm H.out K _ HX.out).mono ?_
  rintro e w1 ⟨rfl, rfl⟩
  go_wp2
  go_ret2
  exact ⟨rfl, rfl⟩

set_option maxRecDepth 100000 in
set_option maxHeartbeats 8000000 in
theorem put_nm {w : World} {v : Value} (h : NM w v) (K : ByteArray) (n : Int) (X : World) (hX : Below w.heap.size w X) :
    Calls Try.prog 38 #[v, .string K, .int .i64 n] X fun e w' => e = .returned (.bool false) ∧ w' = X := by
  have H := Lib.hid h
  have HX := Lib.hid hX
  clear h hX
  go_enter Try.func38, Try.ntmps38
  go_wp2_with fail
  refine (H.out _ (by first | exact HX.out | exact HB1.out)).mono ?_
  rintro e w1 ⟨rfl, rfl⟩
  go_wp2
  go_ret
  exact ⟨rfl, rfl⟩

set_option maxRecDepth 100000 in
set_option maxHeartbeats 8000000 in
theorem del_nm {w : World} {v : Value} (h : NM w v) (K : ByteArray) (X : World) (hX : Below w.heap.size w X) :
    Calls Try.prog 39 #[v, .string K] X fun e w' => e = .returned (.bool false) ∧ w' = X := by
  have H := Lib.hid h
  have HX := Lib.hid hX
  clear h hX
  go_enter Try.func39, Try.ntmps39
  go_wp2_with fail
  refine (H.out _ (by first | exact HX.out | exact HB1.out)).mono ?_
  rintro e w1 ⟨rfl, rfl⟩
  go_wp2
  go_ret
  exact ⟨rfl, rfl⟩

set_option maxRecDepth 100000 in
set_option maxHeartbeats 8000000 in
theorem pairs_nm {w : World} {v : Value} (h : NM w v) (X : World) (hX : Below w.heap.size w X) :
    Calls Try.prog 78 #[v] X fun e w' => e = .returned (.slice none 0 0) ∧ w' = X := by
  have H := Lib.hid h
  have HX := Lib.hid hX
  clear h hX
  go_enter Try.func78, Try.ntmps78
  go_wp2_with fail
  refine (H.out _ (by first | exact HX.out | exact HB1.out)).mono ?_
  rintro e w1 ⟨rfl, rfl⟩
  go_wp2
  go_ret
  exact ⟨rfl, rfl⟩

set_option maxRecDepth 100000 in
set_option maxHeartbeats 8000000 in
theorem pick_nm {w : World} {v : Value} (h : NM w v) (draw : Int) :
    Calls Try.prog 37 #[v, .int .u64 draw] w fun e w' => e = .returned (.tuple #[.string ⟨#[]⟩, .int .i64 0, .bool false]) ∧ Below w.heap.size w w' := by
  have HLEN := Lib.hid (fun (W : World) (hW : Below w.heap.size w W) => show Calls Try.prog 18 #[v] W (fun e w' => e = .returned (.int .i64 0) ∧ Below W.heap.size W w') from (len_nm h W hW).mono (fun e w' he => ⟨he.1, by rw [he.2]; exact Below.refl _ _⟩))
  clear h
  go_enter Try.func37, Try.ntmps37
  go_wp2_with fail
  obtain ⟨wz, hwz⟩ : ∃ wz, ((w.alloc (.cells #[.string ⟨#[]⟩] 9)).alloc (.cells #[.int .i64 0] 3)).alloc (.cells #[.bool false] 4) = wz := ⟨_, rfl⟩
  have hbz : Below w.heap.size w wz := by rw [← hwz]; exact (((Below.refl w.heap.size w).alloc (Nat.le_refl _) _).alloc (by simp) _).alloc (by simp; omega) _
  have hb4 : Boxed wz w.heap.size 9 (.string ⟨#[]⟩) := by rw [← hwz]; exact ((Boxed.new w _ _).alloc _).alloc _
  have hb5 : Boxed wz (w.heap.size + 1) 3 (.int .i64 0) := by rw [← hwz]; have q := (Boxed.new (w.alloc (.cells #[.string ⟨#[]⟩] 9)) 3 (.int .i64 0)).alloc (.cells #[.bool false] 4); rw [World.size_alloc] at q; exact q
  have hb6 : Boxed wz (w.heap.size + 2) 4 (.bool false) := by rw [← hwz]; have q := Boxed.new ((w.alloc (.cells #[.string ⟨#[]⟩] 9)).alloc (.cells #[.int .i64 0] 3)) 4 (.bool false); rw [World.size_alloc, World.size_alloc] at q; exact q
  rw [hwz]
  have hsz : wz.heap.size = w.heap.size + 3 := by rw [← hwz]; simp
  clear hwz
  refine (HLEN.out _ hbz).mono ?_
  rintro e w1 ⟨rfl, hb1⟩
  have d4 := hb4.kept (row := none) ⟨hb1.os, hb1.tape, hb1.output, hb1.size, fun k hk _ => hb1.block k hk⟩ (by simp)
  have d5 := hb5.kept (row := none) ⟨hb1.os, hb1.tape, hb1.output, hb1.size, fun k hk _ => hb1.block k hk⟩ (by simp)
  have d6 := hb6.kept (row := none) ⟨hb1.os, hb1.tape, hb1.output, hb1.size, fun k hk _ => hb1.block k hk⟩ (by simp)
  have e4 := d4.cell
  have e5 := d5.cell
  have e6 := d6.cell
  have f4 := d4.frozen
  have f5 := d5.frozen
  have f6 := d6.frozen
  have HBZ := Lib.hid (hbz.trans (hb1.mono hbz.size))
  have HD4 := Lib.hid d4
  have HD5 := Lib.hid d5
  have HD6 := Lib.hid d6
  have HQW : Hid (w.heap.size ≤ wz.heap.size) := hbz.size
  clear hb1 hb4 hb5 hb6 hsz hbz d4 d5 d6
  go_wp2
  have g4 := (((HD4.out.set (.string ⟨#[]⟩)).other (B' := w.heap.size + 1) (by omega) (.int .i64 0)).other (B' := w.heap.size + 2) (by omega) (.bool false)).cell
  have g5 := (((HD5.out.other (B' := w.heap.size) (by omega) (.string ⟨#[]⟩)).set (.int .i64 0)).other (B' := w.heap.size + 2) (by omega) (.bool false)).cell
  have g6 := (((HD6.out.other (B' := w.heap.size) (by omega) (.string ⟨#[]⟩)).other (B' := w.heap.size + 1) (by omega) (.int .i64 0)).set (.bool false)).cell
  have hbf := ((HBZ.out.setCell (p := ⟨w.heap.size, 0, none⟩) (Nat.le_refl _) (.string ⟨#[]⟩)).setCell (p := ⟨w.heap.size + 1, 0, none⟩) (by show w.heap.size ≤ w.heap.size + 1; omega) (.int .i64 0)).setCell (p := ⟨w.heap.size + 2, 0, none⟩) (by show w.heap.size ≤ w.heap.size + 2; omega) (.bool false)
  obtain ⟨wf, hwf⟩ : ∃ wf, (((w1.setCell ⟨w.heap.size, 0, none⟩ (.string ⟨#[]⟩)).setCell ⟨w.heap.size + 1, 0, none⟩ (.int .i64 0)).setCell ⟨w.heap.size + 2, 0, none⟩ (.bool false)) = wf := ⟨_, rfl⟩
  rw [show w.heap.size + 1 + 1 = w.heap.size + 2 from rfl, hwf]
  rw [hwf] at g4 g5 g6 hbf
  exact bodyPost_ret (v := .tuple #[.string ⟨#[]⟩, .int .i64 0, .bool false]) (by simp [results, Try.results37, go_sem, g4, g5, g6]) rfl ⟨rfl, hbf⟩

set_option maxRecDepth 100000 in
set_option maxHeartbeats 8000000 in
theorem map_nm {w : World} {v : Value} (h : NM w v) (F : Fn) (F1 F2 : Array Value) :
    Calls Try.prog 41 #[v, .func F F1 F2] w fun e w' => e = .returned (.pointer none) ∧ Below w.heap.size w w' := by
  have H := Lib.hid h
  clear h
  go_enter_defers Try.func41, Try.ntmps41
  go_wp2_with fail
  obtain ⟨wz, hwz⟩ : ∃ wz, w.alloc (.cells #[.func F F1 F2] 73) = wz := ⟨_, rfl⟩
  have hbz : Below w.heap.size w wz := by rw [← hwz]; exact (Below.refl w.heap.size w).alloc (Nat.le_refl _) _
  rw [hwz]
  have HBZ := Lib.hid hbz
  clear hwz hbz
  refine (H.out _ HBZ.out).mono ?_
  rintro e w1 ⟨rfl, rfl⟩
  go_wp2
  exact ⟨_, results_tmp rfl _ _ _, rfl, HBZ.out⟩

set_option maxRecDepth 100000 in
set_option maxHeartbeats 8000000 in
theorem allI_any (p : Option Addr) (w : World) :
    Calls Try.prog 43 #[.pointer p] w fun e w' => e = .returned (.func (.func 77) #[] #[.pointer (some ⟨w.heap.size, 0, none⟩)]) ∧ w' = w.alloc (.cells #[.pointer p] 28) := by
  have hmf : ∀ (fn : Fn) (first cap : Array Value) (w : World), (Instr.makeFunc fn first cap).run Try.prog w = .ok (.func fn first cap) w := fun _ _ _ _ => rfl
  go_enter Try.func43, Try.ntmps43
  go_wp2
  go_ret
  exact ⟨rfl, rfl⟩

set_option maxRecDepth 100000 in
set_option maxHeartbeats 8000000 in
theorem all1_nm {w : World} {v : Value} (h : NM w v) {B : Nat} (hc : w.cell? ⟨B, 0, none⟩ = some v) (y : Value) :
    Calls Try.prog 77 #[y, .pointer (some ⟨B, 0, none⟩)] w fun e w' => e = .returned (.tuple #[]) ∧ Below w.heap.size w w' := by
  have H := Lib.hid h
  clear h
  go_enter Try.func77, Try.ntmps77
  go_wp2_with fail
  refine (pairs_nm H.out _ (Below.refl _ _)).mono ?_
  rintro e w1 ⟨rfl, rfl⟩
  go_wp2_with fail
  go_loopw [8] (fun iv wr => iv = .int .i64 0 ∧ wr = w1) (fun _ _ => 0)
  case atStart => exact ⟨rfl, rfl⟩
  case round =>
    obtain ⟨rfl, rfl⟩ := hrel
    go_wp2
    go_end0
    exact ⟨rfl, Below.refl _ _⟩

set_option maxRecDepth 100000 in
set_option maxHeartbeats 8000000 in
theorem map_nof (Q : Nat) (w : World) (c0 : w.cell? ⟨Q, 0, none⟩ = some (.pointer (some ⟨Q, 0, none⟩))) :
    Calls Try.prog 41 #[.pointer (some ⟨Q, 0, none⟩), .nilFunc] w fun e w' => e = .returned (.pointer none) ∧ Below w.heap.size w w' := by
  have hQ : Q < w.heap.size := World.block_lt_of_cell? w _ c0
  have hnf : ∀ W : World, (binOp .eql 73 .nilFunc .nilFunc).run Try.prog W = .ok (.bool true) W := fun _ => by first | rfl | kernel_rfl
  have HM := Lib.hid (fun (X : World) (hX : Below w.heap.size w X) => isMadeI_any Q X ((hX.cell (p := ⟨Q, 0, none⟩) hQ).trans c0))
  clear c0
  go_enter_defers Try.func41, Try.ntmps41
  go_wp2_with fail
  obtain ⟨wz, hwz⟩ : ∃ wz, w.alloc (.cells #[.nilFunc] 73) = wz := ⟨_, rfl⟩
  have hbz : Below w.heap.size w wz := by rw [← hwz]; exact (Below.refl w.heap.size w).alloc (Nat.le_refl _) _
  have hq := heap_alloc_new w (.cells #[.nilFunc] 73)
  rw [hwz] at hq
  have cz : wz.cell? ⟨w.heap.size, 0, none⟩ = some .nilFunc := by simp [World.cell?, hq]
  rw [hwz]
  have HBZ := Lib.hid hbz
  clear hwz hbz hq
  refine (HM.out _ HBZ.out).mono ?_
  rintro e w1 ⟨rfl, rfl⟩
  go_wp2
  exact ⟨_, results_tmp rfl _ _ _, rfl, HBZ.out⟩

set_option maxRecDepth 100000 in
set_option maxHeartbeats 16000000 in
theorem tableNobody_any (s : ByteArray) (x : Int) (w : World) :
    Calls Try.prog 9 #[.string s, .int .u64 x] w fun e w' => e = .returned (.bool true) ∧ Below w.heap.size w w' := by
  have hmf : ∀ (fn : Fn) (first cap : Array Value) (w : World), (Instr.makeFunc fn first cap).run Try.prog w = .ok (.func fn first cap) w := fun _ _ _ _ => rfl
  have hng : ∀ (W : World) (f : Fn) (a b : Array Value), (binOp .eql 75 (.func f a b) .nilFunc).run Try.prog W = .ok (.bool false) W := fun _ _ _ _ => by first | rfl | kernel_rfl
  have HNEW := Lib.hid (fun X => newI_any 1 X)
  go_enter Try.func9, Try.ntmps9
  go_wp2_with fail
  obtain ⟨w0, hw0⟩ : ∃ w0, (w.alloc (.cells #[.pointer none, .int .u64 0, .int .i64 0, .slice none 0 0, .slice none 0 0, .int .i64 0] 67)).alloc (.cells #[.pointer none, .pointer (some ⟨w.heap.size, 0, none⟩)] 28) = w0 := ⟨_, rfl⟩
  have hb0 : Below w.heap.size w w0 := by rw [← hw0]; exact ((Below.refl w.heap.size w).alloc (Nat.le_refl _) _).alloc (by simp) _
  have hsz : w0.heap.size = w.heap.size + 2 := by rw [← hw0]; simp
  have hB1 := heap_alloc_new (w.alloc (.cells #[.pointer none, .int .u64 0, .int .i64 0, .slice none 0 0, .slice none 0 0, .int .i64 0] 67)) (.cells #[.pointer none, .pointer (some ⟨w.heap.size, 0, none⟩)] 28)
  rw [World.size_alloc, hw0] at hB1
  have hB0 := (((Below.refl (w.heap.size + 1) (w.alloc (.cells #[.pointer none, .int .u64 0, .int .i64 0, .slice none 0 0, .slice none 0 0, .int .i64 0] 67))).alloc (by simp) (.cells #[.pointer none, .pointer (some ⟨w.heap.size, 0, none⟩)] 28)).block w.heap.size (by omega)).trans (heap_alloc_new w _)
  rw [hw0] at hB0
  have z0 : w0.cell? ⟨w.heap.size, 0, none⟩ = some (.pointer none) := by simp [World.cell?, hB0]
  have z1 : w0.cell? ⟨w.heap.size + 1, 0, none⟩ = some (.pointer none) := by simp [World.cell?, hB1]
  have z2 : w0.cell? ⟨w.heap.size + 1, 1, none⟩ = some (.pointer (some ⟨w.heap.size, 0, none⟩)) := by simp [World.cell?, hB1]
  rw [hw0]
  obtain ⟨N, hN⟩ : ∃ N, w.heap.size + 1 = N := ⟨_, rfl⟩
  rw [hN] at z1 z2 ⊢
  have HEL : Hid (∀ (X : World) (i : Nat), Below w0.heap.size w0 X → i < 2 → ∃ p, X.cell? ⟨N, i, none⟩ = some (.pointer p) ∧ NM X (.pointer p)) := by
    intro X i hX hi
    have hi2 : i = 0 ∨ i = 1 := by omega
    rcases hi2 with rfl | rfl
    · exact ⟨none, (hX.cell (p := ⟨N, 0, none⟩) (by show N < _; omega)).trans z1, nm_nil X⟩
    · exact ⟨some ⟨w.heap.size, 0, none⟩, (hX.cell (p := ⟨N, 1, none⟩) (by show N < _; omega)).trans z2, (nm_zero (by omega) z0).below hX⟩
  have HB0 := Lib.hid hb0
  have HSZ := Lib.hid hsz
  clear hw0 hb0 hsz hB1 hB0 z0 z1 z2
  have hN2 : 1 ≤ N := by omega
  clear hN
  go_loopw [26] (fun iv wr => ∃ i : Nat, iv = .int .i64 i ∧ i ≤ 2 ∧ Below w0.heap.size w0 wr) (fun iv _ => 2 - (intOf iv).toNat)
  case atStart => exact ⟨0, rfl, by omega, Below.refl _ _⟩
  case round =>
    obtain ⟨i, rfl, hi, hbr⟩ := hrel
    have HBR := Lib.hid hbr
    clear hbr
    by_cases hlt : i < 2
    · obtain ⟨p, hp, hnm⟩ := HEL.out wr i HBR.out hlt
      have HP := Lib.hid hnm
      have HBX := Lib.hid (Below.refl wr.heap.size wr)
      clear hnm
      go_wp2_with fail
      refine (get_nm HP.out s _ (Below.refl _ _)).mono ?_
      rintro e w1 ⟨rfl, rfl⟩
      go_wp2_with fail
      refine (look_nm HP.out s _ (Below.refl _ _)).mono ?_
      rintro e w1 ⟨rfl, rfl⟩
      go_wp2_with fail
      refine (pick_nm HP.out x).mono ?_
      rintro e w2 ⟨rfl, hb2⟩
      have HP2 := Lib.hid (HP.out.below hb2)
      have HB2 := Lib.hid (HBR.out.trans (hb2.mono HBR.out.size))
      clear hb2 hp HP HBX
      go_wp2_with fail
      refine (sizes_nm HP2.out _ (Below.refl _ _)).mono ?_
      rintro e w3 ⟨rfl, rfl⟩
      go_wp2_with fail
      refine (put_nm HP2.out s 1 _ (Below.refl _ _)).mono ?_
      rintro e w3 ⟨rfl, rfl⟩
      go_wp2_with fail
      refine (del_nm HP2.out s _ (Below.refl _ _)).mono ?_
      rintro e w3 ⟨rfl, rfl⟩
      go_wp2_with fail
      refine (step_nm HP2.out _ (Below.refl _ _)).mono ?_
      rintro e w3 ⟨rfl, rfl⟩
      go_wp2_with fail
      refine (len_nm HP2.out _ (Below.refl _ _)).mono ?_
      rintro e w3 ⟨rfl, rfl⟩
      go_wp2_with fail
      refine (map_nm HP2.out _ _ _).mono ?_
      rintro e w4 ⟨rfl, hb4⟩
      have HP4 := Lib.hid (HP2.out.below hb4)
      have HB4 := Lib.hid (HB2.out.trans (hb4.mono HB2.out.size))
      clear hb4 HP2 HB2
      go_wp2_with fail
      obtain ⟨w5, hw5⟩ : ∃ w5, w4.alloc (.cells #[.bool false] 4) = w5 := ⟨_, rfl⟩
      have hb5 : Below w4.heap.size w4 w5 := by rw [← hw5]; exact (Below.refl _ _).alloc (Nat.le_refl _) _
      have hq5 := heap_alloc_new w4 (.cells #[.bool false] 4)
      have hs5 : w5.heap.size = w4.heap.size + 1 := by rw [← hw5]; simp
      rw [hw5] at hq5 ⊢
      have c5 : w5.cell? ⟨w4.heap.size, 0, none⟩ = some (.bool false) := by simp [World.cell?, hq5]
      have HP5 := Lib.hid (HP4.out.below hb5)
      have HB5 := Lib.hid (HB4.out.trans (hb5.mono HB4.out.size))
      obtain ⟨M, hM⟩ : ∃ M, w4.heap.size = M := ⟨_, rfl⟩
      rw [hM] at c5 hs5 ⊢
      clear hw5 hb5 hq5 hM HP4 HB4
      refine (allI_any p w5).mono ?_
      rintro e w6 ⟨rfl, hw6⟩
      have hb6 : Below w5.heap.size w5 w6 := by rw [hw6]; exact (Below.refl _ _).alloc (Nat.le_refl _) _
      have hq6 := heap_alloc_new w5 (.cells #[.pointer p] 28)
      rw [← hw6] at hq6
      have d6 : w6.cell? ⟨w5.heap.size, 0, none⟩ = some (.pointer p) := by simp [World.cell?, hq6]
      have c6 : w6.cell? ⟨M, 0, none⟩ = some (.bool false) := (hb6.cell (p := ⟨M, 0, none⟩) (by show M < _; omega)).trans c5
      have HM6 : Hid (M < w6.heap.size) := by unfold Hid; have := hb6.size; omega
      have HP6 := Lib.hid (HP5.out.below hb6)
      have HB6 := Lib.hid (HB5.out.trans (hb6.mono HB5.out.size))
      clear hw6 hb6 hq6 HP5 HB5 c5 hs5
      go_wp2_with fail
      refine (all1_nm HP6.out d6 _).mono ?_
      rintro e w7 ⟨rfl, hb7⟩
      have c7 : w7.cell? ⟨M, 0, none⟩ = some (.bool false) := (hb7.cell (p := ⟨M, 0, none⟩) HM6.out).trans c6
      have HB7 := Lib.hid (HB6.out.trans (hb7.mono HB6.out.size))
      clear hb7 c6 d6 HP6 HB6
      go_wp2
      go_roundw
      case rel => exact ⟨i + 1, by go_num, by omega, HB7.out⟩
      case measure => simp only [intOf]; omega
    · obtain rfl : i = 2 := by omega
      clear hlt hi
      go_wp2_with fail
      refine (HNEW.out _).mono ?_
      rintro e w1 ⟨Q, o1, gA, sA, gB, sB, rfl, hp, hb1⟩
      have HB1 := Lib.hid (HBR.out.trans (hb1.mono HBR.out.size))
      have c1 : w1.cell? ⟨Q, 0, none⟩ = some (.pointer (some ⟨Q, 0, none⟩)) := hp.hd.cell (by omega)
      clear hp hb1
      go_wp2_with fail
      refine (map_nof Q _ c1).mono ?_
      rintro e w2 ⟨rfl, hb2⟩
      have HB2 := Lib.hid (HB1.out.trans (hb2.mono HB1.out.size))
      clear hb2 c1
      go_wp2_with fail
      refine (alive_any w2).mono ?_
      rintro e w3 ⟨rfl, hb3⟩
      have HB3 := Lib.hid (HB0.out.trans ((HB2.out.trans (hb3.mono HB2.out.size)).mono HB0.out.size))
      clear hb3
      go_wp2
      go_ret
      exact ⟨rfl, HB3.out⟩

end Go.Proofs.Ytkjcoengijedeaa
