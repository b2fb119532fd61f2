/-
  What a ring that nobody made answers: the walks of package ring's calls, of the statements' pieces. Condition: as typed.
-/
import Derived.Test.YtbecjaamheibmaaRaA
namespace Go.Proofs.Ytbecjaamheibmaa
open Go.RowKit

theorem run_eql_nil_ptr {P : Program} (w : World) {tp te : TypeId} (a : Addr) (hp : P.underlying tp = some (.pointer te)) :
    (binOp .eql tp (.pointer none) (.pointer (some a))).run P w = .ok (.bool false) w := by
  have h : ∀ d : Nat, (Op.equalIn (d + 1) tp (.pointer none) (.pointer (some a))).run P w = .ok false w := fun d => by
    simp [Op.equalIn, run_underlying hp]
  simp only [binOp]
  simp [Op.equal, Op.maxDepth, h 9999]

/-- A ring that nobody made: nil, or one whose mark is nil. -/
def NMade (w : World) (a : Option Addr) : Prop := a = none ∨ ∃ p, a = some ⟨p, 0, none⟩ ∧ p < w.heap.size ∧ w.cell? ⟨p, 0, none⟩ = some (.pointer none)
theorem NMade.below {w w' : World} {a : Option Addr} (h : NMade w a) (hb : Below w.heap.size w w') : NMade w' a := by
  rcases h with h | ⟨p, h1, h2, h3⟩
  · exact Or.inl h
  · exact Or.inr ⟨p, h1, Nat.lt_of_lt_of_le h2 hb.size, (hb.cell (p := ⟨p, 0, none⟩) h2).trans h3⟩

set_option maxRecDepth 100000 in
set_option maxHeartbeats 4000000 in
theorem made_nm {a : Option Addr} (w : World) (h : NMade w a) : Calls Try.prog 32 #[.pointer a] w fun e w' => e = .returned (.bool false) ∧ w = w' := by
  rcases h with rfl | ⟨p, rfl, hp, c0⟩
  · go_enter Try.func32, Try.ntmps32
    go_wp2
    go_ret
    exact ⟨rfl, rfl⟩
  · have he : (binOp .eql 24 (.pointer none) (.pointer (some ⟨p, 0, none⟩))).run Try.prog w = .ok (.bool false) w := run_eql_nil_ptr w ⟨p, 0, none⟩ Try.underlying24
    go_enter Try.func32, Try.ntmps32
    go_wp2
    go_ret
    exact ⟨rfl, rfl⟩

set_option maxRecDepth 100000 in
set_option maxHeartbeats 4000000 in
theorem window_nm {a : Option Addr} (w : World) (h : NMade w a) : Calls Try.prog 13 #[.pointer a] w fun e w' => e = .returned (.tuple #[.int .i64 0, .int .i64 0]) ∧ w = w' := by
  have HM := Lib.hid (made_nm w h)
  clear h
  go_enter Try.func13, Try.ntmps13
  go_wp2_with fail
  refine HM.out.mono ?_
  rintro e w2 ⟨rfl, rfl⟩
  go_wp2
  go_ret2
  exact ⟨rfl, rfl⟩

set_option maxRecDepth 100000 in
set_option maxHeartbeats 4000000 in
theorem from_nm {a : Option Addr} (w : World) (h : NMade w a) (o : Int) : Calls Try.prog 14 #[.pointer a, .int .i64 o] w fun e w' => e = .returned (.tuple #[.slice none 0 0, .int .i64 4]) ∧ w = w' := by
  have HM := Lib.hid (made_nm w h)
  clear h
  go_enter Try.func14, Try.ntmps14
  go_wp2_with fail
  refine HM.out.mono ?_
  rintro e w2 ⟨rfl, rfl⟩
  go_wp2
  go_ret2
  exact ⟨rfl, rfl⟩

set_option maxRecDepth 100000 in
set_option maxHeartbeats 4000000 in
theorem accepts_nm {a : Option Addr} (w : World) (h : NMade w a) (id o : Int) : Calls Try.prog 18 #[.pointer a, .int .u64 id, .int .i64 o] w fun e w' => e = .returned (.bool false) ∧ w = w' := by
  have HM := Lib.hid (made_nm w h)
  clear h
  go_enter Try.func18, Try.ntmps18
  go_wp2_with fail
  refine HM.out.mono ?_
  rintro e w2 ⟨rfl, rfl⟩
  go_wp2
  go_ret
  exact ⟨rfl, rfl⟩

set_option maxRecDepth 100000 in
set_option maxHeartbeats 4000000 in
theorem feed_nm {a : Option Addr} (w : World) (h : NMade w a) (A : Option Addr) (n c : Nat) : Calls Try.prog 26 #[.pointer a, .slice A n c] w fun e w' => e = .returned (.int .i64 4) ∧ w = w' := by
  have HM := Lib.hid (made_nm w h)
  clear h
  go_enter Try.func26, Try.ntmps26
  go_wp2_with fail
  refine HM.out.mono ?_
  rintro e w2 ⟨rfl, rfl⟩
  go_wp2
  go_ret
  exact ⟨rfl, rfl⟩

set_option maxRecDepth 100000 in
set_option maxHeartbeats 4000000 in
theorem fork_nm {a : Option Addr} (w : World) (h : NMade w a) (id : Int) : Calls Try.prog 27 #[.pointer a, .int .u64 id] w fun e w' => e = .returned (.int .i64 4) ∧ w = w' := by
  have HM := Lib.hid (made_nm w h)
  clear h
  go_enter Try.func27, Try.ntmps27
  go_wp2_with fail
  refine HM.out.mono ?_
  rintro e w2 ⟨rfl, rfl⟩
  go_wp2
  go_ret
  exact ⟨rfl, rfl⟩

set_option maxRecDepth 100000 in
set_option maxHeartbeats 4000000 in
theorem follow_nm {a : Option Addr} (w : World) (h : NMade w a) (id o : Int) : Calls Try.prog 28 #[.pointer a, .int .u64 id, .int .i64 o] w fun e w' => e = .returned (.int .i64 4) ∧ w = w' := by
  have HM := Lib.hid (made_nm w h)
  clear h
  go_enter Try.func28, Try.ntmps28
  go_wp2_with fail
  refine HM.out.mono ?_
  rintro e w2 ⟨rfl, rfl⟩
  go_wp2
  go_ret
  exact ⟨rfl, rfl⟩

set_option maxRecDepth 100000 in
set_option maxHeartbeats 8000000 in
theorem state_nm {a : Option Addr} (w : World) (h : NMade w a) : Calls Try.prog 16 #[.pointer a] w fun e w' => e = .returned (.agg #[.int .u64 0, .int .i64 0, .int .u64 0, .int .i64 0]) ∧ Below w.heap.size w w' := by
  have hz : Below w.heap.size w (w.alloc (.cells #[.int .u64 0, .int .i64 0, .int .u64 0, .int .i64 0] 43)) := (Below.refl _ _).alloc (Nat.le_refl _) _
  obtain ⟨wa, hwa⟩ : ∃ wa, w.alloc (.cells #[.int .u64 0, .int .i64 0, .int .u64 0, .int .i64 0] 43) = wa := ⟨_, rfl⟩
  have hr : wa.rowIs w.heap.size 43 4 (fun i => if i = 0 ∨ i = 2 then .int .u64 0 else .int .i64 0) := by
    rw [← hwa]
    exact World.rowIs_alloc w _ _ _ (fun i hi => by
      have hi : i < 4 := hi
      rcases (by omega : i = 0 ∨ i = 1 ∨ i = 2 ∨ i = 3) with rfl | rfl | rfl | rfl <;> rfl)
  rw [hwa] at hz
  have HM := Lib.hid (made_nm wa (h.below hz))
  obtain ⟨M, hM⟩ : ∃ M, w.heap.size = M := ⟨_, rfl⟩
  have k0 : wa.cell? ⟨M, 0, none⟩ = some (.int .u64 0) := by rw [← hM]; exact hr.cell (i := 0) (by omega)
  have k1 : wa.cell? ⟨M, 1, none⟩ = some (.int .i64 0) := by rw [← hM]; exact hr.cell (i := 1) (by omega)
  have k2 : wa.cell? ⟨M, 2, none⟩ = some (.int .u64 0) := by rw [← hM]; exact hr.cell (i := 2) (by omega)
  have k3 : wa.cell? ⟨M, 3, none⟩ = some (.int .i64 0) := by rw [← hM]; exact hr.cell (i := 3) (by omega)
  have f0 := hr.frozen 0
  have f1 := hr.frozen 1
  have f2 := hr.frozen 2
  have f3 := hr.frozen 3
  rw [hM] at f0 f1 f2 f3
  have HZ := Lib.hid hz
  have HW := Lib.hid hwa
  have HMM := Lib.hid hM
  clear hz hwa hM h hr
  go_enter Try.func16, Try.ntmps16
  go_wp2_with (first | rw [HW.out] | rw [HMM.out])
  refine HM.out.mono ?_
  rintro e w2 ⟨rfl, rfl⟩
  go_wp2_with fail
  refine bodyPost_ret (v := .agg #[.int .u64 0, .int .i64 0, .int .u64 0, .int .i64 0]) (by simp [results, Try.results16, go_sem, k0, k1, k2, k3]) rfl ⟨rfl, ?_⟩
  have hle : w.heap.size ≤ M := Nat.le_of_eq HMM.out
  exact (((HZ.out.setCell (p := ⟨M, 0, none⟩) hle _).setCell (p := ⟨M, 1, none⟩) hle _).setCell (p := ⟨M, 2, none⟩) hle _).setCell (p := ⟨M, 3, none⟩) hle _

set_option maxRecDepth 100000 in
set_option maxHeartbeats 4000000 in
theorem pieces_fn (w : World) (a : Option Addr) (o m : Int) : Calls Try.prog 37 #[.pointer a, .int .i64 o, .int .i64 m] w fun e w' => e = .returned (.func (.func 42) #[] #[.pointer (some ⟨w.heap.size, 0, none⟩), .pointer (some ⟨w.heap.size + 1, 0, none⟩), .pointer (some ⟨w.heap.size + 2, 0, none⟩)]) ∧ w' = ((w.alloc (.cells #[.pointer a] 24)).alloc (.cells #[.int .i64 o] 3)).alloc (.cells #[.int .i64 m] 3) := by
  go_enter Try.func37, Try.ntmps37
  go_wp2
  go_ret
  exact ⟨rfl, rfl⟩

set_option maxRecDepth 100000 in
set_option maxHeartbeats 4000000 in
theorem pieces1_nm {a : Option Addr} {r1 r2 r3 : Nat} (w : World) (h : NMade w a) (o : Int) (y : Value) (c1 : w.cell? ⟨r1, 0, none⟩ = some (.pointer a)) (c2 : w.cell? ⟨r2, 0, none⟩ = some (.int .i64 o)) : Calls Try.prog 42 #[y, .pointer (some ⟨r1, 0, none⟩), .pointer (some ⟨r2, 0, none⟩), .pointer (some ⟨r3, 0, none⟩)] w fun e w' => e = .returned (.tuple #[]) ∧ w = w' := by
  have HF := Lib.hid (from_nm w h o)
  clear h
  go_enter Try.func42, Try.ntmps42
  go_wp2_with fail
  refine HF.out.mono ?_
  rintro e w2 ⟨rfl, rfl⟩
  go_wp2
  exact bodyPost_ret (v := .tuple #[]) (by simp [results, Try.results42, go_sem]) rfl ⟨rfl, rfl⟩

end Go.Proofs.Ytbecjaamheibmaa
