/-
  Package skip: From of a list that no call made, and what it tells: nothing. Condition: the table of math/bits lies where the program laid it.
-/
import Derived.Test.YtcbiiioglklpoaaDoorSkU2
namespace Go.Proofs.YtcbiiioglklpoaaDoor
open Go.RowKit

section
variable {w : World} {V : Value}

set_option maxRecDepth 100000 in
set_option maxHeartbeats 4000000 in
theorem from_mk (p : Option Addr) (rank : Int) (w : World) : Calls Tryd.prog 54 #[.pointer p, .int .i64 rank, .bool false] w fun e w' =>
    e = .returned (.func (.func 73) #[] #[.pointer (some ⟨w.heap.size, 0, none⟩), .pointer (some ⟨w.heap.size + 1, 0, none⟩), .pointer (some ⟨w.heap.size + 3, 0, none⟩), .pointer (some ⟨w.heap.size + 2, 0, none⟩)]) ∧
      w'.cell? ⟨w.heap.size, 0, none⟩ = some (.pointer p) ∧ w'.cell? ⟨w.heap.size + 1, 0, none⟩ = some (.int .i64 rank) ∧ Below w.heap.size w w' := by
  have hmf : ∀ (fn : Fn) (first cap : Array Value) (w : World), (Instr.makeFunc fn first cap).run Tryd.prog w = .ok (.func fn first cap) w := fun _ _ _ _ => rfl
  have hst : ∀ (a : Addr) (X : World), (store a (.func (.func 71) #[] #[])).run Tryd.prog X = stored Tryd.prog X a (.func (.func 71) #[] #[]) .plain := fun a X => run_store Tryd.prog X a _ _ rfl
  go_enter Tryd.func54, Tryd.ntmps54
  go_wp2
  go_ret
  exact ⟨rfl, by simp [go_sem], by simp [go_sem], ((((Below.refl _ _).alloc (Nat.le_refl _) _).alloc (by simp) _).alloc (by simp; omega) _).alloc (by simp; omega) _⟩

set_option maxRecDepth 100000 in
set_option maxHeartbeats 4000000 in
theorem from31_any {u : FrameMode} {B c : Nat} (w : World) (hB : w.cell? ⟨B, 0, none⟩ = some (.pointer (some ⟨c, 0, none⟩))) (hc : w.cell? ⟨c, 3, none⟩ = some (.int .i64 1)) (hf : w.frozen? ⟨c, 3, none⟩ = false) :
    CallsD Tryd.prog 74 #[.pointer (some ⟨B, 0, none⟩)] u w fun e u' w' => u' = u ∧ (e = .returned (.tuple #[]) ∧ w' = w.setCell ⟨c, 3, none⟩ (.int .i64 0)) := by
  go_enter_d Tryd.func74, Tryd.ntmps74
  go_wp2
  go_end0
  exact ⟨rfl, rfl⟩

set_option maxRecDepth 100000 in
set_option maxHeartbeats 8000000 in
/-- What From tells of a list that no call made: the loop's own function is never called. -/
theorem from3_none {b0 b1 b2 b3 : Nat} {rank : Int} {Y : Value} (hV : NoL w V) (hz : TzB w) (h0 : w.cell? ⟨b0, 0, none⟩ = some V) (h1 : w.cell? ⟨b1, 0, none⟩ = some (.int .i64 rank)) :
    Calls Tryd.prog 73 #[Y, .pointer (some ⟨b0, 0, none⟩), .pointer (some ⟨b1, 0, none⟩), .pointer (some ⟨b2, 0, none⟩), .pointer (some ⟨b3, 0, none⟩)] w fun e w' => e = .returned (.tuple #[]) ∧ Below w.heap.size w w' := by
  have hmf : ∀ (fn : Fn) (first cap : Array Value) (w : World), (Instr.makeFunc fn first cap).run Tryd.prog w = .ok (.func fn first cap) w := fun _ _ _ _ => rfl
  have HR := Lib.hid (nread_any hV hz)
  have HLT : Hid (b1 < w.heap.size) := World.block_lt_of_cell? w _ h1
  have H1 := Lib.hid h1
  clear hV hz
  go_enter_defers Tryd.func73, Tryd.ntmps73
  go_wp2_with fail
  refine HR.out.mono ?_
  rintro e w1 ⟨c, rfl, ⟨h, mb, S, k1, k2, k3, k4⟩, hcl, hb⟩
  obtain ⟨w2, hw2⟩ : ∃ w2, w1.alloc (.cells #[.pointer (some ⟨c, 0, none⟩)] 71) = w2 := ⟨_, rfl⟩
  have HW2 := Lib.hid hw2
  have HK1 := Lib.hid k1
  have HK2 := Lib.hid k2
  have HB1 := Lib.hid hb
  have HCL := Lib.hid hcl
  have HNE := Lib.hid k4
  have e3 := k1.cell (i := 3) (by omega)
  rw [show ckF 0 h mb 0 3 = .int .i64 0 from rfl] at e3
  have f3 := k1.frozen 3
  have hlc := k1.lt
  have hcb : c ≠ b1 := by have := HLT.out; omega
  have hlb : b1 < w1.heap.size := by have := HLT.out; have := hb.size; omega
  have g1 : w1.cell? ⟨b1, 0, none⟩ = some (.int .i64 rank) := (hb.cell (p := ⟨b1, 0, none⟩) HLT.out).trans H1.out
  clear k1 k2 k3 k4 hcl hb hw2 h0 h1
  go_wp2_with fail
  obtain ⟨w3, hw3⟩ : ∃ w3, (w1.setCell ⟨c, 3, none⟩ (.int .i64 1)).alloc (.cells #[.pointer (some ⟨c, 0, none⟩)] 71) = w3 := ⟨_, rfl⟩
  rw [hw3]
  have k1 := (HK1.out.set 3 (.int .i64 1)).alloc (.cells #[.pointer (some ⟨c, 0, none⟩)] 71)
  have k2 : ChOn (lvS 0) w3 h [] S := HK2.out.keep (fun b hb => by
    obtain rfl : b = h := by simpa using hb
    rw [← hw3]
    exact (Below.heap_alloc _ _ _ (by rw [World.size_setCell]; exact HK2.out.lt (List.mem_cons_self ..))).trans (Below.heap_setCell _ _ _ _ (Ne.symm HNE.out)))
  have hB3 : w3.cell? ⟨w1.heap.size, 0, none⟩ = some (.pointer (some ⟨c, 0, none⟩)) := by
    rw [← hw3]
    have q := heap_alloc_new (w1.setCell ⟨c, 3, none⟩ (.int .i64 1)) (.cells #[.pointer (some ⟨c, 0, none⟩)] 71)
    rw [World.size_setCell] at q
    simp only [World.cell?, q]
    rfl
  rw [hw3] at k1
  have hb3 : Below w.heap.size w w3 := by rw [← hw3]; exact (HB1.out.setCell (p := ⟨c, 3, none⟩) HCL.out _).alloc (by rw [World.size_setCell]; exact HB1.out.size) _
  have hat := at_any rank w3 (lvS_pos 0) (by simp) (k1.cell (i := 1) (by omega)) k2
  have hn : nodeAt [] rank = .pointer none := by unfold nodeAt; split <;> rfl
  rw [hn] at hat
  have HAT := Lib.hid hat
  have HK3 := Lib.hid k1
  have HB3 := Lib.hid hB3
  have HBE3 := Lib.hid hb3
  clear e3 f3 hlc hcb hlb g1 k1 k2 hB3 hb3 hat hn hw3
  refine HAT.out.mono ?_
  rintro e w4 ⟨rfl, hb4⟩
  have HC4 : Hid (w4.cell? ⟨w1.heap.size, 0, none⟩ = some (.pointer (some ⟨c, 0, none⟩)) ∧ w4.cell? ⟨c, 3, none⟩ = some (.int .i64 1) ∧ w4.frozen? ⟨c, 3, none⟩ = false) :=
    ⟨(hb4.cell (p := ⟨w1.heap.size, 0, none⟩) (World.block_lt_of_cell? w3 _ HB3.out)).trans HB3.out, (hb4.cell (p := ⟨c, 3, none⟩) HK3.out.lt).trans (HK3.out.cell (i := 3) (by omega)), (hb4.frozen (p := ⟨c, 3, none⟩) HK3.out.lt).trans (HK3.out.frozen 3)⟩
  have HB4 := Lib.hid (HBE3.out.trans (hb4.mono HBE3.out.size))
  clear hb4
  go_wp2
  go_loopw [8] (fun iv wr => iv = .pointer none ∧ wr = w4) (fun _ _ => 0)
  case atStart => exact ⟨rfl, rfl⟩
  case round =>
    obtain ⟨rfl, rfl⟩ := hrel
    go_wp2
    refine leaves_cons (f := 74) (args := #[.pointer (some ⟨w1.heap.size, 0, none⟩)]) (by simp) (by simp [go_sem]) ?_
    refine (from31_any wr HC4.out.1 HC4.out.2.1 HC4.out.2.2).mono ?_
    rintro e u' w'' ⟨rfl, rfl, rfl⟩
    simp [Leaves, settle, results, Tryd.results73, go_sem]
    exact HB4.out.setCell (p := ⟨c, 3, none⟩) HCL.out _

end

end Go.Proofs.YtcbiiioglklpoaaDoor
