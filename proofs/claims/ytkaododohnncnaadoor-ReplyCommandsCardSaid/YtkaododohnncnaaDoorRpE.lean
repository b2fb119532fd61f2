/-
  The walks of package resp's unexpected and bulk. Conditions: the request that is being read holds what its state says.
-/
import Derived.Test.YtkaododohnncnaaDoorRpD
import Derived.Test.YtkaododohnncnaaDoorRpS
import Derived.Maps.AppendAt
namespace Go.Proofs.YtkaododohnncnaaDoor
open Go.RowKit

theorem one_fault (wx : World) (c : Int) : (convert 23 91 (.slice (some ⟨wx.heap.size, 0, none⟩) 1 1)).run Tryd.prog (wx.alloc (.cells #[.int .u8 c] 5)) = .ok (.string ⟨#[UInt8.ofNat c.toNat]⟩) (wx.alloc (.cells #[.int .u8 c] 5)) := by
  rw [run_convert_bytes_string _ _ _ 5 _ _ _ Tryd.underlying23 Tryd.underlying5 Tryd.underlying91]
  rw [run_bytesToString _ _ _ _ [c]]
  · rfl
  · exact run_loadCells_list _ _ [.int .u8 c] (fun j v h => by
      cases j with
      | zero => simp at h; subst h; simp [Addr.add]
      | succ j => simp at h)

theorem exp_add2 (x : List UInt8) : (({ data := #[80, 114, 111, 116, 111, 99, 111, 108, 32, 101, 114, 114, 111, 114, 58, 32, 101, 120, 112, 101, 99, 116, 101, 100, 32, 39, 36, 39, 44, 32, 103, 111, 116, 32, 39] } ++ { data := x.toArray } : ByteArray) ++ { data := #[39] }) = ⟨(perrB ++ (expB ++ x ++ [39])).toArray⟩ := by
  have e : (perrB ++ (expB ++ x ++ [39])) = ((perrB ++ expB) ++ x) ++ [39] := by simp
  rw [e]
  exact (congrArg (· ++ (⟨#[39]⟩ : ByteArray)) (ByteArray.mk_append_mk (perrB ++ expB) x)).trans (ByteArray.mk_append_mk ((perrB ++ expB) ++ x) [39])

set_option maxRecDepth 100000 in
set_option maxHeartbeats 1000000 in
theorem punexpected_any (c : UInt8) (w : World) :
    Calls Tryd.prog 109 #[.int .u8 (c.toNat : Int)] w fun e w' => e = .returned (.string ⟨(perrB ++ (expB ++ shownS c ++ [39])).toArray⟩) ∧ Below w.heap.size w w' := by
  have hcv := fun x : Int => (show (convert 23 91 (.slice (some ⟨w.heap.size, 0, none⟩) 1 1)).run Tryd.prog (w.alloc (.cells #[.int .u8 x] 5)) = .ok (.string ⟨#[UInt8.ofNat x.toNat]⟩) (w.alloc (.cells #[.int .u8 x] 5)) from one_fault w x)
  have hadd := exp_add2 (shownS c)
  by_cases h : c.toNat < 32 ∨ 126 < c.toNat
  · have HS : shownS c = [46] := by unfold shownS; rw [if_pos h]
    rw [HS] at hadd ⊢
    obtain ⟨x, hx⟩ : ∃ x : Nat, c.toNat = x := ⟨_, rfl⟩
    rw [hx] at h ⊢
    clear hx HS
    rcases h with h | h
    · go_enter Tryd.func109, Tryd.ntmps109
      go_wp2
      go_ret
      exact ⟨congrArg (fun z => Ending.returned (.string z)) hadd, (Below.refl _ _).alloc (Nat.le_refl _) _⟩
    · have h32 : ¬ x < 32 := by omega
      go_enter Tryd.func109, Tryd.ntmps109
      go_wp2
      go_ret
      exact ⟨congrArg (fun z => Ending.returned (.string z)) hadd, (Below.refl _ _).alloc (Nat.le_refl _) _⟩
  · have HS : shownS c = [c] := by unfold shownS; rw [if_neg h]
    rw [HS] at hadd ⊢
    obtain ⟨x, hx⟩ : ∃ x : Nat, c.toNat = x := ⟨_, rfl⟩
    have HC : Hid (UInt8.ofNat ((x : Int)).toNat = c) := by unfold Hid; rw [← hx]; simp
    rw [← HC.out] at hadd ⊢
    rw [show (UInt8.ofNat ((x : Int)).toNat).toNat = x from by rw [HC.out, hx]]
    have h1 : ¬ x < 32 := by omega
    have h2 : ¬ 126 < x := by omega
    rw [hx] at h
    clear hx h HS HC
    go_enter Tryd.func109, Tryd.ntmps109
    go_wp2
    go_ret
    exact ⟨congrArg (fun z => Ending.returned (.string z)) hadd, (Below.refl _ _).alloc (Nat.le_refl _) _⟩

end Go.Proofs.YtkaododohnncnaaDoor
