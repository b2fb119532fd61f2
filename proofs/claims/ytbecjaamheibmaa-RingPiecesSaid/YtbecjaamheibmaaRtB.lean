/-
  ring.Text: its walk. No condition.
-/
import Derived.Test.YtbecjaamheibmaaRtA
import Derived.Test.YtbecjaamheibmaaRfD
import Derived.Laws.Bits64b
namespace Go.Proofs.Ytbecjaamheibmaa
open Go.RowKit

theorem slAt_one (w : World) (t : TypeId) (u : Value) : SlAt (w.alloc (.cells #[u] t)) (some ⟨w.heap.size, 0, none⟩) 1 1 [u] :=
  ⟨rfl, Nat.le_refl _, by omega, (fun e => by cases e), fun _ => ⟨w.heap.size, 0, rfl, by simp, fun j x hx => by
    cases j with
    | zero =>
      injection hx with hx
      subst hx
      have q := heap_alloc_new w (.cells #[u] t)
      show (match (w.alloc (.cells #[u] t)).heap[w.heap.size]? with | some (.cells c _ _) => _ | _ => _) = _
      rw [q]
      rfl
    | succ j => simp at hx⟩⟩
theorem ownsRow_below1 {w w' : World} {base : Nat} {e : TypeId} {size : Nat} {v : Value} {n : Nat} {xs : List Value} (h : w.ownsRow base e size v n xs) (hb : Below w.heap.size w w') : w'.ownsRow base e size v n xs :=
  ⟨h.1, h.2.imp id fun ⟨g, cap, cur, hv, hg, hh, r⟩ => ⟨g, cap, cur, hv, hg, (hb.block g (Array.getElem?_eq_some_iff.1 hh).1).trans hh, r⟩⟩

set_option maxRecDepth 100000 in
set_option maxHeartbeats 8000000 in
theorem text_any (n : Nat) (w : World) (hn : n ≤ 18446744073709551615) :
    Calls Try.prog 23 #[.int .u64 n] w fun e w' => e = .returned (.string ⟨(textX n).toArray⟩) ∧ Below w.heap.size w w' := by
  obtain ⟨ip, hip, hyp⟩ := Option.map_eq_some_iff.1 info_by
  simp only [Prod.mk.injEq] at hyp
  have HIP := Lib.hid hyp
  have HIQ := Lib.hid hip
  obtain ⟨w0, hmk0, hown0, hgr0⟩ := run_make_own (P := Try.prog) w w.heap.size 33 5 ip (.int .u8 0) 1 Try.underlying33 hip hyp.1 hyp.2.1 .i64 .i64 16 (by rw [hyp.2.2]; decide) (by unfold maxLen; omega) (Nat.le_refl _)
  have hmk : (Instr.makeSlice 33 (.int .i64 0) (.int .i64 16)).run Try.prog w = .ok (.slice (some ⟨w.heap.size, 0, none⟩) 0 16) w0 := hmk0
  have hb0 : Below w.heap.size w w0 := (Below.refl _ _).grown hgr0 (Nat.le_refl _) (fun k e => by cases e)
  have HO0 := Lib.hid hown0
  have HB0 := Lib.hid hb0
  obtain ⟨M, hM⟩ : ∃ M, w.heap.size = M := ⟨_, rfl⟩
  rw [hM] at hmk HO0 HB0 ⊢
  have HM := Lib.hid hM
  clear hyp hip hmk0 hown0 hgr0 hb0 hM
  go_enter Try.func23, Try.ntmps23
  go_wp2_with fail
  go_loopw [3, 4] (fun tv iv wr => ∃ (i : Nat) (A : Option Addr) (c : Nat), iv = .int .i64 (60 - 4 * (i : Int)) ∧ i ≤ 16 ∧ tv = .slice A i c ∧ wr.ownsRow M 5 1 (.slice A i c) i (((textX n).take i).map byV) ∧ Below M w wr) (fun _ iv _ => (intOf iv + 4).toNat)
  case atStart => exact ⟨0, _, 16, rfl, by omega, rfl, HO0.out, HB0.out⟩
  case round =>
    obtain ⟨i, A, c, rfl, hi, rfl, hown, hb⟩ := hrel
    have HO := Lib.hid hown
    have HB := Lib.hid hb
    clear hown hb
    by_cases hlt : i < 16
    · have h0 : (0 : Int) ≤ 60 - 4 * (i : Int) := by omega
      have h1 : ¬ (60 - 4 * (i : Int)) < 0 := by omega
      obtain ⟨D, hD⟩ : ∃ D, n / 2 ^ (60 - 4 * i) = D := ⟨_, rfl⟩
      obtain ⟨d, hd⟩ : ∃ d, hexD n i = d := ⟨_, rfl⟩
      have hDn : D ≤ n := by rw [← hD]; exact Nat.div_le_self _ _
      have hdD : d = D % 16 := by rw [← hd, hexD_shift n i (by omega), hD]
      have hsh : (n : Int) / 2 ^ (60 - 4 * i) = (D : Int) := by rw [← hD]; simp
      have hbt : bits BinOp.and IntKind.u64 (D : Int) 15 = (d : Int) := by
        rw [show (15 : Int) = ((15 : Nat) : Int) from rfl, bits_and_u64_nat _ _ (by omega) (by omega), hdD, show (15 : Nat) = 2 ^ 4 - 1 from rfl, Nat.and_two_pow_sub_one_eq_mod]
      have hd16 : d < 16 := by omega
      have hd0 : (0 : Int) ≤ (d : Int) := by omega
      have hd16I : (d : Int) < 16 := by omega
      obtain ⟨u, hu0⟩ : ∃ u, hexC d = u := ⟨_, rfl⟩
      have hu := hexC_at hd16 (show d < 16 from hd16)
      rw [hu0] at hu
      obtain ⟨wy, hwy⟩ : ∃ wy, wr.alloc (.cells #[.int .u8 (u.toNat : Int)] 5) = wy := ⟨_, rfl⟩
      have hby : Below wr.heap.size wr wy := by rw [← hwy]; exact (Below.refl _ _).alloc (Nat.le_refl _) _
      have hMr : M ≤ wr.heap.size := by have := HM.out; have := HB.out.size; omega
      have hbM := HB.out.trans (hby.mono hMr)
      have HOY := Lib.hid (ownsRow_below1 HO.out hby)
      have HSV : Hid (SlAt wy (some ⟨wr.heap.size, 0, none⟩) 1 1 [byV u]) := by unfold Hid; rw [← hwy]; exact slAt_one wr 5 (byV u)
      have HBY := Lib.hid hbM
      have hyz : M ≤ wy.heap.size := Nat.le_trans hMr hby.size
      have HTK : Hid (((textX n).take i).map byV ++ [byV u] = ((textX n).take (i + 1)).map byV) := by
        unfold Hid
        rw [textX_take hlt, List.map_append, hd, hu0]
        rfl
      have HWY := Lib.hid hwy
      clear hD hd hdD hu0 hwy hby hbM
      go_wp2_with (first | rw [HWY.out] | (at_builtin; refine wpList_append_sl rfl _ _ 33 rfl M 5 ip _ 1 Try.underlying33 HIQ.out HIP.out.1 HIP.out.2.1 HIP.out.2.2 rfl (.slice A i c) i _ rfl HOY.out (some ⟨wr.heap.size, 0, none⟩) 1 1 [byV u] rfl HSV.out (by intro u hu; rw [List.mem_singleton] at hu; subst hu; rfl) (by omega) (by omega) hyz ?_))
      intro v' w4 hown hgr _ _
      obtain ⟨A4, c4, rfl⟩ := own_form1 hown
      have HO4 := Lib.hid hown
      have HB4 : Hid (Below M w w4) := HBY.out.trans ((Below.refl _ _).grown hgr hyz (fun k e => (HOY.out.lt k e).1))
      clear hown hgr
      go_wp2
      go_roundw
      case rel => exact ⟨i + 1, A4, c4, by go_num, by omega, rfl, by rw [← HTK.out, List.map_take]; exact HO4.out, HB4.out⟩
      case measure => simp only [intOf]; omega
    · obtain rfl : i = 16 := by omega
      have HCV := Lib.hid (conv_by (l := textX n) (w := wr) (A := A) (n := 16) (c := c) (by
        have := SlAt.own HO.out
        rwa [List.take_of_length_le (by rw [textX_len]; exact Nat.le_refl _)] at this))
      have hcv : (convert 33 9 (.slice A 16 c)).run Try.prog wr = .ok (.string ⟨(textX n).toArray⟩) wr := HCV.out
      go_wp2
      go_ret
      exact ⟨rfl, HB.out⟩

end Go.Proofs.Ytbecjaamheibmaa
