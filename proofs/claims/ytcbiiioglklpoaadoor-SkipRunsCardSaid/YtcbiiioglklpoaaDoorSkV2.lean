/-
  The statements' own few: its walk. Conditions: the members lie in memory.
-/
import Derived.Test.YtcbiiioglklpoaaDoorSkV1
namespace Go.Proofs.YtcbiiioglklpoaaDoor
open Go.RowKit

theorem two_news (W : World) (t : TypeId) (a b : Value) {g : Nat} (hg : g = W.heap.size) : ∀ (j : Nat) (u : Value), [a, b][j]? = some u → (W.alloc (.cells #[a, b] t)).cell? ((⟨g, 0, none⟩ : Addr).add j) = some u := fun j u hu => by
  subst hg
  have r := rows2 (w := W) (t := t) a b (fun i => if i = 0 then a else b) rfl rfl
  rcases j with _ | _ | j
  · simp at hu; subst hu; exact r.cell (i := 0) (by omega)
  · simp at hu; subst hu; exact r.cell (i := 1) (by omega)
  · simp at hu
theorem own_slice {w : World} {base : Nat} {e : TypeId} {size : Nat} {v : Value} {n : Nat} {xs : List Value} (h : w.ownsRow base e size v n xs) : ∃ A c, v = .slice A n c := by
  rcases h.2 with ⟨q1, q2⟩ | ⟨g, cap, cur, q, _⟩
  · exact ⟨none, 0, by rw [q1, q2]⟩
  · exact ⟨_, _, q⟩
theorem own_lo {w : World} {base : Nat} {e : TypeId} {size : Nat} {v : Value} {n : Nat} {xs : List Value} (h : w.ownsRow base e size v n xs) {b : Nat} (hb : v.ownBlock = some b) : base ≤ b := by
  rcases h.2 with ⟨q1, _⟩ | ⟨g, cap, cur, q, hg, _⟩
  · rw [q1] at hb; cases hb
  · rw [q] at hb; injection hb with hb; rw [← hb]; exact hg

set_option maxRecDepth 100000 in
set_option maxHeartbeats 16000000 in
theorem few_any {A : Option Addr} {n cp : Nat} {l : List Mb} (w : World) (hl : ScAt w A n cp l) (hb : ∀ x ∈ l, x.1.length ≤ 9223372036854775807) :
    Calls Tryd.prog 16 #[.slice A n cp] w fun e w' => ∃ A' n' c', e = .returned (.slice A' n' c') ∧ ScAt w' A' n' c' (fewM l) ∧ Below w.heap.size w w' := by
  have hn : l.length = n := hl.len
  have HL := Lib.hid hl
  have HB := Lib.hid hb
  have HNN := Lib.hid hn
  have HFL : Hid ((fewM l).length = min 100 n) := by unfold Hid; rw [fewM_length, hn]
  obtain ⟨ip, hip, hyp⟩ := Option.map_eq_some_iff.1 info_scored
  simp only [Prod.mk.injEq] at hyp
  have HIP := Lib.hid hyp
  have HIQ := Lib.hid hip
  have hmax : n ≤ 9223372036854775807 := Nat.le_trans hl.le hl.max
  obtain ⟨M, hM⟩ : ∃ M, w.heap.size = M := ⟨_, rfl⟩
  have HMh := Lib.hid hM
  rw [hM]
  clear hl hb hn hyp hip hM
  go_enter Tryd.func16, Tryd.ntmps16
  go_wp2
  go_loopw [3, 4] (fun v iv wr => ∃ k : Nat, iv = .int .i64 k ∧ k ≤ min 100 n ∧ wr.ownsRow M 47 2 v k (mcells ((fewM l).take k)) ∧ Below M w wr) (fun _ iv _ => 100 - (intOf iv).toNat)
  case atStart => exact ⟨0, rfl, by omega, World.ownsRow_nil w _ _ _, Below.refl _ _⟩
  case round =>
    obtain ⟨k, rfl, hk, hown, hbw⟩ := hrel
    have HO := Lib.hid hown
    have HBW := Lib.hid hbw
    by_cases hlt : k < n
    · have hlt' : (k : Int) < n := by omega
      by_cases h100 : k < 100
      · have h100' : (k : Int) < 100 := by omega
        have HKN := Lib.hid hlt
        obtain ⟨x, hx⟩ : ∃ x, l[k]? = some x := ⟨_, List.getElem?_eq_getElem (by rw [HNN.out]; exact hlt)⟩
        have hbw' : Below w.heap.size w wr := by rw [HMh.out]; exact hbw
        obtain ⟨b, o, rfl, hbl, hc⟩ := (HL.out.below hbw').at_ (by omega)
        obtain ⟨c0, c1⟩ := hc k x hx
        have HX := Lib.hid hx
        have HCU := Lib.hid (fun W => cut_any ⟨x.1.toArray⟩ W (by show x.1.toArray.size ≤ _; simpa using HB.out x (List.mem_of_getElem? hx)))
        have HST := Lib.hid (fewM_step hx h100)
        obtain ⟨T, hT⟩ : ∃ T : ByteArray, (⟨x.1.toArray⟩ : ByteArray) = T := ⟨_, rfl⟩
        obtain ⟨C, hC⟩ : ∃ C, cutK T = C := ⟨_, rfl⟩
        rw [hT] at c0 HCU HST
        rw [hC] at HCU HST
        obtain ⟨N, hN⟩ : ∃ N, x.2 = N := ⟨_, rfl⟩
        rw [hN] at c1 HST
        have HO1 : Hid ((wr.drew.alloc (.cells #[.string C, .int .i64 N] 47)).ownsRow M 47 2 u3 k (mcells ((fewM l).take k))) := (show wr.drew.ownsRow M 47 2 u3 k (mcells ((fewM l).take k)) from hown).alloc _
        have HW1 := Lib.hid (two_news wr.drew 47 (.string C) (.int .i64 N) (g := wr.heap.size) rfl)
        have HB1 : Hid (Below M w (wr.drew.alloc (.cells #[.string C, .int .i64 N] 47))) := by unfold Hid; exact Below.alloc hbw.drew (by have := hbw.size; show M ≤ wr.heap.size; have := HMh.out; omega) _
        have HS1 : Hid (M ≤ (wr.drew.alloc (.cells #[.string C, .int .i64 N] 47)).heap.size) := by have q := HB1.out.size; have := HMh.out; unfold Hid; omega
        have hk1 : k + 1 ≤ min 100 n := by omega
        have hmc : mcells ((fewM l).take k) ++ [.string C, .int .i64 N] = mcells ((fewM l).take (k + 1)) := by
          rw [HST.out, mcells_append]
          unfold mcells
          simp
        have HMC := Lib.hid hmc
        clear hown hbw hbw' hc hx hT hC hk hN hmc
        go_wp2_with fail
        go_region_law (first
          | (go_simp; go_at_call 8; refine (HCU.out _).mono ?_; rintro en w1 ⟨rfl, rfl⟩)
          | (refine step_append_own rfl _ _ 35 rfl M 47 ip _ 2 24 Tryd.underlying35 HIQ.out HIP.out.1 HIP.out.2.1 HIP.out.2.2 rfl (by omega) _ k _ rfl HO1.out ⟨wr.heap.size, 0, none⟩ 1 1 [.string C, .int .i64 N] rfl rfl HW1.out (by intro u hu; simp at hu; rcases hu with rfl | rfl <;> rfl) (by unfold maxLen; omega) (by omega) HS1.out ?_; intro v4 w4 hown4 hgr4; have HO4 := Lib.hid hown4; have HB4 := Lib.hid (HB1.out.grown hgr4 HS1.out (fun j e => own_lo HO1.out e)); obtain ⟨A4, c4, rfl⟩ := own_slice hown4; clear hown4 hgr4))
        all_goals
          go_wp2
          go_roundw
          case rel => exact ⟨k + 1, by go_num, hk1, HMC.out ▸ HO4.out, HB4.out⟩
          case measure => simp only [intOf]; omega
      · have h100' : ¬ (k : Int) < 100 := by omega
        have hk100 : k = min 100 n := by omega
        clear h100
        go_wp2
        go_ret
        rw [show k = min 100 n from hk100, List.take_of_length_le (by rw [HFL.out]; omega)] at hown
        obtain ⟨A', c', rfl, hsc⟩ := sc_of_own hown
        exact ⟨_, _, _, rfl, hsc, hbw⟩
    · have hlt' : ¬ (k : Int) < n := by omega
      have hkn : k = min 100 n := by omega
      clear hlt
      go_wp2
      go_ret
      rw [show k = min 100 n from hkn, List.take_of_length_le (by rw [HFL.out]; omega)] at hown
      obtain ⟨A', c', rfl, hsc⟩ := sc_of_own hown
      exact ⟨_, _, _, rfl, hsc, hbw⟩

end Go.Proofs.YtcbiiioglklpoaaDoor
