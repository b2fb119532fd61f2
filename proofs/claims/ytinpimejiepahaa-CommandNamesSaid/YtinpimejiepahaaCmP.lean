/-
  The statements' own few and alive. Conditions: as typed.
-/
import Derived.Test.YtinpimejiepahaaCmO
namespace Go.Proofs.Ytinpimejiepahaa
open Go.RowKit

/-- What few keeps. -/
def fewT (L : List Tx) : List Tx := (L.take 1100).map fun x => x.take 1000
theorem fewT_len (L : List Tx) : (fewT L).length ≤ 1100 := by
  unfold fewT
  rw [List.length_map, List.length_take]
  omega
theorem fewT_short (L : List Tx) : ∀ x ∈ fewT L, x.length ≤ 1000 := fun x hx => by
  unfold fewT at hx
  obtain ⟨y, _, rfl⟩ := List.mem_map.1 hx
  rw [List.length_take]
  omega

set_option maxRecDepth 100000 in
set_option maxHeartbeats 16000000 in
theorem few_any {A : Option Addr} {n c : Nat} {L : List Tx} (w : World) (h : TxAt w A n c L) :
    Calls Try.prog 17 #[.slice A n c] w fun e w' => ∃ A' m c', e = .returned (.slice A' m c') ∧ TxAt w' A' m c' (fewT L) ∧ Below w.heap.size w w' ∧ m ≤ 2000 := by
  have HIN := Lib.hid h
  have hle := h.le
  have hmx := h.max
  have hlen := h.len
  obtain ⟨M, hM⟩ : ∃ M, w.heap.size = M := ⟨_, rfl⟩
  have HM := Lib.hid hM
  obtain ⟨m, hm⟩ : ∃ m, min 1100 n = m := ⟨_, rfl⟩
  obtain ⟨KS, hKS⟩ : ∃ KS, fewT L = KS := ⟨_, rfl⟩
  have HKL : Hid (KS.length = m) := by unfold Hid; rw [← hKS, ← hm]; unfold fewT; rw [List.length_map, List.length_take, hlen]
  have HKA : Hid (∀ (j : Nat) (x : Tx), L[j]? = some x → j < m → KS[j]? = some (x.take 1000)) := fun j x hx hj => by
    rw [← hKS]
    unfold fewT
    rw [List.getElem?_map, List.getElem?_take, if_pos (by omega), hx]
    rfl
  have HKF : Hid (∀ x ∈ KS, x.length ≤ 140737488355328) := fun x hx => by
    rw [← hKS] at hx
    have := fewT_short L x hx
    omega
  have hmn : m ≤ n ∧ m ≤ 1100 := by omega
  have HMM : Hid (m = n ∨ m = 1100) := by unfold Hid; omega
  rw [hM, hKS]
  clear h hKS hm hlen
  go_enter Try.func17, Try.ntmps17
  go_wp2_with fail
  go_loopw [3, 4] (fun kv iv wr => ∃ (k : Nat) (A' : Option Addr) (c' : Nat), kv = .slice A' k c' ∧ iv = .int .i64 (k : Nat) ∧ k ≤ m ∧ wr.ownsRow M 9 1 (.slice A' k c') k ((KS.take k).map encStr) ∧ Below M w wr) (fun _ iv _ => m - (intOf iv).toNat)
  case atStart => exact ⟨0, none, 0, rfl, rfl, Nat.zero_le _, ⟨rfl, Or.inl ⟨rfl, rfl⟩⟩, Below.refl _ _⟩
  case round =>
    obtain ⟨k, A', c', rfl, rfl, hk, hown, hb⟩ := hrel
    have HO := Lib.hid hown
    have HB := Lib.hid hb
    clear hown hb
    by_cases hlt : k < m
    · have hkn : k < n := by omega
      have hkn' : (k : Int) < (n : Int) := by omega
      have hk11 : (k : Int) < 1100 := by omega
      have hk0 : (0 : Int) ≤ (k : Int) := by omega
      obtain ⟨y, hy⟩ := HIN.out.get hkn
      obtain ⟨b, o, rfl, hbl, hc⟩ := HIN.out.at_ (by omega)
      have c0 : wr.cell? ⟨b, o + k, none⟩ = some (.string ⟨y.toArray⟩) := (HB.out.cell (p := ⟨b, o + k, none⟩) (by have := HM.out; show b < M; omega)).trans (hc k y hy)
      have HTK : Hid (KS.take (k + 1) = KS.take k ++ [y.take 1000]) := by unfold Hid; rw [List.take_add_one, HKA.out k y hy hlt]; rfl
      have HCU := Lib.hid (cut_any y)
      have HYL : Hid ((y.take 1000).length ≤ 140737488355328) := by unfold Hid; rw [List.length_take]; omega
      obtain ⟨z, hz⟩ : ∃ z, y.take 1000 = z := ⟨_, rfl⟩
      rw [hz] at HTK HCU HYL
      have hmr : M ≤ wr.heap.size := by have := HB.out.size; have := HM.out; omega
      have HBA : Hid (Below M w (wr.alloc (.cells #[.string ⟨z.toArray⟩] 9))) := HB.out.alloc hmr _
      have HOA : Hid ((wr.alloc (.cells #[.string ⟨z.toArray⟩] 9)).ownsRow M 9 1 (.slice A' k c') k ((KS.take k).map encStr)) := HO.out.alloc _
      have hma : M ≤ (wr.alloc (.cells #[.string ⟨z.toArray⟩] 9)).heap.size := by have := HBA.out.size; have := HM.out; omega
      clear hy hc hbl hz
      go_wp2_with fail
      refine (HCU.out _).mono ?_
      rintro e w5 ⟨rfl, rfl⟩
      go_wp2_with (at_builtin; refine wpList_append_tx rfl _ _ rfl M (.slice A' k c') k (KS.take k) rfl HOA.out (some ⟨w5.heap.size, 0, none⟩) 1 1 [z] rfl (TxAt.one w5 z _ rfl HYL.out) (by omega) hma ?_)
      intro v6 w6 hown hgr
      unfold TxO at hown
      obtain ⟨A6, c6, rfl⟩ := own_slice hown
      have HO6 := Lib.hid hown
      have HB6 : Hid (Below M w w6) := HBA.out.grown hgr hma (fun k e => (HOA.out.lt k e).1)
      clear hown hgr
      go_wp2
      go_roundw
      case rel => exact ⟨k + 1, A6, c6, rfl, by go_num, hlt, by rw [HTK.out]; exact HO6.out, HB6.out⟩
      case measure => simp only [intOf]; omega
    · obtain rfl : k = m := by omega
      have HEQ : Hid (KS.take k = KS) := List.take_of_length_le (by rw [HKL.out]; exact Nat.le_refl _)
      have HOO : Hid (TxAt wr A' k c' KS) := by
        unfold Hid
        have q := HO.out
        rw [HEQ.out] at q
        exact TxAt.own q HKF.out
      rcases HMM.out with e | e
      · subst e
        have hlt' : ¬ (k : Int) < (k : Int) := by omega
        go_wp2
        go_ret
        exact ⟨A', _, c', rfl, HOO.out, HB.out, by omega⟩
      · subst e
        by_cases hkn : (1100 : Int) < (n : Int)
        · go_wp2
          go_ret
          exact ⟨A', _, c', rfl, HOO.out, HB.out, by omega⟩
        · go_wp2
          go_ret
          exact ⟨A', _, c', rfl, HOO.out, HB.out, by omega⟩

/-- A row of texts laid by a literal. -/
theorem TxAt.lit (w : World) (L : List Tx) (g : Nat) (hg : g = w.heap.size) (h0 : 0 < L.length) (hl : L.length ≤ 1000000) (hf : ∀ x ∈ L, x.length ≤ 140737488355328) (cs : Array Value) (hcs : cs = (L.map encStr).toArray) (n : Nat) (hn : n = L.length) :
    TxAt (w.alloc (.cells cs 9)) (some ⟨g, 0, none⟩) n n L := by
  subst hg hcs hn
  have q := heap_alloc_new w (.cells (L.map encStr).toArray 9)
  refine ⟨rfl, Nat.le_refl _, by omega, fun e => (by cases e), hf, fun _ => ⟨w.heap.size, 0, rfl, by simp, fun j x hx => ?_⟩⟩
  rw [Nat.zero_add]
  simp only [World.cell?, q]
  rw [List.getElem?_toArray, List.getElem?_map, hx]
  rfl

def aliveA : List Tx := [[71, 101, 84], [107]]
def aliveB : List Tx := [[103, 101, 116]]
def aliveC : List Tx := [[109, 115, 101, 116], [97], [49], [98], [50]]
theorem chk_A : chk aliveA = (([103, 101, 116], 1, 2, false, 1, 1, 1), none) := by kernel_rfl
theorem chk_B : chk aliveB = (spZ, some (argT [103, 101, 116])) := by kernel_rfl
theorem keys_C : keysX aliveC = ([[97], [98]], 0) := by kernel_rfl

end Go.Proofs.Ytinpimejiepahaa
