/-
  The walk of the document's own Same at two rows of requests that are the same. Conditions: both lie in memory as slices that read as them.
-/
import Derived.Test.YtkaododohnncnaaDoorRspK
import Derived.Deep.QuietTactic
import Derived.BigQuiet
namespace Go.Proofs.YtkaododohnncnaaDoor
open Go.RowKit
set_option maxRecDepth 100000 in
set_option maxHeartbeats 2000000 in
theorem rsame_nil (A B : Option Addr) (c d : Nat) (w : World) :
    Calls Tryd.prog 15 #[.slice A 0 c, .slice B 0 d] w fun e w' => e = .returned (.bool true) ∧ ∃ q, w' = w.drewN q := by
  go_enter Tryd.func15, Tryd.ntmps15
  go_wp2
  go_loop [5, 6] (fun i _ => i = .int .i64 0) (fun _ _ => 0)
  case atStart => exact rfl
  case round =>
    obtain rfl := hrel
    go_wp2
    go_ret
    exact ⟨rfl, 0, rfl⟩

set_option maxRecDepth 100000 in
set_option maxHeartbeats 4000000 in
theorem rsame_eq (b o b' o' c d : Nat) (vs vs' : List Value) (L : List (List (List UInt8))) (w : World) (hl : vs.length = L.length) (hl' : vs'.length = L.length) (hbig : L.length ≤ 1099511627776) (hrow : ∀ (i : Nat) (r : List (List UInt8)), L[i]? = some r → r.length ≤ 1099511627776)
    (hc : ∀ j u, vs[j]? = some u → w.cell? ⟨b, o + j, none⟩ = some u) (hc' : ∀ j u, vs'[j]? = some u → w.cell? ⟨b', o' + j, none⟩ = some u)
    (hr : ∀ (i : Nat) (u : Value) (r : List (List UInt8)), vs[i]? = some u → L[i]? = some r → StrsAt w u r) (hr' : ∀ (i : Nat) (u : Value) (r : List (List UInt8)), vs'[i]? = some u → L[i]? = some r → StrsAt w u r) :
    Calls Tryd.prog 15 #[.slice (some ⟨b, o, none⟩) L.length c, .slice (some ⟨b', o', none⟩) L.length d] w fun e w' => e = .returned (.bool true) ∧ ∃ q, w' = w.drewN q := by
  have HC := Lib.hid hc
  have HC' := Lib.hid hc'
  have HR := Lib.hid hr
  have HR' := Lib.hid hr'
  have HW := Lib.hid hrow
  have HL := Lib.hid hl
  have HL' := Lib.hid hl'
  clear hc hc' hr hr' hrow hl hl'
  obtain ⟨n, hn⟩ : ∃ n, L.length = n := ⟨_, rfl⟩
  rw [hn] at hbig ⊢
  have HN := Lib.hid hn
  clear hn
  go_enter Tryd.func15, Tryd.ntmps15
  go_wp2
  go_loopw [5, 6] (fun i _ wr => ∃ k q : Nat, i = .int .i64 k ∧ k ≤ n ∧ wr = w.drewN q) (fun i _ _ => n - (intOf i).toNat)
  case atStart => exact ⟨0, 0, rfl, by omega, rfl⟩
  case round =>
    obtain ⟨k, q, rfl, hk, rfl⟩ := hrel
    by_cases hlt : k < n
    · have hkL : k < L.length := by rw [HN.out]; exact hlt
      obtain ⟨r, hrk⟩ : ∃ r, L[k]? = some r := ⟨_, List.getElem?_eq_getElem hkL⟩
      obtain ⟨u, hu⟩ : ∃ u, vs[k]? = some u := ⟨_, List.getElem?_eq_getElem (by rw [HL.out]; exact hkL)⟩
      obtain ⟨u', hu'⟩ : ∃ u, vs'[k]? = some u := ⟨_, List.getElem?_eq_getElem (by rw [HL'.out]; exact hkL)⟩
      have hcu := HC.out k u hu
      have hcu' := HC'.out k u' hu'
      obtain ⟨A, a1, rfl, hA⟩ := HR.out k u r hu hrk
      obtain ⟨B, a2, rfl, hB⟩ := HR'.out k u' r hu' hrk
      have hrl := HW.out k r hrk
      rw [List.length_map] at hcu hcu'
      obtain ⟨m, hm⟩ : ∃ m, r.length = m := ⟨_, rfl⟩
      rw [hm] at hcu hcu' hrl
      have HM := Lib.hid hm
      have HAx := Lib.hid hA
      have HBx := Lib.hid hB
      clear hm hA hB hrk hu hu'
      go_wp2
      go_quiet (fail)
      go_wp2
      go_loopw [6] (fun j wr => ∃ k2 q2 : Nat, j = .int .i64 k2 ∧ k2 ≤ m ∧ wr = w.drewN q2) (fun j _ => m - (intOf j).toNat)
      case atStart => exact ⟨0, _, rfl, by omega, World.drewN_drewN _ _ _⟩
      case round =>
        obtain ⟨k2, q2, rfl, hk2, rfl⟩ := hrel
        by_cases hlt2 : k2 < m
        · have hne : r.map strV ≠ [] := by
            intro e
            have := congrArg List.length e
            rw [List.length_map, HM.out, List.length_nil] at this
            omega
          obtain ⟨ba, oa, rfl, hca⟩ := HAx.out hne
          obtain ⟨bb, ob, rfl, hcb⟩ := HBx.out hne
          have hk2r : k2 < r.length := by rw [HM.out]; exact hlt2
          have hx : (r.map strV)[k2]? = some (strV (r[k2]'hk2r)) := by rw [List.getElem?_map, List.getElem?_eq_getElem hk2r]; rfl
          have hca2 := hca k2 _ hx
          have hcb2 := hcb k2 _ hx
          obtain ⟨t, ht⟩ : ∃ t : ByteArray, strV (r[k2]'hk2r) = .string t := ⟨_, rfl⟩
          rw [ht] at hca2 hcb2
          clear hca hcb hx ht hne
          go_wp2
          go_quiet (fail)
          go_wp2
          go_roundw
          case rel => exact ⟨k2 + 1, _, by go_num, by omega, by first | rfl | exact World.drewN_drewN _ _ _⟩
          case measure => simp only [intOf]; omega
        · go_wp2
          go_roundw
          case rel => exact ⟨k + 1, _, by go_num, by omega, rfl⟩
          case measure => simp only [intOf]; omega
    · go_wp2
      go_ret
      exact ⟨rfl, q, rfl⟩

end Go.Proofs.YtkaododohnncnaaDoor
