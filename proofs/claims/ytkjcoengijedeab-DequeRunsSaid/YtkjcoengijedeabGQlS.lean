/-
  Package deque (values: string): the walks of Of and All. Conditions: what Of is handed reads as a list.
-/
import Derived.Test.YtkjcoengijedeabGQjS
import Derived.Test.YtkjcoengijedeabDqO
namespace Go.Proofs.Ytkjcoengijedeab
open Go.RowKit

set_option maxRecDepth 100000 in
set_option maxHeartbeats 4000000 in
theorem ofS_any {A : Option Addr} {n c : Nat} {L : List ByteArray} (w : World) (hA : SlAt w A n c (L.map (Value.string))) (hn : n ≤ 1000000) :
    Calls Try.prog 9 #[.slice A n c] w fun e w' => ∃ D F, e = .returned (.pointer (some ⟨D, 0, none⟩)) ∧ DqOn KDS w' w.heap.size F D L.length L ∧ Below w.heap.size w w' := by
  obtain ⟨i0, hi, hy⟩ := Option.map_eq_some_iff.1 info_eltS
  simp only [Prod.mk.injEq] at hy
  have HY := Lib.hid hy
  have HA := Lib.hid hA
  have hLn : L.length = n := by have := hA.len; simpa using this
  have HLN := Lib.hid hLn
  have HOC : Hid (∀ u ∈ L.map (Value.string), u.oneCell' = true) := fun u hu => by
    obtain ⟨x, _, rfl⟩ := List.mem_map.1 hu
    rfl
  have HI0 := Lib.hid hi
  clear hA hy hLn hi
  go_enter Try.func9, Try.ntmps9
  go_wp2_with (at_builtin; refine wpList_append_sl rfl _ _ 22 rfl w.heap.size 9 i0 _ 16 Try.underlying22 HI0.out HY.out.1 HY.out.2.1 HY.out.2.2 rfl (.slice none 0 0) 0 [] rfl (World.ownsRow_nil _ _ _ _) A n c (L.map (Value.string)) rfl HA.out HOC.out (by omega) (by omega) (Nat.le_refl _) ?_; intro v' w1 hown hgr hnil hat; obtain ⟨A', c', rfl⟩ := own_form1 hown)
  rw [Nat.zero_add, List.nil_append] at hown
  rw [Nat.zero_add] at hnil
  have HOWN := Lib.hid hown
  have HNIL : Hid (Value.slice A' n c' = .slice none 0 0 ↔ n = 0) := ⟨fun e => (hnil.1 e).2, fun e => hnil.2 (by first | exact ⟨rfl, e⟩ | exact ⟨trivial, e⟩ | exact e)⟩
  have HB1 : Hid (Below w.heap.size w w1) := (Below.refl _ _).grown hgr (Nat.le_refl _) (fun k e => by cases e)
  clear hown hgr hnil hat
  go_ret
  have hz : w.heap.size ≤ w1.heap.size := HB1.out.size
  obtain ⟨F, hF⟩ := dq_made (K := KDS) (w := w1) (base := w.heap.size) (v := .slice A' n c') (L := L) (by rw [HLN.out]; exact HOWN.out) (by rw [HLN.out]; exact HNIL.out) hz
  rw [HLN.out] at hF ⊢
  exact ⟨_, rfl, ⟨F, hF⟩, (HB1.out.alloc hz _).alloc (by simp; omega) _⟩

set_option maxRecDepth 100000 in
set_option maxHeartbeats 8000000 in
theorem allS_mk (p : Option Addr) (w : World) :
    Calls Try.prog 39 #[.pointer p] w fun e w' => e = .returned (.func (.func 50) #[] #[.pointer (some ⟨w.heap.size, 0, none⟩)]) ∧ w' = w.alloc (.cells #[.pointer p] 25) := by
  go_enter Try.func39, Try.ntmps39
  go_wp2
  go_ret
  exact ⟨rfl, rfl⟩

end Go.Proofs.Ytkjcoengijedeab
