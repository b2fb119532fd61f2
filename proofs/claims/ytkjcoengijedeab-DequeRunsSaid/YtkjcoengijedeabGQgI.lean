/-
  Package deque's ring (values: int): what an end's insert and remove make of the ring; the walks of ring's insert and remove. Conditions: the ring lies in memory as it reads.
-/
import Derived.Test.YtkjcoengijedeabGQfI
namespace Go.Proofs.Ytkjcoengijedeab
open Go.RowKit

set_option maxRecDepth 100000 in
set_option maxHeartbeats 8000000 in
theorem enterI_f2 (args : Array Value) (w : World) : (callFunc 74 args).run Try.prog w = .ok (.enter 74 args) w := by simp [callFunc, go_sem, Try.func74, Try.f74]
set_option maxRecDepth 100000 in
set_option maxHeartbeats 8000000 in
theorem enterI_b1 (args : Array Value) (w : World) : (callFunc 75 args).run Try.prog w = .ok (.enter 75 args) w := by simp [callFunc, go_sem, Try.func75, Try.f75]
set_option maxRecDepth 100000 in
set_option maxHeartbeats 8000000 in
theorem enterI_b2 (args : Array Value) (w : World) : (callFunc 76 args).run Try.prog w = .ok (.enter 76 args) w := by simp [callFunc, go_sem, Try.func76, Try.f76]

section
variable {R g N c f B i : Nat} {S : Nat → Value} {L : List Int} {w : World}

set_option maxRecDepth 100000 in
set_option maxHeartbeats 8000000 in
theorem insFrontI (h : RgAt KDI w R g N c f S L) (hlt : L.length < N) (hN2 : N ≤ 900000) (hi : i ≤ L.length) (v : Int) (hB : w.cell? ⟨B, 0, none⟩ = some (.pointer (some ⟨R, 0, none⟩))) (hBR : B ≠ R) (hBg : B ≠ g) :
    Calls Try.prog 59 #[.agg #[.func (.func 73) #[] #[.pointer (some ⟨B, 0, none⟩)], .func (.func 74) #[] #[.pointer (some ⟨B, 0, none⟩)]], .int .i64 i, (Value.int .i64) v] w fun e w' => e = .returned (.tuple #[]) ∧
      ∃ f' S', RgAt KDI w' R g N c f' S' (insAt L i v) ∧ Only (fun k => k = R ∨ k = g) w w' := by
  have hN : 0 < N := by omega
  have hf := h.fst
  have hlen := insAt_length hi v
  refine (endInsI_any (k := L.length) (N := N) (c := c) (g := g) (S := S) (E := L) (P := rp ((f + N - 1) % N) N) (hd := hdF (slV g N c) f L.length) (hd2 := hdF (slV g N c) ((f + N - 1) % N) (L.length + 1)) w enterI_f1 enterI_f2
    (frontI_slotOf hN (by omega) (by have := Nat.mod_lt (f + N - 1) hN; omega) (by omega)) (frontI_moveOf 1 (f + N - 1) (L.length + 1) hN (by omega) (by omega) (by omega) (by omega) (by omega)) rfl (by omega) hi h.hd hB hBR hBg (h.row hN) h.le
    (fun j x hx => by rw [if_neg (Nat.not_lt_zero j), rp_back hN]; exact h.vals j x hx) (fun a b ha hb he => rp_inj (by omega) (by omega) he) (fun a _ => rp_lt hN a)).mono ?_
  rintro e w' ⟨rfl, h1, S', h2, h3, h4⟩
  exact ⟨rfl, _, S', ⟨by rw [hlen]; exact h1, fun _ => h2, h.le, Or.inl (Nat.mod_lt _ hN), by rw [hlen]; exact hlt, h3⟩, h4⟩

set_option maxRecDepth 100000 in
set_option maxHeartbeats 8000000 in
theorem insBackI (h : RgAt KDI w R g N c f S L) (hlt : L.length < N) (hN2 : N ≤ 900000) (hi : i ≤ L.length) (v : Int) (hB : w.cell? ⟨B, 0, none⟩ = some (.pointer (some ⟨R, 0, none⟩))) (hBR : B ≠ R) (hBg : B ≠ g) :
    Calls Try.prog 59 #[.agg #[.func (.func 75) #[] #[.pointer (some ⟨B, 0, none⟩)], .func (.func 76) #[] #[.pointer (some ⟨B, 0, none⟩)]], .int .i64 ((L.length - i : Nat) : Int), (Value.int .i64) v] w fun e w' => e = .returned (.tuple #[]) ∧
      ∃ f' S', RgAt KDI w' R g N c f' S' (insAt L i v) ∧ Only (fun k => k = R ∨ k = g) w w' := by
  have hN : 0 < N := by omega
  have hf := h.fst
  have hlen := insAt_length hi v
  have hrl : L.reverse.length = L.length := List.length_reverse
  have hs : SlotOfI 75 B R g (L.reverse.length + 1) (hdF (slV g N c) f (L.length + 1)) (fun j => rp f N (L.length + 1 - 1 - j)) := by rw [hrl]; exact backI_slotOf hN (by omega) (by omega) (by omega)
  refine (endInsI_any (k := L.length) (N := N) (c := c) (g := g) (S := S) (E := L.reverse) (P := fun j => rp f N (L.length + 1 - 1 - j)) (hd := hdF (slV g N c) f L.length) (hd2 := hdF (slV g N c) f (L.length + 1)) w enterI_b1 enterI_b2
    hs (backI_moveOf 1 (L.length + 1) (by omega) (by omega)) hrl (by omega) (by omega) h.hd hB hBR hBg (h.row hN) h.le
    (fun j x hx => by
      have hj := lt_of_some hx
      rw [hrl] at hj
      rw [if_neg (Nat.not_lt_zero j)]
      show S (rp f N (L.length + 1 - 1 - (j + 1))) = _
      rw [show L.length + 1 - 1 - (j + 1) = L.length - 1 - j from by omega]
      exact h.vals _ x (get_reverse hx)) (fun a b ha hb he => by
      rw [hrl] at ha hb
      have := rp_inj (by omega) (by omega) he
      omega) (fun a _ => rp_lt hN _)).mono ?_
  rintro e w' ⟨rfl, h1, S', h2, h3, h4⟩
  refine ⟨rfl, f, S', ⟨by rw [hlen]; exact h1, fun _ => h2, h.le, hf, by rw [hlen]; exact hlt, fun m x hx => ?_⟩, h4⟩
  have hm := lt_of_some hx
  rw [hlen] at hm
  have q := h3 _ x (insAt_reverse hi v m x hx)
  rw [show L.length + 1 - 1 - (L.length - m) = m from by omega] at q
  exact q

set_option maxRecDepth 100000 in
set_option maxHeartbeats 8000000 in
theorem delFrontI {v : Int} (h : RgAt KDI w R g N c f S L) (hN2 : N ≤ 900000) (hi : i < L.length) (hv : L[i]? = some v) (hB : w.cell? ⟨B, 0, none⟩ = some (.pointer (some ⟨R, 0, none⟩))) (hBR : B ≠ R) (hBg : B ≠ g) :
    Calls Try.prog 62 #[.agg #[.func (.func 73) #[] #[.pointer (some ⟨B, 0, none⟩)], .func (.func 74) #[] #[.pointer (some ⟨B, 0, none⟩)]], .int .i64 i] w fun e w' => e = .returned ((Value.int .i64) v) ∧
      ∃ f' S', RgAt KDI w' R g N c f' S' (delAt L i) ∧ Only (fun k => k = R ∨ k = g) w w' := by
  have hl := h.len
  have hN : 0 < N := by omega
  have hf := h.fst
  have hlen := delAt_length hi
  refine (endDelI_any (k := L.length) (N := N) (c := c) (g := g) (S := S) (E := L) (v := v) (P := rp f N) (hd := hdF (slV g N c) f L.length) (hd2 := hdF (slV g N c) ((f + 1 + N) % N) (L.length - 1)) w enterI_f1 enterI_f2
    (frontI_slotOf hN (by omega) (by omega) (by omega)) (frontI_moveOf (-1) (f + 1 + N) (L.length - 1) hN (by omega) (by omega) (by omega) (by omega) (by omega)) rfl (by omega) hi hv h.hd hB hBR hBg (h.row hN) h.le
    h.vals (fun a b ha hb he => rp_inj (by omega) (by omega) he) (fun a _ => rp_lt hN a)).mono ?_
  rintro e w' ⟨rfl, h1, S', h2, h3, h4⟩
  exact ⟨rfl, _, S', ⟨by rw [hlen]; exact h1, fun _ => h2, h.le, Or.inl (Nat.mod_lt _ hN), by rw [hlen]; omega, fun m x hx => by rw [rp_on]; exact h3 m x hx⟩, h4⟩

set_option maxRecDepth 100000 in
set_option maxHeartbeats 8000000 in
theorem delBackI {v : Int} (h : RgAt KDI w R g N c f S L) (hN2 : N ≤ 900000) (hi : i < L.length) (hv : L[i]? = some v) (hB : w.cell? ⟨B, 0, none⟩ = some (.pointer (some ⟨R, 0, none⟩))) (hBR : B ≠ R) (hBg : B ≠ g) :
    Calls Try.prog 62 #[.agg #[.func (.func 75) #[] #[.pointer (some ⟨B, 0, none⟩)], .func (.func 76) #[] #[.pointer (some ⟨B, 0, none⟩)]], .int .i64 ((L.length - 1 - i : Nat) : Int)] w fun e w' => e = .returned ((Value.int .i64) v) ∧
      ∃ f' S', RgAt KDI w' R g N c f' S' (delAt L i) ∧ Only (fun k => k = R ∨ k = g) w w' := by
  have hl := h.len
  have hN : 0 < N := by omega
  have hf := h.fst
  have hlen := delAt_length hi
  have hrl : L.reverse.length = L.length := List.length_reverse
  have hs : SlotOfI 75 B R g L.reverse.length (hdF (slV g N c) f L.length) (fun j => rp f N (L.length - 1 - j)) := by rw [hrl]; exact backI_slotOf hN (by omega) (by omega) (by omega)
  refine (endDelI_any (k := L.length) (N := N) (c := c) (g := g) (S := S) (E := L.reverse) (v := v) (P := fun j => rp f N (L.length - 1 - j)) (hd := hdF (slV g N c) f L.length) (hd2 := hdF (slV g N c) f (L.length - 1)) w enterI_b1 enterI_b2
    hs (backI_moveOf (-1) (L.length - 1) (by omega) (by omega)) hrl (by omega) (by omega) (by rw [List.getElem?_reverse (by omega), show L.length - 1 - (L.length - 1 - i) = i from by omega]; exact hv) h.hd hB hBR hBg (h.row hN) h.le
    (fun j x hx => h.vals _ x (get_reverse hx)) (fun a b ha hb he => by
      rw [hrl] at ha hb
      have := rp_inj (by omega) (by omega) he
      omega) (fun a _ => rp_lt hN _)).mono ?_
  rintro e w' ⟨rfl, h1, S', h2, h3, h4⟩
  refine ⟨rfl, f, S', ⟨by rw [hlen]; exact h1, fun _ => h2, h.le, hf, by rw [hlen]; omega, fun m x hx => ?_⟩, h4⟩
  have hm := lt_of_some hx
  rw [hlen] at hm
  have q := h3 _ x (delAt_reverse hi m x hx)
  rw [show L.length - 1 - (L.length - 2 - m + 1) = m from by omega] at q
  exact q
end

end Go.Proofs.Ytkjcoengijedeab
