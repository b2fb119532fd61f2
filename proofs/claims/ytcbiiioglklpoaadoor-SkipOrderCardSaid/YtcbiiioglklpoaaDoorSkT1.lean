/-
  A slice of members as a row hands it on. Conditions: as typed.
-/
import Derived.Test.YtcbiiioglklpoaaDoorBase
import Derived.Test.YtcbiiioglklpoaaDoorSkK
import Derived.Test.YtcbiiioglklpoaaDoorSkC1
import Derived.SizedLaws
import Derived.DataReads
namespace Go.Proofs.YtcbiiioglklpoaaDoor
open Go.ChangeShapes Go.WideShapes Go.ChangeAt Go.RowKit

theorem choose_list {α : Type} {P : Nat → α → Prop} : ∀ (n : Nat), (∀ i, i < n → ∃ x, P i x) → ∃ l : List α, l.length = n ∧ ∀ (i : Nat) (x : α), l[i]? = some x → P i x
  | 0, _ => ⟨[], rfl, fun i x h => by simp at h⟩
  | n + 1, h => by
    obtain ⟨l, hl, hp⟩ := choose_list n (fun i hi => h i (by omega))
    obtain ⟨x, hx⟩ := h n (by omega)
    refine ⟨l ++ [x], by rw [List.length_append, hl]; rfl, fun i y hy => ?_⟩
    by_cases hi : i < n
    · rw [List.getElem?_append_left (by omega)] at hy
      exact hp i y hy
    · have hlt := (List.getElem?_eq_some_iff.1 hy).1
      rw [List.length_append, hl] at hlt
      obtain rfl : i = n := by simp at hlt; omega
      rw [List.getElem?_append_right (by omega), hl, Nat.sub_self] at hy
      simp only [List.getElem?_cons_zero, Option.some.injEq] at hy
      rw [← hy]
      exact hx

theorem cells_mb : Tryd.prog.cellsOf 47 = 2 := by kernel_rfl

set_option maxRecDepth 100000 in
theorem open_mb {H : Type} {enc : TypeId × Value → H} {W : World} {base : Nat} {sp : Nat → Bool} {held : Bool} {fuel : Nat} {cs : List Value} {y : DataW H × List MemPlace} (h : DataW.trod enc Tryd.prog W base sp held fuel 47 cs = some y) :
    ∃ x : Mb, cs = [.string ⟨x.1.toArray⟩, .int .i64 x.2] ∧ x.1.length ≤ 9223372036854775807 := by
  obtain ⟨xs, n, rfl, rfl, hlen, hxl, hf⟩ := DataW.trod_struct Tryd.underlying47 h
  rw [cells_mb] at hlen
  obtain ⟨c0, c1, rfl⟩ : ∃ c0 c1, cs = [c0, c1] := by
    match cs, hlen with
    | [a, b], _ => exact ⟨a, b, rfl⟩
  obtain ⟨x0, x1, rfl⟩ : ∃ x0 x1, xs = [x0, x1] := by
    match xs, hxl with
    | [a, b], _ => exact ⟨a, b, rfl⟩
  have h0 := hf 0 _ rfl
  have h1 := hf 1 _ rfl
  simp only [List.getElem?_cons_zero, List.getElem?_cons_succ] at h0 h1
  obtain ⟨T, hT, rfl, hs⟩ := DataW.trod_string Tryd.underlying9 h0
  obtain ⟨I, hI, rfl, _⟩ := DataW.trod_int Tryd.underlying2 h1
  injection hT with hT _
  injection hI with hI _
  subst hT hI
  exact ⟨(T.data.toList, I), by simp, by unfold maxLen at hs; simpa using hs⟩

set_option maxRecDepth 100000 in
theorem open_mbs {H : Type} {enc : TypeId × Value → H} {W : World} {base : Nat} {sp : Nat → Bool} {held : Bool} {fuel : Nat} {cs : List Value} {y : DataW H × List MemPlace} (h : DataW.trod enc Tryd.prog W base sp held fuel 35 cs = some y) :
    ∃ A len cap L, cs = [.slice A len cap] ∧ ScAt W A len cap L ∧ ∀ x ∈ L, x.1.length ≤ 9223372036854775807 := by
  rcases DataW.trod_slice Tryd.underlying35 h with ⟨hc, _⟩ | ⟨a, len, cap, elems, rest, m, _, hc, _, _, hlc, hcm, hel, hall, _, _⟩
  · exact ⟨none, 0, 0, [], hc, ScAt.nil W, fun x hx => by cases hx⟩
  · have hex : ∀ i, i < len → ∃ p : Mb, W.cells? base (a.add (i * 2)) 2 = some [.string ⟨p.1.toArray⟩, .int .i64 p.2] ∧ p.1.length ≤ 9223372036854775807 := by
      intro i hi
      have hq := hall i hi
      rw [cells_mb] at hq
      obtain ⟨e, he⟩ : ∃ e, elems[i]? = some e := ⟨_, List.getElem?_eq_getElem (by rw [hel]; exact hi)⟩
      rw [he] at hq
      obtain ⟨cs', hcs', hd⟩ := Option.bind_eq_some_iff.1 hq
      obtain ⟨x, hx1, hx2⟩ := open_mb hd
      rw [hx1] at hcs'
      exact ⟨x, hcs', hx2⟩
    obtain ⟨L, hL, hp⟩ := choose_list len hex
    obtain ⟨g, o, spot⟩ := a
    have hspot : 0 < len → spot = none := fun h => by
      obtain ⟨p, hpj⟩ : ∃ p, L[0]? = some p := ⟨_, List.getElem?_eq_getElem (by rw [hL]; exact h)⟩
      have h5 := (World.cells?_some (hp 0 p hpj).1).2.2 0 (by decide)
      have h6 := World.cell?_spot h5
      cases spot with
      | none => rfl
      | some s => simp [Addr.add] at h6
    have hcell : ∀ (j f : Nat) (p : Mb), L[j]? = some p → f < 2 → W.cell? ⟨g, o + j * 2 + f, none⟩ = [Value.string ⟨p.1.toArray⟩, .int .i64 p.2][f]? := fun j f p hj hf => by
      have hs := hspot (by have := (List.getElem?_eq_some_iff.1 hj).1; omega)
      subst hs
      have := (World.cells?_some (hp j p hj).1).2.2 f hf
      rw [← this, Go.WideShapes.add_plain, Go.WideShapes.add_plain]
    refine ⟨some ⟨g, o, spot⟩, len, cap, L, hc, ⟨hL, hlc, by unfold maxLen at hcm; exact hcm, fun h => ?_⟩, fun x hx => ?_⟩
    · obtain ⟨p, hpj⟩ : ∃ p, L[0]? = some p := ⟨_, List.getElem?_eq_getElem (by rw [hL]; exact h)⟩
      exact ⟨g, o, by rw [hspot h], World.block_lt_of_cell? W _ (hcell 0 0 p hpj (by decide)), fun i x hx => ⟨hcell i 0 x hx (by decide), hcell i 1 x hx (by decide)⟩⟩
    · obtain ⟨j, hj⟩ := List.mem_iff_getElem?.1 hx
      exact (hp j x hj).2

end Go.Proofs.YtcbiiioglklpoaaDoor
