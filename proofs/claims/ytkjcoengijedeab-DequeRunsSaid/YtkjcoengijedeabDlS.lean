/-
  Slices of numbers, of texts and of calls as a row hands them on. Conditions: as typed.
-/
import Derived.Test.YtkjcoengijedeabDqO
import Derived.Test.YtkjcoengijedeabBase
import Derived.SizedLaws
import Derived.DataReads
namespace Go.Proofs.Ytkjcoengijedeab
open Go.ChangeShapes Go.WideShapes Go.ChangeAt Go.RowKit

theorem u8_wf {n : Int} (h : (Lit.int .u8 n).wf = true) : 0 ≤ n ∧ n ≤ 255 := by
  simp only [Lit.wf, IntKind.min, IntKind.max, IntKind.signed, IntKind.bits, Bool.and_eq_true] at h
  simpa using h

theorem i64_wf {n : Int} (h : (Lit.int .i64 n).wf = true) : -9223372036854775808 ≤ n ∧ n ≤ 9223372036854775807 := by
  simp only [Lit.wf, IntKind.min, IntKind.max, IntKind.signed, IntKind.bits, Bool.and_eq_true] at h
  simpa using h

theorem choose_list {α : Type} {P : Nat → α → Prop} : ∀ (n : Nat), (∀ i, i < n → ∃ x, P i x) → ∃ l : List α, l.length = n ∧ ∀ (i : Nat) (x : α), l[i]? = some x → P i x
  | 0, _ => ⟨[], rfl, fun i x h => by simp at h⟩
  | n + 1, h => by
    obtain ⟨l, hl, hp⟩ := choose_list n (fun i hi => h i (by omega))
    obtain ⟨x, hx⟩ := h n (by omega)
    refine ⟨l ++ [x], by rw [List.length_append, hl]; rfl, fun i y hy => ?_⟩
    by_cases hi : i < n
    · rw [List.getElem?_append_left (by omega)] at hy
      exact hp i y hy
    · have hlt := (List.getElem?_eq_some_iff.1 hy).1
      rw [List.length_append, hl] at hlt
      obtain rfl : i = n := by simp at hlt; omega
      rw [List.getElem?_append_right (by omega), hl, Nat.sub_self] at hy
      simp only [List.getElem?_cons_zero, Option.some.injEq] at hy
      rw [← hy]
      exact hx

/-- What lies side by side, one cell each. -/
theorem sl_of {α : Type} {W : World} {a : Addr} {len cap : Nat} {L : List α} {enc : α → Value} (hL : L.length = len) (hlc : len ≤ cap) (hcm : cap ≤ 9223372036854775807) (hp : ∀ (i : Nat) (x : α), L[i]? = some x → W.cell? (a.add i) = some (enc x)) : SlAt W (some a) len cap (L.map enc) := by
  obtain ⟨g, o, spot⟩ := a
  refine ⟨by rw [List.length_map, hL], hlc, hcm, (fun e => by cases e), fun h0 => ?_⟩
  have hspot : spot = none := by
    obtain ⟨x, hx⟩ : ∃ x, L[0]? = some x := ⟨_, List.getElem?_eq_getElem (by rw [hL]; exact h0)⟩
    have h6 := World.cell?_spot (hp 0 x hx)
    cases spot with
    | none => rfl
    | some s => simp [Addr.add] at h6
  subst hspot
  have hc : ∀ j u, (L.map enc)[j]? = some u → W.cell? ⟨g, o + j, none⟩ = some u := fun j u hu => by
    rw [List.getElem?_map] at hu
    cases hx : L[j]? with
    | none => rw [hx] at hu; cases hu
    | some x =>
      rw [hx] at hu
      injection hu with hu
      have := hp j x hx
      rw [Go.WideShapes.add_plain] at this
      rw [this, hu]
  refine ⟨g, o, rfl, ?_, hc⟩
  obtain ⟨x, hx⟩ : ∃ x, L[0]? = some x := ⟨_, List.getElem?_eq_getElem (by rw [hL]; exact h0)⟩
  exact World.block_lt_of_cell? W _ (hc 0 _ (by rw [List.getElem?_map, hx]; rfl))

theorem cells_one {W : World} {b : Nat} {a : Addr} {u : Value} (h : W.cells? b a 1 = some [u]) : W.cell? a = some u := by
  have := (World.cells?_some h).2.2 0 (by decide)
  simpa [Addr.add] using this

theorem cells_int : Try.prog.cellsOf 3 = 1 := by kernel_rfl
theorem cells_str : Try.prog.cellsOf 9 = 1 := by kernel_rfl

set_option maxRecDepth 100000 in
theorem open_intsl {H : Type} {enc : TypeId × Value → H} {W : World} {base : Nat} {sp : Nat → Bool} {held : Bool} {fuel : Nat} {cs : List Value} {y : DataW H × List MemPlace} (h : DataW.trod enc Try.prog W base sp held fuel 36 cs = some y) :
    ∃ A len cap, ∃ L : List Int, cs = [.slice A len cap] ∧ SlAt W A len cap (L.map (Value.int .i64)) := by
  rcases DataW.trod_slice Try.underlying36 h with ⟨hc, _⟩ | ⟨a, len, cap, elems, rest, m, _, hc, _, _, hlc, hcm, hel, hall, _, _⟩
  · exact ⟨none, 0, 0, [], hc, SlAt.nil W⟩
  · have hex : ∀ i, i < len → ∃ p : Int, W.cell? (a.add i) = some (.int .i64 p) := by
      intro i hi
      have hq := hall i hi
      rw [cells_int, Nat.mul_one] at hq
      obtain ⟨e, he⟩ : ∃ e, elems[i]? = some e := ⟨_, List.getElem?_eq_getElem (by rw [hel]; exact hi)⟩
      rw [he] at hq
      obtain ⟨cs', hcs', hd⟩ := Option.bind_eq_some_iff.1 hq
      obtain ⟨n, rfl, _, _⟩ := DataW.trod_int Try.underlying3 hd
      exact ⟨n, cells_one hcs'⟩
    obtain ⟨L, hL, hp⟩ := choose_list len hex
    unfold maxLen at hcm
    exact ⟨some a, len, cap, L, hc, sl_of hL hlc hcm hp⟩

set_option maxRecDepth 100000 in
theorem open_strsl {H : Type} {enc : TypeId × Value → H} {W : World} {base : Nat} {sp : Nat → Bool} {held : Bool} {fuel : Nat} {cs : List Value} {y : DataW H × List MemPlace} (h : DataW.trod enc Try.prog W base sp held fuel 22 cs = some y) :
    ∃ A len cap, ∃ L : List ByteArray, cs = [.slice A len cap] ∧ SlAt W A len cap (L.map Value.string) := by
  rcases DataW.trod_slice Try.underlying22 h with ⟨hc, _⟩ | ⟨a, len, cap, elems, rest, m, _, hc, _, _, hlc, hcm, hel, hall, _, _⟩
  · exact ⟨none, 0, 0, [], hc, SlAt.nil W⟩
  · have hex : ∀ i, i < len → ∃ p : ByteArray, W.cell? (a.add i) = some (.string p) := by
      intro i hi
      have hq := hall i hi
      rw [cells_str, Nat.mul_one] at hq
      obtain ⟨e, he⟩ : ∃ e, elems[i]? = some e := ⟨_, List.getElem?_eq_getElem (by rw [hel]; exact hi)⟩
      rw [he] at hq
      obtain ⟨cs', hcs', hd⟩ := Option.bind_eq_some_iff.1 hq
      obtain ⟨n, rfl, _, _⟩ := DataW.trod_string Try.underlying9 hd
      exact ⟨n, cells_one hcs'⟩
    obtain ⟨L, hL, hp⟩ := choose_list len hex
    unfold maxLen at hcm
    exact ⟨some a, len, cap, L, hc, sl_of hL hlc hcm hp⟩

end Go.Proofs.Ytkjcoengijedeab
