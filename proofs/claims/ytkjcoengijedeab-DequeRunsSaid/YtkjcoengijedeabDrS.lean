/-
  A script of calls of layer 6 as a row hands it on. Conditions: as typed.
-/
import Derived.Test.YtkjcoengijedeabDlS
namespace Go.Proofs.Ytkjcoengijedeab
open Go.ChangeShapes Go.WideShapes Go.ChangeAt Go.RowKit

structure Op6 where
  kind : Int
  i : Int
  k : Int
  v : ByteArray

structure Scr6 (W : World) (A : Option Addr) (n cap g o : Nat) (L : List Op6) : Prop where
  len : L.length = n
  le : n ≤ cap
  max : cap ≤ 9223372036854775807
  at_ : 0 < n → A = some ⟨g, o, none⟩ ∧ g < W.heap.size
  cells : ∀ (i : Nat) (x : Op6), L[i]? = some x → W.cell? ⟨g, o + i * 4, none⟩ = some (.int .i64 x.kind) ∧ W.cell? ⟨g, o + i * 4 + 1, none⟩ = some (.int .i64 x.i) ∧ W.cell? ⟨g, o + i * 4 + 2, none⟩ = some (.int .i64 x.k) ∧ W.cell? ⟨g, o + i * 4 + 3, none⟩ = some (.string x.v)

theorem cells_op6 : Try.prog.cellsOf 32 = 4 := by kernel_rfl

set_option maxRecDepth 100000 in
theorem open_op6 {H : Type} {enc : TypeId × Value → H} {W : World} {base : Nat} {sp : Nat → Bool} {held : Bool} {fuel : Nat} {cs : List Value} {y : DataW H × List MemPlace} (h : DataW.trod enc Try.prog W base sp held fuel 32 cs = some y) :
    ∃ x : Op6, cs = [.int .i64 x.kind, .int .i64 x.i, .int .i64 x.k, .string x.v] := by
  obtain ⟨xs, n, rfl, rfl, hlen, hxl, hf⟩ := DataW.trod_struct Try.underlying32 h
  rw [cells_op6] at hlen
  obtain ⟨c0, c1, c2, c3, rfl⟩ : ∃ c0 c1 c2 c3, cs = [c0, c1, c2, c3] := by
    match cs, hlen with
    | [a, b, c, d], _ => exact ⟨a, b, c, d, rfl⟩
  obtain ⟨x0, x1, x2, x3, rfl⟩ : ∃ x0 x1 x2 x3, xs = [x0, x1, x2, x3] := by
    match xs, hxl with
    | [a, b, c, d], _ => exact ⟨a, b, c, d, rfl⟩
  have h0 := hf 0 _ rfl
  have h1 := hf 1 _ rfl
  have h2 := hf 2 _ rfl
  have h3 := hf 3 _ rfl
  simp only [List.getElem?_cons_zero, List.getElem?_cons_succ] at h0 h1 h2 h3
  obtain ⟨k, hk, rfl, _⟩ := DataW.trod_int Try.underlying3 h0
  obtain ⟨I, hI, rfl, _⟩ := DataW.trod_int Try.underlying3 h1
  obtain ⟨K, hK, rfl, _⟩ := DataW.trod_int Try.underlying3 h2
  obtain ⟨T, hT, rfl, _⟩ := DataW.trod_string Try.underlying9 h3
  injection hk with hk _
  injection hI with hI _
  injection hK with hK _
  injection hT with hT _
  subst hk hI hK hT
  exact ⟨⟨k, I, K, T⟩, rfl⟩

set_option maxRecDepth 100000 in
theorem open_ops6 {H : Type} {enc : TypeId × Value → H} {W : World} {base : Nat} {sp : Nat → Bool} {held : Bool} {fuel : Nat} {cs : List Value} {y : DataW H × List MemPlace} (h : DataW.trod enc Try.prog W base sp held fuel 23 cs = some y) :
    ∃ A len cap g o L, cs = [.slice A len cap] ∧ Scr6 W A len cap g o L := by
  rcases DataW.trod_slice Try.underlying23 h with ⟨hc, _⟩ | ⟨a, len, cap, elems, rest, m, _, hc, _, _, hlc, hcm, hel, hall, _, _⟩
  · exact ⟨none, 0, 0, 0, 0, [], hc, rfl, Nat.le_refl _, Nat.zero_le _, fun q => absurd q (Nat.lt_irrefl 0), fun i x hx => by simp at hx⟩
  · have hex : ∀ i, i < len → ∃ p : Op6, W.cells? base (a.add (i * 4)) 4 = some [.int .i64 p.kind, .int .i64 p.i, .int .i64 p.k, .string p.v] := by
      intro i hi
      have hq := hall i hi
      rw [cells_op6] at hq
      obtain ⟨e, he⟩ : ∃ e, elems[i]? = some e := ⟨_, List.getElem?_eq_getElem (by rw [hel]; exact hi)⟩
      rw [he] at hq
      obtain ⟨cs', hcs', hd⟩ := Option.bind_eq_some_iff.1 hq
      obtain ⟨x, hx1⟩ := open_op6 hd
      rw [hx1] at hcs'
      exact ⟨x, hcs'⟩
    obtain ⟨L, hL, hp⟩ := choose_list len hex
    obtain ⟨g, o, spot⟩ := a
    have hspot : 0 < len → spot = none := fun h => by
      obtain ⟨p, hpj⟩ : ∃ p, L[0]? = some p := ⟨_, List.getElem?_eq_getElem (by rw [hL]; exact h)⟩
      have h5 := (World.cells?_some (hp 0 p hpj)).2.2 0 (by decide)
      have h6 := World.cell?_spot h5
      cases spot with
      | none => rfl
      | some s => simp [Addr.add] at h6
    have hcell : ∀ (j f : Nat) (p : Op6), L[j]? = some p → f < 4 → W.cell? ⟨g, o + j * 4 + f, none⟩ = [Value.int .i64 p.kind, .int .i64 p.i, .int .i64 p.k, .string p.v][f]? := fun j f p hj hf => by
      have hs := hspot (by have := (List.getElem?_eq_some_iff.1 hj).1; omega)
      subst hs
      have := (World.cells?_some (hp j p hj)).2.2 f hf
      rw [← this, Go.WideShapes.add_plain, Go.WideShapes.add_plain]
    refine ⟨some ⟨g, o, spot⟩, len, cap, g, o, L, hc, hL, hlc, by unfold maxLen at hcm; exact hcm, fun h => ?_, fun i x hx => ⟨hcell i 0 x hx (by decide), hcell i 1 x hx (by decide), hcell i 2 x hx (by decide), hcell i 3 x hx (by decide)⟩⟩
    obtain ⟨p, hpj⟩ : ∃ p, L[0]? = some p := ⟨_, List.getElem?_eq_getElem (by rw [hL]; exact h)⟩
    exact ⟨by rw [hspot h], World.block_lt_of_cell? W _ (hcell 0 0 p hpj (by decide))⟩

end Go.Proofs.Ytkjcoengijedeab
