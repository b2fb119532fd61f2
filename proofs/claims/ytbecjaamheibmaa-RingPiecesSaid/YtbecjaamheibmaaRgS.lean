/-
  Slices of bytes and scripts of layer 19 as a row hands them on. Conditions: as typed.
-/
import Derived.Test.YtbecjaamheibmaaRgM
import Derived.Test.YtbecjaamheibmaaBase
import Derived.SizedLaws
import Derived.DataReads
namespace Go.Proofs.Ytbecjaamheibmaa
open Go.ChangeShapes Go.WideShapes Go.ChangeAt Go.RowKit

theorem u8_wf {n : Int} (h : (Lit.int .u8 n).wf = true) : 0 ≤ n ∧ n ≤ 255 := by
  simp only [Lit.wf, IntKind.min, IntKind.max, IntKind.signed, IntKind.bits, Bool.and_eq_true] at h
  simpa using h
theorem u64_wf {n : Int} (h : (Lit.int .u64 n).wf = true) : 0 ≤ n ∧ n ≤ 18446744073709551615 := by
  simp only [Lit.wf, IntKind.min, IntKind.max, IntKind.signed, IntKind.bits, Bool.and_eq_true] at h
  simpa using h
theorem i64_wf {n : Int} (h : (Lit.int .i64 n).wf = true) : -9223372036854775808 ≤ n ∧ n ≤ 9223372036854775807 := by
  simp only [Lit.wf, IntKind.min, IntKind.max, IntKind.signed, IntKind.bits, Bool.and_eq_true] at h
  simpa using h

theorem choose_list {α : Type} {P : Nat → α → Prop} : ∀ (n : Nat), (∀ i, i < n → ∃ x, P i x) → ∃ l : List α, l.length = n ∧ ∀ (i : Nat) (x : α), l[i]? = some x → P i x
  | 0, _ => ⟨[], rfl, fun i x h => by simp at h⟩
  | n + 1, h => by
    obtain ⟨l, hl, hp⟩ := choose_list n (fun i hi => h i (by omega))
    obtain ⟨x, hx⟩ := h n (by omega)
    refine ⟨l ++ [x], by rw [List.length_append, hl]; rfl, fun i y hy => ?_⟩
    by_cases hi : i < n
    · rw [List.getElem?_append_left (by omega)] at hy
      exact hp i y hy
    · have hlt := (List.getElem?_eq_some_iff.1 hy).1
      rw [List.length_append, hl] at hlt
      obtain rfl : i = n := by simp at hlt; omega
      rw [List.getElem?_append_right (by omega), hl, Nat.sub_self] at hy
      simp only [List.getElem?_cons_zero, Option.some.injEq] at hy
      rw [← hy]
      exact hx

/-- What lies side by side, one cell each. -/
theorem sl_of {α : Type} {W : World} {a : Addr} {len cap : Nat} {L : List α} {enc : α → Value} (hL : L.length = len) (hlc : len ≤ cap) (hcm : cap ≤ 9223372036854775807) (hp : ∀ (i : Nat) (x : α), L[i]? = some x → W.cell? (a.add i) = some (enc x)) : SlAt W (some a) len cap (L.map enc) := by
  obtain ⟨g, o, spot⟩ := a
  refine ⟨by rw [List.length_map, hL], hlc, hcm, (fun e => by cases e), fun h0 => ?_⟩
  have hspot : spot = none := by
    obtain ⟨x, hx⟩ : ∃ x, L[0]? = some x := ⟨_, List.getElem?_eq_getElem (by rw [hL]; exact h0)⟩
    have h6 := World.cell?_spot (hp 0 x hx)
    cases spot with
    | none => rfl
    | some s => simp [Addr.add] at h6
  subst hspot
  have hc : ∀ j u, (L.map enc)[j]? = some u → W.cell? ⟨g, o + j, none⟩ = some u := fun j u hu => by
    rw [List.getElem?_map] at hu
    cases hx : L[j]? with
    | none => rw [hx] at hu; cases hu
    | some x =>
      rw [hx] at hu
      injection hu with hu
      have := hp j x hx
      rw [Go.WideShapes.add_plain] at this
      rw [this, hu]
  refine ⟨g, o, rfl, ?_, hc⟩
  obtain ⟨x, hx⟩ : ∃ x, L[0]? = some x := ⟨_, List.getElem?_eq_getElem (by rw [hL]; exact h0)⟩
  exact World.block_lt_of_cell? W _ (hc 0 _ (by rw [List.getElem?_map, hx]; rfl))

theorem cells_one {W : World} {b : Nat} {a : Addr} {u : Value} (h : W.cells? b a 1 = some [u]) : W.cell? a = some u := by
  have := (World.cells?_some h).2.2 0 (by decide)
  simpa [Addr.add] using this

theorem cells_by : Try.prog.cellsOf 5 = 1 := by kernel_rfl

set_option maxRecDepth 100000 in
theorem open_by {H : Type} {enc : TypeId × Value → H} {W : World} {base : Nat} {sp : Nat → Bool} {held : Bool} {fuel : Nat} {cs : List Value} {y : DataW H × List MemPlace} (h : DataW.trod enc Try.prog W base sp held fuel 33 cs = some y) :
    ∃ A len cap, ∃ L : Tx, cs = [.slice A len cap] ∧ ByAt W A len cap L := by
  rcases DataW.trod_slice Try.underlying33 h with ⟨hc, _⟩ | ⟨a, len, cap, elems, rest, m, _, hc, _, _, hlc, hcm, hel, hall, _, _⟩
  · exact ⟨none, 0, 0, [], hc, ByAt.nil W⟩
  · have hex : ∀ i, i < len → ∃ p : UInt8, W.cell? (a.add i) = some (byV p) := by
      intro i hi
      have hq := hall i hi
      rw [cells_by, Nat.mul_one] at hq
      obtain ⟨e, he⟩ : ∃ e, elems[i]? = some e := ⟨_, List.getElem?_eq_getElem (by rw [hel]; exact hi)⟩
      rw [he] at hq
      obtain ⟨cs', hcs', hd⟩ := Option.bind_eq_some_iff.1 hq
      obtain ⟨n, rfl, _, hwf⟩ := DataW.trod_int Try.underlying5 hd
      refine ⟨UInt8.ofNat n.toNat, ?_⟩
      rw [cells_one hcs']
      have hb := u8_wf hwf
      unfold byV
      rw [UInt8.toNat_ofNat']
      congr 2
      omega
    obtain ⟨L, hL, hp⟩ := choose_list len hex
    unfold maxLen at hcm
    exact ⟨some a, len, cap, L, hc, sl_of hL hlc hcm hp⟩

/-- An act of the script: what it feeds lies at A, n, c and reads as b. -/
structure Op19 where
  kind : Int
  A : Option Addr
  n : Nat
  c : Nat
  id : Int
  off : Int
  b : Tx

structure Op19.Ok (W : World) (x : Op19) : Prop where
  by_ : ByAt W x.A x.n x.c x.b
  i1 : 0 ≤ x.id
  i2 : x.id ≤ 18446744073709551615
  o1 : -9223372036854775808 ≤ x.off
  o2 : x.off ≤ 9223372036854775807

structure Scr19 (W : World) (A : Option Addr) (n cap g o : Nat) (L : List Op19) : Prop where
  len : L.length = n
  le : n ≤ cap
  max : cap ≤ 9223372036854775807
  at_ : 0 < n → A = some ⟨g, o, none⟩ ∧ g < W.heap.size
  cells : ∀ (i : Nat) (x : Op19), L[i]? = some x → (W.cell? ⟨g, o + i * 4, none⟩ = some (.int .i64 x.kind) ∧ W.cell? ⟨g, o + i * 4 + 1, none⟩ = some (.slice x.A x.n x.c) ∧ W.cell? ⟨g, o + i * 4 + 2, none⟩ = some (.int .u64 x.id) ∧ W.cell? ⟨g, o + i * 4 + 3, none⟩ = some (.int .i64 x.off)) ∧ x.Ok W

theorem cells_op19 : Try.prog.cellsOf 35 = 4 := by kernel_rfl

set_option maxRecDepth 100000 in
theorem open_op19 {H : Type} {enc : TypeId × Value → H} {W : World} {base : Nat} {sp : Nat → Bool} {held : Bool} {fuel : Nat} {cs : List Value} {y : DataW H × List MemPlace} (h : DataW.trod enc Try.prog W base sp held fuel 35 cs = some y) :
    ∃ x : Op19, cs = [.int .i64 x.kind, .slice x.A x.n x.c, .int .u64 x.id, .int .i64 x.off] ∧ x.Ok W := by
  obtain ⟨xs, n, rfl, rfl, hlen, hxl, hf⟩ := DataW.trod_struct Try.underlying35 h
  rw [cells_op19] at hlen
  obtain ⟨c0, c1, c2, c3, rfl⟩ : ∃ c0 c1 c2 c3, cs = [c0, c1, c2, c3] := by
    match cs, hlen with
    | [a, b, c, d], _ => exact ⟨a, b, c, d, rfl⟩
  obtain ⟨x0, x1, x2, x3, rfl⟩ : ∃ x0 x1 x2 x3, xs = [x0, x1, x2, x3] := by
    match xs, hxl with
    | [a, b, c, d], _ => exact ⟨a, b, c, d, rfl⟩
  have h0 := hf 0 _ rfl
  have h1 := hf 1 _ rfl
  have h2 := hf 2 _ rfl
  have h3 := hf 3 _ rfl
  simp only [List.getElem?_cons_zero, List.getElem?_cons_succ] at h0 h1 h2 h3
  obtain ⟨k, hk, rfl, _⟩ := DataW.trod_int Try.underlying3 h0
  obtain ⟨A, m, c, b, hB, hb⟩ := open_by h1
  obtain ⟨I, hI, rfl, hi⟩ := DataW.trod_int Try.underlying22 h2
  obtain ⟨O, hO, rfl, ho⟩ := DataW.trod_int Try.underlying3 h3
  injection hk with hk _
  injection hB with hB _
  injection hI with hI _
  injection hO with hO _
  subst hk hB hI hO
  exact ⟨⟨k, A, m, c, I, O, b⟩, rfl, hb, (u64_wf hi).1, (u64_wf hi).2, (i64_wf ho).1, (i64_wf ho).2⟩

set_option maxRecDepth 100000 in
theorem open_ops19 {H : Type} {enc : TypeId × Value → H} {W : World} {base : Nat} {sp : Nat → Bool} {held : Bool} {fuel : Nat} {cs : List Value} {y : DataW H × List MemPlace} (h : DataW.trod enc Try.prog W base sp held fuel 23 cs = some y) :
    ∃ A len cap g o L, cs = [.slice A len cap] ∧ Scr19 W A len cap g o L := by
  rcases DataW.trod_slice Try.underlying23 h with ⟨hc, _⟩ | ⟨a, len, cap, elems, rest, m, _, hc, _, _, hlc, hcm, hel, hall, _, _⟩
  · exact ⟨none, 0, 0, 0, 0, [], hc, rfl, Nat.le_refl _, Nat.zero_le _, fun q => absurd q (Nat.lt_irrefl 0), fun i x hx => by simp at hx⟩
  · have hex : ∀ i, i < len → ∃ p : Op19, W.cells? base (a.add (i * 4)) 4 = some [.int .i64 p.kind, .slice p.A p.n p.c, .int .u64 p.id, .int .i64 p.off] ∧ p.Ok W := by
      intro i hi
      have hq := hall i hi
      rw [cells_op19] at hq
      obtain ⟨e, he⟩ : ∃ e, elems[i]? = some e := ⟨_, List.getElem?_eq_getElem (by rw [hel]; exact hi)⟩
      rw [he] at hq
      obtain ⟨cs', hcs', hd⟩ := Option.bind_eq_some_iff.1 hq
      obtain ⟨x, hx1, hx2⟩ := open_op19 hd
      rw [hx1] at hcs'
      exact ⟨x, hcs', hx2⟩
    obtain ⟨L, hL, hp⟩ := choose_list len hex
    obtain ⟨g, o, spot⟩ := a
    have hspot : 0 < len → spot = none := fun h => by
      obtain ⟨p, hpj⟩ : ∃ p, L[0]? = some p := ⟨_, List.getElem?_eq_getElem (by rw [hL]; exact h)⟩
      have h5 := (World.cells?_some (hp 0 p hpj).1).2.2 0 (by decide)
      have h6 := World.cell?_spot h5
      cases spot with
      | none => rfl
      | some s => simp [Addr.add] at h6
    have hcell : ∀ (j f : Nat) (p : Op19), L[j]? = some p → f < 4 → W.cell? ⟨g, o + j * 4 + f, none⟩ = [Value.int .i64 p.kind, .slice p.A p.n p.c, .int .u64 p.id, .int .i64 p.off][f]? := fun j f p hj hf => by
      have hs := hspot (by have := (List.getElem?_eq_some_iff.1 hj).1; omega)
      subst hs
      have := (World.cells?_some (hp j p hj).1).2.2 f hf
      rw [← this, Go.WideShapes.add_plain, Go.WideShapes.add_plain]
    refine ⟨some ⟨g, o, spot⟩, len, cap, g, o, L, hc, hL, hlc, by unfold maxLen at hcm; exact hcm, fun h => ?_, fun i x hx => ⟨⟨hcell i 0 x hx (by decide), hcell i 1 x hx (by decide), hcell i 2 x hx (by decide), hcell i 3 x hx (by decide)⟩, (hp i x hx).2⟩⟩
    obtain ⟨p, hpj⟩ : ∃ p, L[0]? = some p := ⟨_, List.getElem?_eq_getElem (by rw [hL]; exact h)⟩
    exact ⟨by rw [hspot h], World.block_lt_of_cell? W _ (hcell 0 0 p hpj (by decide))⟩

end Go.Proofs.Ytbecjaamheibmaa
