/-
  What the rows of this seat hand on: the table of trailing zeros as the program's own text lays it, bounds by value, numbers that are well formed. Conditions: as typed. A slice of members as a row hands it on. Conditions: as typed. A script of acts on a list as a row hands it on. Conditions: as typed.
-/
import Derived.Test.YtcbiiioglklpoaaDoorBase
import Derived.Test.YtcbiiioglklpoaaDoorSkH
import Derived.Test.YtcbiiioglklpoaaDoorSkO
import Derived.Test.YtcbiiioglklpoaaDoorSkC1
import Derived.Lib.SmallJoins
import Derived.ChangeArms
import Derived.SizedLaws
import Derived.DataReads
namespace Go.Proofs.YtcbiiioglklpoaaDoor
open Go.RowKit

open Go.ChangeShapes Go.WideShapes Go.ChangeAt Go.RowKit

theorem gTz : Tryd.prog.globalNamed "math/bits.deBruijn64tab" = some 0 := by kernel_rfl
theorem gTzType : (Tryd.prog.globals[0]?).map (·.type) = some 116 := by kernel_rfl

theorem tz_of_list {l : List (String × DataW Unit)} {W : World} (h : laidMetH Tryd.prog l W) (hl : l = [("math/bits.deBruijn64tab", Lib.tabData .u8 (Lib.deBruijn64tab.map Int.ofNat))]) : Tz W ∧ 0 < W.heap.size := by
  subst hl
  rw [MakeChecks.laidMetH_plain _ _ _ (by kernel_rfl)] at h
  have hT := Lib.tabIs_of_head (rest := []) gTz gTzType Tryd.underlying116 Tryd.underlying5 (by kernel_rfl) (by kernel_rfl) h
  have hlen : (Lib.deBruijn64tab.map Int.ofNat).length = 64 := by decide
  have hl64 : Lib.deBruijn64tab.length = 64 := by decide
  refine ⟨fun j hj => ?_, ?_⟩
  · rw [Lib.TabIs.cell hT gTz j (by rw [hlen, ← hl64]; exact hj)]
    congr 2
    rw [List.getD_eq_getElem?_getD, List.getD_eq_getElem?_getD, List.getElem?_map, List.getElem?_eq_getElem hj]
    rfl
  · exact World.block_lt_of_cell? W _ (Lib.TabIs.cell hT gTz 0 (by rw [hlen]; decide))

theorem i64_wf {n : Int} (h : (Lit.int .i64 n).wf = true) : -9223372036854775808 ≤ n ∧ n ≤ 9223372036854775807 := by
  simp only [Lit.wf, IntKind.min, IntKind.max, IntKind.signed, IntKind.bits, Bool.and_eq_true, decide_eq_true_eq, if_true] at h
  omega

theorem u64_wf {n : Int} (h : (Lit.int .u64 n).wf = true) : 0 ≤ n ∧ n ≤ 18446744073709551615 := by
  simp only [Lit.wf, IntKind.min, IntKind.max, IntKind.signed, IntKind.bits, Bool.and_eq_true] at h
  simpa using h

theorem u64_open {n : Int} (h : (Lit.int .u64 n).wf = true) : ∃ m : Nat, n = (m : Int) ∧ m < 18446744073709551616 := by
  obtain ⟨a, b⟩ := u64_wf h
  exact ⟨n.toNat, by omega, by omega⟩

theorem no_standIn {P : Program} {ts : Array TypeId} (h : ts.all (fun t => !P.wantsStandIn t) = true) (j : Nat) (t : TypeId) (ht : ts[j]? = some t) : P.wantsStandIn t = false := by
  rw [Array.all_eq_true_iff_forall_mem] at h
  have := h t (Array.mem_of_getElem? ht)
  simpa using this

set_option maxRecDepth 100000 in
/-- A bound by value. -/
theorem open_bound {H : Type} {enc : TypeId × Value → H} {W : World} {base : Nat} {sp : Nat → Bool} {held : Bool} {r : Reach} {b0 : Nat} {v : Value} {d : DataW H} {p : List MemPlace} (hv : Value.okWide Tryd.prog W r b0 23 v) (h : DataW.Trod enc Tryd.prog W base sp held 23 v d p) :
    ∃ b : Bd, v = bdV b ∧ p = [] := by
  obtain ⟨v0, v1, v2, y0, y1, y2, n, rfl, rfl, rfl, h0, h1, h2⟩ := Go.Joins.open_agg3 Tryd.underlying23 (by kernel_rfl) (by kernel_rfl) hv h
  obtain ⟨a, ha, rfl, _⟩ := DataW.trod_int Tryd.underlying2 h0
  obtain ⟨o, ho, rfl⟩ := DataW.trod_bool Tryd.underlying4 h1
  obtain ⟨i, hi, rfl, _⟩ := DataW.trod_int Tryd.underlying3 h2
  injection ha with ha _
  injection ho with ho _
  injection hi with hi _
  subst ha ho hi
  exact ⟨⟨a, o, i⟩, rfl, rfl⟩

open Go.ChangeShapes Go.WideShapes Go.ChangeAt Go.RowKit

theorem choose_list {α : Type} {P : Nat → α → Prop} : ∀ (n : Nat), (∀ i, i < n → ∃ x, P i x) → ∃ l : List α, l.length = n ∧ ∀ (i : Nat) (x : α), l[i]? = some x → P i x
  | 0, _ => ⟨[], rfl, fun i x h => by simp at h⟩
  | n + 1, h => by
    obtain ⟨l, hl, hp⟩ := choose_list n (fun i hi => h i (by omega))
    obtain ⟨x, hx⟩ := h n (by omega)
    refine ⟨l ++ [x], by rw [List.length_append, hl]; rfl, fun i y hy => ?_⟩
    by_cases hi : i < n
    · rw [List.getElem?_append_left (by omega)] at hy
      exact hp i y hy
    · have hlt := (List.getElem?_eq_some_iff.1 hy).1
      rw [List.length_append, hl] at hlt
      obtain rfl : i = n := by simp at hlt; omega
      rw [List.getElem?_append_right (by omega), hl, Nat.sub_self] at hy
      simp only [List.getElem?_cons_zero, Option.some.injEq] at hy
      rw [← hy]
      exact hx

theorem cells_mb : Tryd.prog.cellsOf 47 = 2 := by kernel_rfl

set_option maxRecDepth 100000 in
theorem open_mb {H : Type} {enc : TypeId × Value → H} {W : World} {base : Nat} {sp : Nat → Bool} {held : Bool} {fuel : Nat} {cs : List Value} {y : DataW H × List MemPlace} (h : DataW.trod enc Tryd.prog W base sp held fuel 47 cs = some y) :
    ∃ x : Mb, cs = [.string ⟨x.1.toArray⟩, .int .i64 x.2] ∧ x.1.length ≤ 9223372036854775807 := by
  obtain ⟨xs, n, rfl, rfl, hlen, hxl, hf⟩ := DataW.trod_struct Tryd.underlying47 h
  rw [cells_mb] at hlen
  obtain ⟨c0, c1, rfl⟩ : ∃ c0 c1, cs = [c0, c1] := by
    match cs, hlen with
    | [a, b], _ => exact ⟨a, b, rfl⟩
  obtain ⟨x0, x1, rfl⟩ : ∃ x0 x1, xs = [x0, x1] := by
    match xs, hxl with
    | [a, b], _ => exact ⟨a, b, rfl⟩
  have h0 := hf 0 _ rfl
  have h1 := hf 1 _ rfl
  simp only [List.getElem?_cons_zero, List.getElem?_cons_succ] at h0 h1
  obtain ⟨T, hT, rfl, hs⟩ := DataW.trod_string Tryd.underlying9 h0
  obtain ⟨I, hI, rfl, _⟩ := DataW.trod_int Tryd.underlying2 h1
  injection hT with hT _
  injection hI with hI _
  subst hT hI
  exact ⟨(T.data.toList, I), by simp, by unfold maxLen at hs; simpa using hs⟩

set_option maxRecDepth 100000 in
theorem open_mbs {H : Type} {enc : TypeId × Value → H} {W : World} {base : Nat} {sp : Nat → Bool} {held : Bool} {fuel : Nat} {cs : List Value} {y : DataW H × List MemPlace} (h : DataW.trod enc Tryd.prog W base sp held fuel 35 cs = some y) :
    ∃ A len cap L, cs = [.slice A len cap] ∧ ScAt W A len cap L ∧ ∀ x ∈ L, x.1.length ≤ 9223372036854775807 := by
  rcases DataW.trod_slice Tryd.underlying35 h with ⟨hc, _⟩ | ⟨a, len, cap, elems, rest, m, _, hc, _, _, hlc, hcm, hel, hall, _, _⟩
  · exact ⟨none, 0, 0, [], hc, ScAt.nil W, fun x hx => by cases hx⟩
  · have hex : ∀ i, i < len → ∃ p : Mb, W.cells? base (a.add (i * 2)) 2 = some [.string ⟨p.1.toArray⟩, .int .i64 p.2] ∧ p.1.length ≤ 9223372036854775807 := by
      intro i hi
      have hq := hall i hi
      rw [cells_mb] at hq
      obtain ⟨e, he⟩ : ∃ e, elems[i]? = some e := ⟨_, List.getElem?_eq_getElem (by rw [hel]; exact hi)⟩
      rw [he] at hq
      obtain ⟨cs', hcs', hd⟩ := Option.bind_eq_some_iff.1 hq
      obtain ⟨x, hx1, hx2⟩ := open_mb hd
      rw [hx1] at hcs'
      exact ⟨x, hcs', hx2⟩
    obtain ⟨L, hL, hp⟩ := choose_list len hex
    obtain ⟨g, o, spot⟩ := a
    have hspot : 0 < len → spot = none := fun h => by
      obtain ⟨p, hpj⟩ : ∃ p, L[0]? = some p := ⟨_, List.getElem?_eq_getElem (by rw [hL]; exact h)⟩
      have h5 := (World.cells?_some (hp 0 p hpj).1).2.2 0 (by decide)
      have h6 := World.cell?_spot h5
      cases spot with
      | none => rfl
      | some s => simp [Addr.add] at h6
    have hcell : ∀ (j f : Nat) (p : Mb), L[j]? = some p → f < 2 → W.cell? ⟨g, o + j * 2 + f, none⟩ = [Value.string ⟨p.1.toArray⟩, .int .i64 p.2][f]? := fun j f p hj hf => by
      have hs := hspot (by have := (List.getElem?_eq_some_iff.1 hj).1; omega)
      subst hs
      have := (World.cells?_some (hp j p hj).1).2.2 f hf
      rw [← this, Go.WideShapes.add_plain, Go.WideShapes.add_plain]
    refine ⟨some ⟨g, o, spot⟩, len, cap, L, hc, ⟨hL, hlc, by unfold maxLen at hcm; exact hcm, fun h => ?_⟩, fun x hx => ?_⟩
    · obtain ⟨p, hpj⟩ : ∃ p, L[0]? = some p := ⟨_, List.getElem?_eq_getElem (by rw [hL]; exact h)⟩
      exact ⟨g, o, by rw [hspot h], World.block_lt_of_cell? W _ (hcell 0 0 p hpj (by decide)), fun i x hx => ⟨hcell i 0 x hx (by decide), hcell i 1 x hx (by decide)⟩⟩
    · obtain ⟨j, hj⟩ := List.mem_iff_getElem?.1 hx
      exact (hp j x hj).2

open Go.ChangeShapes Go.WideShapes Go.ChangeAt Go.RowKit

structure Op7 where
  kind : Int
  m : ByteArray
  n : Int

structure Scr7 (W : World) (A : Option Addr) (n cap g o : Nat) (L : List Op7) : Prop where
  len : L.length = n
  le : n ≤ cap
  max : cap ≤ 9223372036854775807
  at_ : 0 < n → A = some ⟨g, o, none⟩ ∧ g < W.heap.size
  cells : ∀ (i : Nat) (x : Op7), L[i]? = some x → x.m.size ≤ 9223372036854775807 ∧ W.cell? ⟨g, o + i * 3, none⟩ = some (.int .i64 x.kind) ∧ W.cell? ⟨g, o + i * 3 + 1, none⟩ = some (.string x.m) ∧ W.cell? ⟨g, o + i * 3 + 2, none⟩ = some (.int .i64 x.n)

theorem cells_op7 : Tryd.prog.cellsOf 51 = 3 := by kernel_rfl

set_option maxRecDepth 100000 in
theorem open_op7 {H : Type} {enc : TypeId × Value → H} {W : World} {base : Nat} {sp : Nat → Bool} {held : Bool} {fuel : Nat} {cs : List Value} {y : DataW H × List MemPlace} (h : DataW.trod enc Tryd.prog W base sp held fuel 51 cs = some y) :
    ∃ x : Op7, cs = [.int .i64 x.kind, .string x.m, .int .i64 x.n] ∧ x.m.size ≤ 9223372036854775807 := by
  obtain ⟨xs, n, rfl, rfl, hlen, hxl, hf⟩ := DataW.trod_struct Tryd.underlying51 h
  rw [cells_op7] at hlen
  obtain ⟨c0, c1, c2, rfl⟩ : ∃ c0 c1 c2, cs = [c0, c1, c2] := by
    match cs, hlen with
    | [a, b, c], _ => exact ⟨a, b, c, rfl⟩
  obtain ⟨x0, x1, x2, rfl⟩ : ∃ x0 x1 x2, xs = [x0, x1, x2] := by
    match xs, hxl with
    | [a, b, c], _ => exact ⟨a, b, c, rfl⟩
  have h0 := hf 0 _ rfl
  have h1 := hf 1 _ rfl
  have h2 := hf 2 _ rfl
  simp only [List.getElem?_cons_zero, List.getElem?_cons_succ] at h0 h1 h2
  obtain ⟨k, hk, rfl, _⟩ := DataW.trod_int Tryd.underlying3 h0
  obtain ⟨T, hT, rfl, hs⟩ := DataW.trod_string Tryd.underlying9 h1
  obtain ⟨I, hI, rfl, _⟩ := DataW.trod_int Tryd.underlying2 h2
  injection hk with hk _
  injection hT with hT _
  injection hI with hI _
  subst hk hT hI
  exact ⟨⟨k, T, I⟩, rfl, by unfold maxLen at hs; simpa using hs⟩

set_option maxRecDepth 100000 in
theorem open_ops7 {H : Type} {enc : TypeId × Value → H} {W : World} {base : Nat} {sp : Nat → Bool} {held : Bool} {fuel : Nat} {cs : List Value} {y : DataW H × List MemPlace} (h : DataW.trod enc Tryd.prog W base sp held fuel 36 cs = some y) :
    ∃ A len cap g o L, cs = [.slice A len cap] ∧ Scr7 W A len cap g o L := by
  rcases DataW.trod_slice Tryd.underlying36 h with ⟨hc, _⟩ | ⟨a, len, cap, elems, rest, m, _, hc, _, _, hlc, hcm, hel, hall, _, _⟩
  · exact ⟨none, 0, 0, 0, 0, [], hc, rfl, Nat.le_refl _, Nat.zero_le _, fun q => absurd q (Nat.lt_irrefl 0), fun i x hx => by simp at hx⟩
  · have hex : ∀ i, i < len → ∃ p : Op7, W.cells? base (a.add (i * 3)) 3 = some [.int .i64 p.kind, .string p.m, .int .i64 p.n] ∧ p.m.size ≤ 9223372036854775807 := by
      intro i hi
      have hq := hall i hi
      rw [cells_op7] at hq
      obtain ⟨e, he⟩ : ∃ e, elems[i]? = some e := ⟨_, List.getElem?_eq_getElem (by rw [hel]; exact hi)⟩
      rw [he] at hq
      obtain ⟨cs', hcs', hd⟩ := Option.bind_eq_some_iff.1 hq
      obtain ⟨x, hx1, hx2⟩ := open_op7 hd
      rw [hx1] at hcs'
      exact ⟨x, hcs', hx2⟩
    obtain ⟨L, hL, hp⟩ := choose_list len hex
    obtain ⟨g, o, spot⟩ := a
    have hspot : 0 < len → spot = none := fun h => by
      obtain ⟨p, hpj⟩ : ∃ p, L[0]? = some p := ⟨_, List.getElem?_eq_getElem (by rw [hL]; exact h)⟩
      have h5 := (World.cells?_some (hp 0 p hpj).1).2.2 0 (by decide)
      have h6 := World.cell?_spot h5
      cases spot with
      | none => rfl
      | some s => simp [Addr.add] at h6
    have hcell : ∀ (j f : Nat) (p : Op7), L[j]? = some p → f < 3 → W.cell? ⟨g, o + j * 3 + f, none⟩ = [Value.int .i64 p.kind, .string p.m, .int .i64 p.n][f]? := fun j f p hj hf => by
      have hs := hspot (by have := (List.getElem?_eq_some_iff.1 hj).1; omega)
      subst hs
      have := (World.cells?_some (hp j p hj).1).2.2 f hf
      rw [← this, Go.WideShapes.add_plain, Go.WideShapes.add_plain]
    refine ⟨some ⟨g, o, spot⟩, len, cap, g, o, L, hc, hL, hlc, by unfold maxLen at hcm; exact hcm, fun h => ?_, fun i x hx => ⟨(hp i x hx).2, hcell i 0 x hx (by decide), hcell i 1 x hx (by decide), hcell i 2 x hx (by decide)⟩⟩
    obtain ⟨p, hpj⟩ : ∃ p, L[0]? = some p := ⟨_, List.getElem?_eq_getElem (by rw [hL]; exact h)⟩
    exact ⟨by rw [hspot h], World.block_lt_of_cell? W _ (hcell 0 0 p hpj (by decide))⟩

end Go.Proofs.YtcbiiioglklpoaaDoor
