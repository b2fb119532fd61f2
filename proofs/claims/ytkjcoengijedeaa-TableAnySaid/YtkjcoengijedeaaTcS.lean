/-
  A script as a row hands it on: acts side by side. What acts make of a table one behind the other, and what a key's value is then. Conditions: as typed.
-/
import Derived.Test.YtkjcoengijedeaaTcE
import Derived.Test.YtkjcoengijedeaaGTr
import Derived.Test.YtkjcoengijedeaaBase
import Derived.Test.YtkjcoengijedeaaArgs
import Derived.DataReads
namespace Go.Proofs.Ytkjcoengijedeaa
open Go.ChangeShapes Go.WideShapes Go.ChangeAt Go.RowKit

theorem pick_ok : PickOk := fun draw hd w h hg hm hks => pickI_any draw hd w h hg hm hks

structure Op4 where
  kind : Int
  key : ByteArray
  v : Int
  draw : Nat

structure ScrAt (W : World) (A : Option Addr) (n cap g o : Nat) (L : List Op4) : Prop where
  len : L.length = n
  le : n ≤ cap
  max : cap ≤ 9223372036854775807
  at_ : 0 < n → A = some ⟨g, o, none⟩ ∧ g < W.heap.size
  cells : ∀ (i : Nat) (x : Op4), L[i]? = some x → W.cell? ⟨g, o + i * 4, none⟩ = some (.int .i64 x.kind) ∧ W.cell? ⟨g, o + i * 4 + 1, none⟩ = some (.string x.key) ∧ W.cell? ⟨g, o + i * 4 + 2, none⟩ = some (.int .i64 x.v) ∧ W.cell? ⟨g, o + i * 4 + 3, none⟩ = some (.int .u64 x.draw)
  fits : ∀ x ∈ L, x.key.size ≤ 9223372036854775807 ∧ x.draw < 18446744073709551616

theorem choose_list {α : Type} {P : Nat → α → Prop} : ∀ (n : Nat), (∀ i, i < n → ∃ x, P i x) → ∃ l : List α, l.length = n ∧ ∀ (i : Nat) (x : α), l[i]? = some x → P i x
  | 0, _ => ⟨[], rfl, fun i x h => by simp at h⟩
  | n + 1, h => by
    obtain ⟨l, hl, hp⟩ := choose_list n (fun i hi => h i (by omega))
    obtain ⟨x, hx⟩ := h n (by omega)
    refine ⟨l ++ [x], by rw [List.length_append, hl]; rfl, fun i y hy => ?_⟩
    by_cases hi : i < n
    · rw [List.getElem?_append_left (by omega)] at hy
      exact hp i y hy
    · have hlt := (List.getElem?_eq_some_iff.1 hy).1
      rw [List.length_append, hl] at hlt
      obtain rfl : i = n := by simp at hlt; omega
      rw [List.getElem?_append_right (by omega), hl, Nat.sub_self] at hy
      simp only [List.getElem?_cons_zero, Option.some.injEq] at hy
      rw [← hy]
      exact hx

theorem cells_op : Try.prog.cellsOf 34 = 4 := by kernel_rfl

set_option maxRecDepth 100000 in
theorem open_op {H : Type} {enc : TypeId × Value → H} {W : World} {base : Nat} {sp : Nat → Bool} {held : Bool} {fuel : Nat} {cs : List Value} {y : DataW H × List MemPlace} (h : DataW.trod enc Try.prog W base sp held fuel 34 cs = some y) :
    ∃ x : Op4, cs = [.int .i64 x.kind, .string x.key, .int .i64 x.v, .int .u64 x.draw] ∧ x.key.size ≤ 9223372036854775807 ∧ x.draw < 18446744073709551616 := by
  obtain ⟨xs, n, rfl, rfl, hlen, hxl, hf⟩ := DataW.trod_struct Try.underlying34 h
  rw [cells_op] at hlen
  obtain ⟨c0, c1, c2, c3, rfl⟩ : ∃ c0 c1 c2 c3, cs = [c0, c1, c2, c3] := by
    match cs, hlen with
    | [a, b, c, d], _ => exact ⟨a, b, c, d, rfl⟩
  obtain ⟨x0, x1, x2, x3, rfl⟩ : ∃ x0 x1 x2 x3, xs = [x0, x1, x2, x3] := by
    match xs, hxl with
    | [a, b, c, d], _ => exact ⟨a, b, c, d, rfl⟩
  have h0 := hf 0 _ rfl
  have h1 := hf 1 _ rfl
  have h2 := hf 2 _ rfl
  have h3 := hf 3 _ rfl
  simp only [List.getElem?_cons_zero, List.getElem?_cons_succ] at h0 h1 h2 h3
  obtain ⟨k, hk, rfl, _⟩ := DataW.trod_int Try.underlying3 h0
  obtain ⟨T, hT, rfl, hTs⟩ := DataW.trod_string Try.underlying9 h1
  obtain ⟨N, hN, rfl, _⟩ := DataW.trod_int Try.underlying3 h2
  obtain ⟨D, hD, rfl, hDw⟩ := DataW.trod_int Try.underlying22 h3
  obtain ⟨d0, d1⟩ := u64_wf hDw
  injection hk with hk _
  injection hT with hT _
  injection hN with hN _
  injection hD with hD _
  subst hk hT hN hD
  refine ⟨⟨k, T, N, D.toNat⟩, ?_, by unfold maxLen at hTs; exact hTs, by show D.toNat < _; omega⟩
  have : ((D.toNat : Nat) : Int) = D := by omega
  show [Value.int .i64 k, .string T, .int .i64 N, .int .u64 D] = [.int .i64 k, .string T, .int .i64 N, .int .u64 ((D.toNat : Nat) : Int)]
  rw [this]

set_option maxRecDepth 100000 in
theorem open_ops {H : Type} {enc : TypeId × Value → H} {W : World} {base : Nat} {sp : Nat → Bool} {held : Bool} {fuel : Nat} {cs : List Value} {y : DataW H × List MemPlace} (h : DataW.trod enc Try.prog W base sp held fuel 27 cs = some y) :
    ∃ A len cap g o L, cs = [.slice A len cap] ∧ ScrAt W A len cap g o L := by
  rcases DataW.trod_slice Try.underlying27 h with ⟨hc, _⟩ | ⟨a, len, cap, elems, rest, m, _, hc, _, _, hlc, hcm, hel, hall, _, _⟩
  · exact ⟨none, 0, 0, 0, 0, [], hc, rfl, Nat.le_refl _, Nat.zero_le _, fun q => absurd q (Nat.lt_irrefl 0), fun i x hx => by simp at hx, fun x hx => by cases hx⟩
  · have hex : ∀ i, i < len → ∃ p : Op4, W.cells? base (a.add (i * 4)) 4 = some [.int .i64 p.kind, .string p.key, .int .i64 p.v, .int .u64 p.draw] ∧ p.key.size ≤ 9223372036854775807 ∧ p.draw < 18446744073709551616 := by
      intro i hi
      have hq := hall i hi
      rw [cells_op] at hq
      obtain ⟨e, he⟩ : ∃ e, elems[i]? = some e := ⟨_, List.getElem?_eq_getElem (by rw [hel]; exact hi)⟩
      rw [he] at hq
      obtain ⟨cs', hcs', hd⟩ := Option.bind_eq_some_iff.1 hq
      obtain ⟨x, hx1, hx2, hx3⟩ := open_op hd
      rw [hx1] at hcs'
      exact ⟨x, hcs', hx2, hx3⟩
    obtain ⟨L, hL, hp⟩ := choose_list len hex
    obtain ⟨g, o, spot⟩ := a
    have hspot : 0 < len → spot = none := fun h => by
      obtain ⟨p, hpj⟩ : ∃ p, L[0]? = some p := ⟨_, List.getElem?_eq_getElem (by rw [hL]; exact h)⟩
      have h5 := (World.cells?_some (hp 0 p hpj).1).2.2 0 (by decide)
      have h6 := World.cell?_spot h5
      cases spot with
      | none => rfl
      | some s => simp [Addr.add] at h6
    have hcell : ∀ (j f : Nat) (p : Op4), L[j]? = some p → f < 4 → W.cell? ⟨g, o + j * 4 + f, none⟩ = [Value.int .i64 p.kind, .string p.key, .int .i64 p.v, .int .u64 p.draw][f]? := fun j f p hj hf => by
      have hs := hspot (by have := (List.getElem?_eq_some_iff.1 hj).1; omega)
      subst hs
      have := (World.cells?_some (hp j p hj).1).2.2 f hf
      rw [← this, Go.WideShapes.add_plain, Go.WideShapes.add_plain]
    refine ⟨some ⟨g, o, spot⟩, len, cap, g, o, L, hc, hL, hlc, by unfold maxLen at hcm; exact hcm, fun h => ?_, fun i x hx => ⟨hcell i 0 x hx (by decide), hcell i 1 x hx (by decide), hcell i 2 x hx (by decide), hcell i 3 x hx (by decide)⟩, fun x hx => ?_⟩
    · obtain ⟨p, hpj⟩ : ∃ p, L[0]? = some p := ⟨_, List.getElem?_eq_getElem (by rw [hL]; exact h)⟩
      exact ⟨by rw [hspot h], World.block_lt_of_cell? W _ (hcell 0 0 p hpj (by decide))⟩
    · obtain ⟨i, hi⟩ := List.getElem?_of_mem hx
      exact (hp i x hi).2

/-- The table behind some acts. -/
def tabT (seed : Nat) (L : List Op4) : Tb Int := L.foldl (fun t o => actT seed t o.kind (cutK o.key).data.toList o.v) newT

theorem tabT_snoc (seed : Nat) (L : List Op4) (o : Op4) : tabT seed (L ++ [o]) = actT seed (tabT seed L) o.kind (cutK o.key).data.toList o.v := by
  unfold tabT
  rw [List.foldl_append]
  rfl

theorem cut_len (s : ByteArray) : (cutK s).data.toList.length ≤ 1000 := by
  rw [Array.length_toList]
  have h : (cutK s).size ≤ 100 := cutK_size s
  have : (cutK s).data.size = (cutK s).size := rfl
  omega

theorem tab_good (seed : Nat) : ∀ L : List Op4, Good (hashT seed) L.length (tabT seed L) ∧ KeysT (fun k => k.length ≤ 1000) (tabT seed L) := by
  intro L
  have key : ∀ n, n ≤ L.length → Good (hashT seed) n (tabT seed (L.take n)) ∧ KeysT (fun k => k.length ≤ 1000) (tabT seed (L.take n)) := by
    intro n
    induction n with
    | zero => intro _; exact ⟨good_new _, keys_new _⟩
    | succ n ih =>
      intro hn
      obtain ⟨h1, h2⟩ := ih (by omega)
      have hx : L[n]? = some (L[n]'(by omega)) := List.getElem?_eq_getElem _
      rw [List.take_add_one, hx, Option.toList_some, tabT_snoc]
      exact ⟨good_act h1 _ _ _, keys_act h2 _ _ (cut_len _) _⟩
  have := key L.length (Nat.le_refl _)
  rwa [List.take_length] at this

/-- A key's value behind an act. -/
theorem look_act {seed : Nat} {t : Tb Int} (hk : Kept (hashT seed) t) (kind : Int) (k : List UInt8) (v : Int) (s : List UInt8) :
    lookT (hashT seed) (actT seed t kind k v) s = if k = s ∧ kind = 1 then some v else if k = s ∧ kind = 3 then none else lookT (hashT seed) t s := by
  have h1 := kept_step (hashT seed) hk
  have h2 := kept_put (hashT seed) h1.1 k v
  have h3 := kept_del (hashT seed) h1.1 k
  unfold actT
  by_cases e1 : kind = 1
  · rw [if_pos e1, h2.2]
    by_cases e : s = k
    · rw [if_pos e, if_pos (show k = s ∧ kind = 1 from ⟨e.symm, e1⟩)]
    · rw [if_neg e, if_neg (show ¬ (k = s ∧ kind = 1) from fun q => e q.1.symm), if_neg (show ¬ (k = s ∧ kind = 3) from fun q => e q.1.symm), h1.2]
  · rw [if_neg e1, if_neg (show ¬ (k = s ∧ kind = 1) from fun q => e1 q.2)]
    by_cases e3 : kind = 3
    · rw [if_neg (show ¬ kind = 2 by omega), if_pos e3, h3.2]
      by_cases e : s = k
      · rw [if_pos e, if_pos (show k = s ∧ kind = 3 from ⟨e.symm, e3⟩)]
      · rw [if_neg e, if_neg (show ¬ (k = s ∧ kind = 3) from fun q => e q.1.symm), h1.2]
    · rw [if_neg (show ¬ (k = s ∧ kind = 3) from fun q => e3 q.2), if_neg e3]
      by_cases e2 : kind = 2
      · rw [if_pos e2, h1.2]
      · rw [if_neg e2]
        by_cases e5 : kind = 5
        · rw [if_pos e5, h1.2]
        · rw [if_neg e5]

end Go.Proofs.Ytkjcoengijedeaa
