/-
  A script as a row hands it on: acts side by side. What acts make of a table one behind the other, and what a key's value is then. Conditions: as typed. An act on a table and on a new one of the document's; the walk of TableValues at any seed, any script, any text.
-/
import Derived.Test.YtcjoakbaldeaoaaTcB
import Derived.Test.YtcjoakbaldeaoaaGTr
import Derived.Test.YtcjoakbaldeaoaaBase
import Derived.Test.YtcjoakbaldeaoaaArgs
import Derived.DataReads
namespace Go.Proofs.Ytcjoakbaldeaoaa
open Go.RowKit

section
open Go.ChangeShapes Go.WideShapes Go.ChangeAt Go.RowKit

theorem pick_ok : PickOk := fun draw hd w h hg hm hks => pickI_any draw hd w h hg hm hks

structure Op4 where
  kind : Int
  key : ByteArray
  v : Int
  draw : Nat

structure ScrAt (W : World) (A : Option Addr) (n cap g o : Nat) (L : List Op4) : Prop where
  len : L.length = n
  le : n ≤ cap
  max : cap ≤ 9223372036854775807
  at_ : 0 < n → A = some ⟨g, o, none⟩ ∧ g < W.heap.size
  cells : ∀ (i : Nat) (x : Op4), L[i]? = some x → W.cell? ⟨g, o + i * 4, none⟩ = some (.int .i64 x.kind) ∧ W.cell? ⟨g, o + i * 4 + 1, none⟩ = some (.string x.key) ∧ W.cell? ⟨g, o + i * 4 + 2, none⟩ = some (.int .i64 x.v) ∧ W.cell? ⟨g, o + i * 4 + 3, none⟩ = some (.int .u64 x.draw)
  fits : ∀ x ∈ L, x.key.size ≤ 9223372036854775807 ∧ x.draw < 18446744073709551616

theorem choose_list {α : Type} {P : Nat → α → Prop} : ∀ (n : Nat), (∀ i, i < n → ∃ x, P i x) → ∃ l : List α, l.length = n ∧ ∀ (i : Nat) (x : α), l[i]? = some x → P i x
  | 0, _ => ⟨[], rfl, fun i x h => by simp at h⟩
  | n + 1, h => by
    obtain ⟨l, hl, hp⟩ := choose_list n (fun i hi => h i (by omega))
    obtain ⟨x, hx⟩ := h n (by omega)
    refine ⟨l ++ [x], by rw [List.length_append, hl]; rfl, fun i y hy => ?_⟩
    by_cases hi : i < n
    · rw [List.getElem?_append_left (by omega)] at hy
      exact hp i y hy
    · have hlt := (List.getElem?_eq_some_iff.1 hy).1
      rw [List.length_append, hl] at hlt
      obtain rfl : i = n := by simp at hlt; omega
      rw [List.getElem?_append_right (by omega), hl, Nat.sub_self] at hy
      simp only [List.getElem?_cons_zero, Option.some.injEq] at hy
      rw [← hy]
      exact hx

theorem cells_op : Try.prog.cellsOf 34 = 4 := by kernel_rfl

set_option maxRecDepth 100000 in
theorem open_op {H : Type} {enc : TypeId × Value → H} {W : World} {base : Nat} {sp : Nat → Bool} {held : Bool} {fuel : Nat} {cs : List Value} {y : DataW H × List MemPlace} (h : DataW.trod enc Try.prog W base sp held fuel 34 cs = some y) :
    ∃ x : Op4, cs = [.int .i64 x.kind, .string x.key, .int .i64 x.v, .int .u64 x.draw] ∧ x.key.size ≤ 9223372036854775807 ∧ x.draw < 18446744073709551616 := by
  obtain ⟨xs, n, rfl, rfl, hlen, hxl, hf⟩ := DataW.trod_struct Try.underlying34 h
  rw [cells_op] at hlen
  obtain ⟨c0, c1, c2, c3, rfl⟩ : ∃ c0 c1 c2 c3, cs = [c0, c1, c2, c3] := by
    match cs, hlen with
    | [a, b, c, d], _ => exact ⟨a, b, c, d, rfl⟩
  obtain ⟨x0, x1, x2, x3, rfl⟩ : ∃ x0 x1 x2 x3, xs = [x0, x1, x2, x3] := by
    match xs, hxl with
    | [a, b, c, d], _ => exact ⟨a, b, c, d, rfl⟩
  have h0 := hf 0 _ rfl
  have h1 := hf 1 _ rfl
  have h2 := hf 2 _ rfl
  have h3 := hf 3 _ rfl
  simp only [List.getElem?_cons_zero, List.getElem?_cons_succ] at h0 h1 h2 h3
  obtain ⟨k, hk, rfl, _⟩ := DataW.trod_int Try.underlying3 h0
  obtain ⟨T, hT, rfl, hTs⟩ := DataW.trod_string Try.underlying9 h1
  obtain ⟨N, hN, rfl, _⟩ := DataW.trod_int Try.underlying3 h2
  obtain ⟨D, hD, rfl, hDw⟩ := DataW.trod_int Try.underlying22 h3
  obtain ⟨d0, d1⟩ := u64_wf hDw
  injection hk with hk _
  injection hT with hT _
  injection hN with hN _
  injection hD with hD _
  subst hk hT hN hD
  refine ⟨⟨k, T, N, D.toNat⟩, ?_, by unfold maxLen at hTs; exact hTs, by show D.toNat < _; omega⟩
  have : ((D.toNat : Nat) : Int) = D := by omega
  show [Value.int .i64 k, .string T, .int .i64 N, .int .u64 D] = [.int .i64 k, .string T, .int .i64 N, .int .u64 ((D.toNat : Nat) : Int)]
  rw [this]

set_option maxRecDepth 100000 in
theorem open_ops {H : Type} {enc : TypeId × Value → H} {W : World} {base : Nat} {sp : Nat → Bool} {held : Bool} {fuel : Nat} {cs : List Value} {y : DataW H × List MemPlace} (h : DataW.trod enc Try.prog W base sp held fuel 27 cs = some y) :
    ∃ A len cap g o L, cs = [.slice A len cap] ∧ ScrAt W A len cap g o L := by
  rcases DataW.trod_slice Try.underlying27 h with ⟨hc, _⟩ | ⟨a, len, cap, elems, rest, m, _, hc, _, _, hlc, hcm, hel, hall, _, _⟩
  · exact ⟨none, 0, 0, 0, 0, [], hc, rfl, Nat.le_refl _, Nat.zero_le _, fun q => absurd q (Nat.lt_irrefl 0), fun i x hx => by simp at hx, fun x hx => by cases hx⟩
  · have hex : ∀ i, i < len → ∃ p : Op4, W.cells? base (a.add (i * 4)) 4 = some [.int .i64 p.kind, .string p.key, .int .i64 p.v, .int .u64 p.draw] ∧ p.key.size ≤ 9223372036854775807 ∧ p.draw < 18446744073709551616 := by
      intro i hi
      have hq := hall i hi
      rw [cells_op] at hq
      obtain ⟨e, he⟩ : ∃ e, elems[i]? = some e := ⟨_, List.getElem?_eq_getElem (by rw [hel]; exact hi)⟩
      rw [he] at hq
      obtain ⟨cs', hcs', hd⟩ := Option.bind_eq_some_iff.1 hq
      obtain ⟨x, hx1, hx2, hx3⟩ := open_op hd
      rw [hx1] at hcs'
      exact ⟨x, hcs', hx2, hx3⟩
    obtain ⟨L, hL, hp⟩ := choose_list len hex
    obtain ⟨g, o, spot⟩ := a
    have hspot : 0 < len → spot = none := fun h => by
      obtain ⟨p, hpj⟩ : ∃ p, L[0]? = some p := ⟨_, List.getElem?_eq_getElem (by rw [hL]; exact h)⟩
      have h5 := (World.cells?_some (hp 0 p hpj).1).2.2 0 (by decide)
      have h6 := World.cell?_spot h5
      cases spot with
      | none => rfl
      | some s => simp [Addr.add] at h6
    have hcell : ∀ (j f : Nat) (p : Op4), L[j]? = some p → f < 4 → W.cell? ⟨g, o + j * 4 + f, none⟩ = [Value.int .i64 p.kind, .string p.key, .int .i64 p.v, .int .u64 p.draw][f]? := fun j f p hj hf => by
      have hs := hspot (by have := (List.getElem?_eq_some_iff.1 hj).1; omega)
      subst hs
      have := (World.cells?_some (hp j p hj).1).2.2 f hf
      rw [← this, Go.WideShapes.add_plain, Go.WideShapes.add_plain]
    refine ⟨some ⟨g, o, spot⟩, len, cap, g, o, L, hc, hL, hlc, by unfold maxLen at hcm; exact hcm, fun h => ?_, fun i x hx => ⟨hcell i 0 x hx (by decide), hcell i 1 x hx (by decide), hcell i 2 x hx (by decide), hcell i 3 x hx (by decide)⟩, fun x hx => ?_⟩
    · obtain ⟨p, hpj⟩ : ∃ p, L[0]? = some p := ⟨_, List.getElem?_eq_getElem (by rw [hL]; exact h)⟩
      exact ⟨by rw [hspot h], World.block_lt_of_cell? W _ (hcell 0 0 p hpj (by decide))⟩
    · obtain ⟨i, hi⟩ := List.getElem?_of_mem hx
      exact (hp i x hi).2

/-- The table behind some acts. -/
def tabT (seed : Nat) (L : List Op4) : Tb Int := L.foldl (fun t o => actT seed t o.kind (cutK o.key).data.toList o.v) newT

theorem tabT_snoc (seed : Nat) (L : List Op4) (o : Op4) : tabT seed (L ++ [o]) = actT seed (tabT seed L) o.kind (cutK o.key).data.toList o.v := by
  unfold tabT
  rw [List.foldl_append]
  rfl

theorem cut_len (s : ByteArray) : (cutK s).data.toList.length ≤ 1000 := by
  rw [Array.length_toList]
  have h : (cutK s).size ≤ 100 := cutK_size s
  have : (cutK s).data.size = (cutK s).size := rfl
  omega

theorem tab_good (seed : Nat) : ∀ L : List Op4, Good (hashT seed) L.length (tabT seed L) ∧ KeysT (fun k => k.length ≤ 1000) (tabT seed L) := by
  intro L
  have key : ∀ n, n ≤ L.length → Good (hashT seed) n (tabT seed (L.take n)) ∧ KeysT (fun k => k.length ≤ 1000) (tabT seed (L.take n)) := by
    intro n
    induction n with
    | zero => intro _; exact ⟨good_new _, keys_new _⟩
    | succ n ih =>
      intro hn
      obtain ⟨h1, h2⟩ := ih (by omega)
      have hx : L[n]? = some (L[n]'(by omega)) := List.getElem?_eq_getElem _
      rw [List.take_add_one, hx, Option.toList_some, tabT_snoc]
      exact ⟨good_act h1 _ _ _, keys_act h2 _ _ (cut_len _) _⟩
  have := key L.length (Nat.le_refl _)
  rwa [List.take_length] at this

/-- A key's value behind an act. -/
theorem look_act {seed : Nat} {t : Tb Int} (hk : Kept (hashT seed) t) (kind : Int) (k : List UInt8) (v : Int) (s : List UInt8) :
    lookT (hashT seed) (actT seed t kind k v) s = if k = s ∧ kind = 1 then some v else if k = s ∧ kind = 3 then none else lookT (hashT seed) t s := by
  have h1 := kept_step (hashT seed) hk
  have h2 := kept_put (hashT seed) h1.1 k v
  have h3 := kept_del (hashT seed) h1.1 k
  unfold actT
  by_cases e1 : kind = 1
  · rw [if_pos e1, h2.2]
    by_cases e : s = k
    · rw [if_pos e, if_pos (show k = s ∧ kind = 1 from ⟨e.symm, e1⟩)]
    · rw [if_neg e, if_neg (show ¬ (k = s ∧ kind = 1) from fun q => e q.1.symm), if_neg (show ¬ (k = s ∧ kind = 3) from fun q => e q.1.symm), h1.2]
  · rw [if_neg e1, if_neg (show ¬ (k = s ∧ kind = 1) from fun q => e1 q.2)]
    by_cases e3 : kind = 3
    · rw [if_neg (show ¬ kind = 2 by omega), if_pos e3, h3.2]
      by_cases e : s = k
      · rw [if_pos e, if_pos (show k = s ∧ kind = 3 from ⟨e.symm, e3⟩)]
      · rw [if_neg e, if_neg (show ¬ (k = s ∧ kind = 3) from fun q => e q.1.symm), h1.2]
    · rw [if_neg (show ¬ (k = s ∧ kind = 3) from fun q => e3 q.2), if_neg e3]
      by_cases e2 : kind = 2
      · rw [if_pos e2, h1.2]
      · rw [if_neg e2]
        by_cases e5 : kind = 5
        · rw [if_pos e5, h1.2]
        · rw [if_neg e5]
end

section
theorem act_fresh {wr w2 : World} {b1 Q1 Q2 seed m : Nat} {o1 o2 : Own} {t : Tb Int} {gA gB : Nat} {sA sB : Nat → Value} {gA2 gB2 : Nat} {sA2 sB2 : Nat → Value} (hs : seed < 18446744073709551616) (hp : PT KI wr b1 o1 Q1 67 seed t gA sA gB sB) (hb : Below wr.heap.size wr w2) (hr : RT w2 wr.heap.size o2 Q2 seed newT gA2 sA2 gB2 sB2) (hg : Good (hashT seed) m t) (hm : m ≤ 50000) (hks : KeysT (fun k => k.length ≤ 1000) t)
    (kind v : Int) (S : ByteArray) (hS : S.size ≤ 9223372036854775807) (draw : Nat) (hd : draw < 18446744073709551616) :
    Calls Try.prog 16 #[.pointer (some ⟨Q1, 0, none⟩), .pointer (some ⟨Q2, 0, none⟩), .agg #[.int .i64 kind, .string S, .int .i64 v, .int .u64 draw]] w2 fun e w' => ∃ b, e = .returned (.bool b) ∧ ∃ o1' gA' sA' gB' sB', PT KI w' b1 o1' Q1 67 seed (actT seed t kind (cutK S).data.toList v) gA' sA' gB' sB' ∧ Turns o1 o1' wr w' := by
  have hlow : ∀ {w : World} {oo : Own} {u : Tb Int}, (∃ gA sA gB sB, RT w wr.heap.size oo Q2 seed u gA sA gB sB) → ∀ k, k < wr.heap.size → oo k = none := by
    intro w oo u hx k hk
    obtain ⟨_, _, _, _, hx⟩ := hx
    cases hq : oo k with
    | none => rfl
    | some x => exact absurd (TbOn.dom hx k (by rw [hq]; exact fun e => by cases e)).1 (by omega)
  have hT : TwoAt w2 b1 wr.heap.size o1 o2 Q1 Q2 seed t newT := ⟨⟨gA, sA, gB, sB, hp.below' hb⟩, ⟨gA2, sA2, gB2, sB2, hr⟩, fun k hk => hlow ⟨gA2, sA2, gB2, sB2, hr⟩ k (TbOn.dom hp k hk).2⟩
  refine (act_any (m := m) pick_ok hs hT hg ((good_new _).mono (by omega)) hm hks (keys_new _) kind v S hS draw hd).mono ?_
  rintro e w' ⟨b, o1', o2', rfl, -, hT', hu⟩
  obtain ⟨gA', sA', gB', sB', hp'⟩ := hT'.one
  refine ⟨b, rfl, o1', gA', sA', gB', sB', hp', hu.os.trans hb.os, hu.tape.trans hb.tape, hu.output.trans hb.output, Nat.le_trans hb.size hu.size, fun k hk ho => ?_, fun k hk => ?_⟩
  · exact (hu.block k (Nat.lt_of_lt_of_le hk hb.size) (owU_none.2 ⟨ho, hlow ⟨gA2, sA2, gB2, sB2, hr⟩ k hk⟩)).trans (hb.block k hk)
  · have h1 := hu.same k (Nat.lt_of_lt_of_le hk hb.size)
    have h2 := hlow ⟨gA2, sA2, gB2, sB2, hr⟩ k hk
    have h3 := hlow hT'.two k hk
    unfold owU at h1
    rw [h2, h3] at h1
    cases q1 : o1' k <;> cases q2 : o1 k <;> rw [q1, q2] at h1 <;> exact h1

/-- A box of four cells, written. -/
theorem box4 {w : World} (t : TypeId) (z0 z1 z2 z3 a b c d : Value) :
    ∃ wB, ((((w.alloc (.cells #[z0, z1, z2, z3] t)).setCell ⟨w.heap.size, 0, none⟩ a).setCell ⟨w.heap.size, 1, none⟩ b).setCell ⟨w.heap.size, 2, none⟩ c).setCell ⟨w.heap.size, 3, none⟩ d = wB ∧ Below w.heap.size w wB ∧ w.heap.size < wB.heap.size ∧
      wB.cell? ⟨w.heap.size, 0, none⟩ = some a ∧ wB.cell? ⟨w.heap.size, 1, none⟩ = some b ∧ wB.cell? ⟨w.heap.size, 2, none⟩ = some c ∧ wB.cell? ⟨w.heap.size, 3, none⟩ = some d := by
  refine ⟨_, rfl, ?_, by simp [World.setCell], ?_⟩
  · exact (((((Below.refl w.heap.size w).alloc (Nat.le_refl _) _).setCell (p := ⟨w.heap.size, 0, none⟩) (Nat.le_refl _) _).setCell (p := ⟨w.heap.size, 1, none⟩) (Nat.le_refl _) _).setCell (p := ⟨w.heap.size, 2, none⟩) (Nat.le_refl _) _).setCell (p := ⟨w.heap.size, 3, none⟩) (Nat.le_refl _) _
  · have hb := heap_alloc_new w (.cells #[z0, z1, z2, z3] t)
    obtain ⟨w0, hw0⟩ : ∃ w0, w.alloc (.cells #[z0, z1, z2, z3] t) = w0 := ⟨_, rfl⟩
    obtain ⟨N, hN⟩ : ∃ N, w.heap.size = N := ⟨_, rfl⟩
    rw [hw0] at hb ⊢
    rw [hN] at hb ⊢
    have c0 : w0.cell? ⟨N, 0, none⟩ = some z0 := by simp [World.cell?, hb]
    have c1 : w0.cell? ⟨N, 1, none⟩ = some z1 := by simp [World.cell?, hb]
    have c2 : w0.cell? ⟨N, 2, none⟩ = some z2 := by simp [World.cell?, hb]
    have c3 : w0.cell? ⟨N, 3, none⟩ = some z3 := by simp [World.cell?, hb]
    have far : ∀ (W : World) (i j : Nat) (u : Value), i ≠ j → (W.setCell ⟨N, i, none⟩ u).cell? ⟨N, j, none⟩ = W.cell? ⟨N, j, none⟩ := fun W i j u hij => World.cell?_setCell_other _ _ _ _ (fun e => hij (by injection e))
    have same : ∀ (W : World) (i : Nat) (u z : Value), W.cell? ⟨N, i, none⟩ = some z → (W.setCell ⟨N, i, none⟩ u).cell? ⟨N, i, none⟩ = some u := fun W i u z hz => World.cell?_setCell_same' _ _ _ (by rw [hz]; rfl)
    refine ⟨?_, ?_, ?_, ?_⟩
    · rw [far _ 3 0 _ (by omega), far _ 2 0 _ (by omega), far _ 1 0 _ (by omega)]
      exact same _ 0 _ _ c0
    · rw [far _ 3 1 _ (by omega), far _ 2 1 _ (by omega)]
      exact same _ 1 _ z1 (by rw [far _ 0 1 _ (by omega)]; exact c1)
    · rw [far _ 3 2 _ (by omega)]
      exact same _ 2 _ z2 (by rw [far _ 1 2 _ (by omega), far _ 0 2 _ (by omega)]; exact c2)
    · exact same _ 3 _ z3 (by rw [far _ 2 3 _ (by omega), far _ 1 3 _ (by omega), far _ 0 3 _ (by omega)]; exact c3)

theorem by_two {G F : Value → Value → World → Prop} {goal : Prop} (h1 : Hid (∀ u v W, F u v W → G u v W) → goal) (h2 : ∀ u v W, F u v W → G u v W) : goal := h1 h2

set_option maxRecDepth 100000 in
set_option maxHeartbeats 16000000 in
theorem tableValues_any (x : Int) (hlo : 0 ≤ x) (hhi : x ≤ 18446744073709551615) {A : Option Addr} {len cap g o : Nat} {L : List Op4} (s : ByteArray) (hs : s.size ≤ 9223372036854775807) (W : World) (hL : ScrAt W A len cap g o L) :
    Calls Try.prog 6 #[.int .u64 x, .slice A len cap, .string s] W fun e W' => e = .returned (.bool true) ∧ Below W.heap.size W W' := by
  obtain ⟨seed, rfl⟩ : ∃ n : Nat, x = (n : Int) := ⟨x.toNat, by omega⟩
  have hseed : seed < 18446744073709551616 := by omega
  have HLL := Lib.hid hL
  have hle := hL.le
  have hmax := hL.max
  have HNEW := Lib.hid (newI_any seed W)
  have HKEY := Lib.hid (fun w (T : ByteArray) (hT : T.size ≤ 9223372036854775807) => key_any T w hT)
  have HKS := Lib.hid (fun w => key_any s w hs)
  have hCs := cutK_size s
  obtain ⟨C, hC⟩ : ∃ C, cutK s = C := ⟨_, rfl⟩
  rw [hC] at HKS hCs
  obtain ⟨k, hk⟩ : ∃ k, C.data.toList = k := ⟨_, rfl⟩
  have HKE := Lib.hid hk
  have hC2 : C.size ≤ 9223372036854775807 := by omega
  clear hL hC hk hlo hhi
  go_enter Try.func6, Try.ntmps6
  go_wp2_with fail
  refine HNEW.out.mono ?_
  rintro e w1 ⟨Q, o1, gA, sA, gB, sB, rfl, hp, hb⟩
  have HB1 := Lib.hid hb
  have HP1 := Lib.hid hp
  clear hp hb
  go_wp2_with (go_at_call 10; refine (HKS.out _).mono ?_; rintro e w1 ⟨rfl, rfl⟩)
  go_loopw [8, 9, 10, 11, 12, 13] (fun vv tv iv _ _ _ wr => ∃ (i : Nat) (o3 : Own) (gA3 : Nat) (sA3 : Nat → Value) (gB3 : Nat) (sB3 : Nat → Value), iv = .int .i64 i ∧ i ≤ len ∧ i ≤ 200 ∧ vv = .int .i64 (lookV (lookT (hashT seed) (tabT seed (L.take i)) k)).1 ∧ tv = .bool (lookV (lookT (hashT seed) (tabT seed (L.take i)) k)).2 ∧ PT KI wr W.heap.size o3 Q 67 seed (tabT seed (L.take i)) gA3 sA3 gB3 sB3 ∧ Below W.heap.size W wr) (fun _ _ iv _ _ _ _ => len - (intOf iv).toNat)
  case atStart => exact ⟨0, o1, gA, sA, gB, sB, rfl, by omega, by omega, by rw [List.take_zero]; unfold tabT; rw [List.foldl_nil, look_new]; rfl, by rw [List.take_zero]; unfold tabT; rw [List.foldl_nil, look_new]; rfl, HP1.out, HB1.out⟩
  case round =>
    obtain ⟨i, o3, gA3, sA3, gB3, sB3, rfl, hi, hi2, rfl, rfl, hp3, hbr⟩ := hrel
    have HP3 := Lib.hid hp3
    have HBR := Lib.hid hbr
    obtain ⟨t, ht⟩ : ∃ t, tabT seed (L.take i) = t := ⟨_, rfl⟩
    have HT := Lib.hid ht
    rw [ht] at HP3 ⊢
    obtain ⟨V0, hV0⟩ : ∃ V, (lookV (lookT (hashT seed) t k)).1 = V := ⟨_, rfl⟩
    obtain ⟨T0, hT0⟩ : ∃ V, (lookV (lookT (hashT seed) t k)).2 = V := ⟨_, rfl⟩
    rw [hV0, hT0]
    have HV0 := Lib.hid hV0
    have HT0 := Lib.hid hT0
    have HGD : Hid (Good (hashT seed) i t ∧ KeysT (fun k => k.length ≤ 1000) t) := by
      unfold Hid
      have q := tab_good seed (L.take i)
      rw [ht] at q
      exact ⟨q.1.mono (by rw [List.length_take]; omega), q.2⟩
    clear hp3 hbr ht hV0 hT0
    by_cases hlt : i < len
    · by_cases h200 : i < 200
      · obtain ⟨op, hop⟩ : ∃ op, L[i]? = some op := ⟨_, List.getElem?_eq_getElem (by rw [HLL.out.len]; exact hlt)⟩
        obtain ⟨rfl, hg⟩ := HLL.out.at_ (by omega)
        obtain ⟨k0, k1, k2, k3⟩ := HLL.out.cells i op hop
        have HFIT := Lib.hid (HLL.out.fits op (List.mem_of_getElem? hop))
        have HTK : Hid (tabT seed (L.take (i + 1)) = actT seed t op.kind (cutK op.key).data.toList op.v) := by
          unfold Hid
          rw [List.take_add_one, hop, Option.toList_some, tabT_snoc, HT.out]
        obtain ⟨okd, okey, ov, odr⟩ := op
        dsimp only at k0 k1 k2 k3 HFIT HTK
        have e0 := (HBR.out.cell (p := ⟨g, o + i * 4, none⟩) hg).trans k0
        have e1 := (HBR.out.cell (p := ⟨g, o + i * 4 + 1, none⟩) hg).trans k1
        have e2 := (HBR.out.cell (p := ⟨g, o + i * 4 + 2, none⟩) hg).trans k2
        have e3 := (HBR.out.cell (p := ⟨g, o + i * 4 + 3, none⟩) hg).trans k3
        have hcc : cap ≤ 9223372036854775807 := hmax
        have hcl : len ≤ cap := hle
        clear k0 k1 k2 k3 hop
        have h200i : (i : Int) < 200 := by omega
        have h200b : decide ((i : Int) < 200) = true := by simpa using h200i
        go_wp2_with fail
        obtain ⟨wB, hwB⟩ : ∃ wB, wr.alloc (.cells #[.int .i64 okd, .string okey, .int .i64 ov, .int .u64 odr] 34) = wB := ⟨_, rfl⟩
        rw [hwB]
        have hbB : Below wr.heap.size wr wB := by rw [← hwB]; exact (Below.refl _ _).alloc (Nat.le_refl _) _
        have hblk : wB.heap[wr.heap.size]? = some (.cells #[.int .i64 okd, .string okey, .int .i64 ov, .int .u64 odr] 34 (0, 0)) := by rw [← hwB]; exact heap_alloc_new wr _
        have hsz : wB.heap.size = wr.heap.size + 1 := by rw [← hwB]; simp
        have hno : o3 wr.heap.size = none := by
          cases hq : o3 wr.heap.size with
          | none => rfl
          | some x => exact absurd (TbOn.dom HP3.out wr.heap.size (by rw [hq]; exact fun e => by cases e)).2 (Nat.lt_irrefl _)
        have HWW := Lib.hid (HBR.out.trans (hbB.mono HBR.out.size))
        have HBASE := Lib.hid HBR.out.size
        have HPB := Lib.hid (HP3.out.below' hbB)
        have HBOX : Hid (∀ (X : World), X.heap[wr.heap.size]? = wB.heap[wr.heap.size]? → X.cell? ⟨wr.heap.size, 0, none⟩ = some (.int .i64 okd) ∧ X.cell? ⟨wr.heap.size, 1, none⟩ = some (.string okey) ∧ X.cell? ⟨wr.heap.size, 2, none⟩ = some (.int .i64 ov) ∧ X.cell? ⟨wr.heap.size, 3, none⟩ = some (.int .u64 odr)) := fun X hX => by
          have hq := hX.trans hblk
          exact ⟨by simp [World.cell?, hq], by simp [World.cell?, hq], by simp [World.cell?, hq], by simp [World.cell?, hq]⟩
        have HKE2 := Lib.hid (fun X (hX : Below wB.heap.size wB X) => HBOX.out X (hX.block wr.heap.size (by omega)))
        have HKT2 := Lib.hid (fun X o' (hX : Turns o3 o' wB X) => HBOX.out X (hX.block wr.heap.size (by omega) hno))
        obtain ⟨N, hN⟩ : ∃ N, wr.heap.size = N := ⟨_, rfl⟩
        rw [hN] at HBOX HKE2 HKT2
        have HNN := Lib.hid hN
        rw [hN]
        obtain ⟨b0, b1, b2, b3⟩ := HKE2.out wB (Below.refl _ _)
        have HRN := Lib.hid (fun X => rnew_any seed X)
        have HACT := Lib.hid (fun (X : World) (Q2 : Nat) (o2 : Own) (gA2 : Nat) (sA2 : Nat → Value) (gB2 : Nat) (sB2 : Nat → Value) (hX : Below wB.heap.size wB X) (hr : RT X wB.heap.size o2 Q2 seed newT gA2 sA2 gB2 sB2) => act_fresh hseed HPB.out hX hr HGD.out.1 (by omega) HGD.out.2 okd ov okey HFIT.out.1 odr HFIT.out.2)
        clear e0 e1 e2 e3 hwB hbB hblk hsz hno hN
        apply by_two (F := fun _ v X => (∃ b : Bool, v = .bool b) ∧ ∃ o1' gA' sA' gB' sB', PT KI X W.heap.size o1' Q 67 seed (actT seed t okd (cutK okey).data.toList ov) gA' sA' gB' sB' ∧ Turns o3 o1' wB X)
        case h1 =>
          intro HFIN
          go_region_law (first
            | (have qq := HQ2; go_simp; go_at_call 16; refine (HACT.out _ _ _ _ _ _ _ (by first | exact HX2.out | exact HX2.out.drew) (by first | exact HQ2.out | exact HQ2.out.below' (Below.refl _ _).drew)).mono ?_; rintro en w5 ⟨bb, rfl, o5, gA5, sA5, gB5, sB5, hT5, hu5⟩; have HT5 := Lib.hid hT5; have HU5 := Lib.hid hu5; clear hT5 hu5)
            | (go_simp; go_at_call 15; refine (HRN.out _).mono ?_; rintro en w4 ⟨Q2, o2, gA2, sA2, gB2, sB2, rfl, hr2, hb2⟩; have HQ2 := Lib.hid hr2; have HX2 : Hid (Below wB.heap.size wB w4) := (by first | exact hb2 | exact (Below.refl wB.heap.size wB).drew.trans hb2); obtain ⟨y0, y1, y2, y3⟩ := HKE2.out w4 HX2.out; clear hr2 hb2))
          all_goals
            have HROUND := (⟨⟨_, rfl⟩, _, _, _, _, _, HT5.out, HU5.out⟩ : (∃ b : Bool, Value.bool bb = .bool b) ∧ ∃ o1' gA' sA' gB' sB', PT KI w5 W.heap.size o1' Q 67 seed (actT seed t okd (cutK okey).data.toList ov) gA' sA' gB' sB' ∧ Turns o3 o1' wB w5)
            obtain ⟨v9, hv9⟩ : ∃ v9, Value.bool bb = v9 := ⟨_, rfl⟩
            rw [hv9] at HROUND ⊢
            obtain ⟨v8, hv8⟩ : ∃ v8, Value.pointer (some ⟨Q2, 0, none⟩) = v8 := ⟨_, rfl⟩
            rw [hv8]
            exact HFIN.out v8 v9 w5 HROUND
        case h2 =>
          intro v8 v9 wf hround
          obtain ⟨⟨bb, rfl⟩, o5, gA5, sA5, gB5, sB5, hp5, hu5⟩ := hround
          obtain ⟨y0, y1, y2, y3⟩ := HKT2.out wf _ hu5
          have HP5 := Lib.hid hp5
          have HW5 := Lib.hid (HWW.out.trans (hu5.below HWW.out.size (fun q hq => (TbOn.dom HP3.out q hq).1)))
          have HG5 := Lib.hid (show Good (hashT seed) (i + 1) (actT seed t okd (cutK okey).data.toList ov) from good_act HGD.out.1 _ _ _)
          have HLA := Lib.hid (look_act HGD.out.1.kept okd (cutK okey).data.toList ov k)
          obtain ⟨t2, ht2⟩ : ∃ t2, actT seed t okd (cutK okey).data.toList ov = t2 := ⟨_, rfl⟩
          rw [ht2] at HP5 HTK HG5 HLA
          have HLOOK := Lib.hid (lookI_any hseed k C HKE.out hC2 wf HP5.out HG5.out (by omega))
          rw [(lookW_eq _).1, (lookW_eq _).2] at HLOOK
          clear hp5 hu5 ht2 b0 b1 b2 b3
          obtain ⟨C', hC'⟩ : ∃ C', cutK okey = C' := ⟨_, rfl⟩
          rw [hC'] at HLA
          have HKO := Lib.hid (fun w => key_any okey w HFIT.out.1)
          rw [hC'] at HKO
          clear hC'
          have HEQ : Hid ((C'.toList = C.toList) ↔ C'.data.toList = k) := by
            unfold Hid
            rw [← HKE.out, Lib.toList_data, Lib.toList_data]
          obtain ⟨V1, hV1⟩ : ∃ V1, (lookV (lookT (hashT seed) t2 k)).1 = V1 := ⟨_, rfl⟩
          obtain ⟨T1, hT1⟩ : ∃ T1, (lookV (lookT (hashT seed) t2 k)).2 = T1 := ⟨_, rfl⟩
          rw [hV1, hT1] at HLOOK
          have HVE : Hid ((lookV (lookT (hashT seed) (tabT seed (L.take (i + 1))) k)).1 = V1) := by unfold Hid; rw [HTK.out]; exact hV1
          have HTE : Hid ((lookV (lookT (hashT seed) (tabT seed (L.take (i + 1))) k)).2 = T1) := by unfold Hid; rw [HTK.out]; exact hT1
          rw [HLA.out] at hV1 hT1
          by_cases hq : C'.toList = C.toList
          · have q0 : (C'.toList == C.toList) = true := by rw [hq]; simp
            have hk' := HEQ.out.1 hq
            clear hq
            by_cases h1 : okd = 1
            · rw [if_pos ⟨hk', h1⟩] at hV1 hT1
              subst h1
              obtain rfl : ov = V1 := hV1
              obtain rfl : true = T1 := hT1
              clear hk'
              go_wp2_with (go_at_call 10; refine (HKO.out _).mono ?_; rintro e w6 ⟨rfl, rfl⟩)
              refine HLOOK.out.mono ?_
              rintro e w6 ⟨rfl, hb6⟩
              have HB6 := Lib.hid (HW5.out.trans (hb6.mono HW5.out.size))
              have HP6 := Lib.hid (HP5.out.below' hb6)
              clear hb6
              go_wp2
              go_roundw
              case rel => exact ⟨i + 1, o5, gA5, sA5, gB5, sB5, by go_num, by omega, by omega, by rw [HVE.out], by rw [HTE.out], by rw [HTK.out]; exact HP6.out, HB6.out⟩
              case measure => simp only [intOf]; omega
            · rw [if_neg (fun e => h1 e.2)] at hV1 hT1
              by_cases h3 : okd = 3
              · rw [if_pos ⟨hk', h3⟩] at hV1 hT1
                subst h3
                obtain rfl : 0 = V1 := hV1
                obtain rfl : false = T1 := hT1
                clear hk' h1
                go_wp2_with (go_at_call 10; refine (HKO.out _).mono ?_; rintro e w6 ⟨rfl, rfl⟩)
                refine HLOOK.out.mono ?_
                rintro e w6 ⟨rfl, hb6⟩
                have HB6 := Lib.hid (HW5.out.trans (hb6.mono HW5.out.size))
                have HP6 := Lib.hid (HP5.out.below' hb6)
                clear hb6
                go_wp2
                go_roundw
                case rel => exact ⟨i + 1, o5, gA5, sA5, gB5, sB5, by go_num, by omega, by omega, by rw [HVE.out], by rw [HTE.out], by rw [HTK.out]; exact HP6.out, HB6.out⟩
                case measure => simp only [intOf]; omega
              · rw [if_neg (fun e => h3 e.2), HV0.out] at hV1
                rw [if_neg (fun e => h3 e.2), HT0.out] at hT1
                subst hV1 hT1
                have d1 : (okd == 1) = false := beq_eq_false_iff_ne.2 h1
                have d3 : (okd == 3) = false := beq_eq_false_iff_ne.2 h3
                clear hk' h1 h3
                go_wp2_with (go_at_call 10; refine (HKO.out _).mono ?_; rintro e w6 ⟨rfl, rfl⟩)
                refine HLOOK.out.mono ?_
                rintro e w6 ⟨rfl, hb6⟩
                have HB6 := Lib.hid (HW5.out.trans (hb6.mono HW5.out.size))
                have HP6 := Lib.hid (HP5.out.below' hb6)
                clear hb6
                go_wp2
                go_roundw
                case rel => exact ⟨i + 1, o5, gA5, sA5, gB5, sB5, by go_num, by omega, by omega, by rw [HVE.out], by rw [HTE.out], by rw [HTK.out]; exact HP6.out, HB6.out⟩
                case measure => simp only [intOf]; omega
          · have q0 : (C'.toList == C.toList) = false := beq_eq_false_iff_ne.2 hq
            have hk' : ¬ C'.data.toList = k := fun e => hq (HEQ.out.2 e)
            rw [if_neg (fun e => hk' e.1), if_neg (fun e => hk' e.1), HV0.out] at hV1
            rw [if_neg (fun e => hk' e.1), if_neg (fun e => hk' e.1), HT0.out] at hT1
            subst hV1 hT1
            clear hk' hq
            go_wp2_with (go_at_call 10; refine (HKO.out _).mono ?_; rintro e w6 ⟨rfl, rfl⟩)
            refine HLOOK.out.mono ?_
            rintro e w6 ⟨rfl, hb6⟩
            have HB6 := Lib.hid (HW5.out.trans (hb6.mono HW5.out.size))
            have HP6 := Lib.hid (HP5.out.below' hb6)
            clear hb6
            go_wp2
            go_roundw
            case rel => exact ⟨i + 1, o5, gA5, sA5, gB5, sB5, by go_num, by omega, by omega, by rw [HVE.out], by rw [HTE.out], by rw [HTK.out]; exact HP6.out, HB6.out⟩
            case measure => simp only [intOf]; omega
      · have h200n : ¬ (i : Int) < 200 := by omega
        have h200b : decide ((i : Int) < 200) = false := by simpa using h200n
        have HAL := Lib.hid (alive_any wr)
        go_wp2_with fail
        refine HAL.out.mono ?_
        rintro e w6 ⟨rfl, hb6⟩
        have HB6 := Lib.hid (HBR.out.trans (hb6.mono HBR.out.size))
        clear hb6
        go_wp2
        go_ret
        exact ⟨rfl, HB6.out⟩
    · have hin : ¬ (i : Int) < len := by omega
      have HAL := Lib.hid (alive_any wr)
      go_wp2_with fail
      refine HAL.out.mono ?_
      rintro e w6 ⟨rfl, hb6⟩
      have HB6 := Lib.hid (HBR.out.trans (hb6.mono HBR.out.size))
      clear hb6
      go_wp2
      go_ret
      exact ⟨rfl, HB6.out⟩
end

end Go.Proofs.Ytcjoakbaldeaoaa
