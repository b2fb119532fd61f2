/-
  The walks of package reply's withLine and withReply at bulks and at arrays of bulks. Conditions: the table of powers of ten holds what its own text lays; the row lies in memory as it reads.
-/
import Derived.Test.YtbldahkgilkclaaDoorRyA
import Derived.Test.YtbldahkgilkclaaDoorApp
import Derived.Test.YtbldahkgilkclaaDoorKit
import Derived.Deep.AppendLies
namespace Go.Proofs.YtbldahkgilkclaaDoor
open Go.RowKit

/-- A row of the call's own, and what has turned. -/
def Rowed (w : World) (base : Nat) (v : Value) (y : List UInt8) (e : Ending) (w' : World) : Prop :=
  ∃ v', e = .returned v' ∧ w'.ownsRow base 5 1 v' y.length (Lib.byteCells y) ∧ Grew w w' v v'

set_option maxRecDepth 100000 in
set_option maxHeartbeats 2000000 in
theorem ywithLine_any (base : Nat) (v : Value) (l : List UInt8) (m : UInt8) (mi : Int) (T : ByteArray) (x : List UInt8) (w : World) (hm : (m.toNat : Int) = mi) (hown : w.ownsRow base 5 1 v l.length (Lib.byteCells l)) (hx : T.data.toList = x) (hb : base ≤ w.heap.size) (hlen : l.length + x.length ≤ 1099511627770) :
    Calls Tryd.prog 23 #[v, .int .u8 mi, .string T] w (Rowed w base v (l ++ (m :: x) ++ [13, 10])) := by
  obtain ⟨i0, hi, hy0, hy1, hy2⟩ := info_parts info_u8
  obtain ⟨A, c, rfl⟩ := ownsRow_form hown
  have hown' := hown.alloc (.cells #[.int .u8 mi] 5)
  have HMM := Lib.hid hm
  have HX := Lib.hid hx
  clear hm hx
  go_enter Tryd.func23, Tryd.ntmps23
  go_wp2_with (at_builtin; refine wpList_append_own_at _ rfl _ _ 26 rfl base 5 i0 (.int .u8 0) 1 1 Tryd.underlying26 hi hy0 hy1 hy2 rfl (by decide) _ _ _ rfl hown' ⟨w.heap.size, 0, none⟩ 1 1 [.int .u8 mi] rfl rfl ?d1 ?d2 ?d3 ?d4 ?d5 ?_)
  case d1 => exact World.news_of_block (cs := #[.int .u8 mi]) (t := 5) (fr := (0, 0)) (World.alloc_heap_new w _)
  case d2 => intro u hu; simp at hu; subst hu; rfl
  case d3 => unfold maxLen; omega
  case d4 => omega
  case d5 => simp; omega
  intro v1 w1 hown1 hgr1 _ hat1
  have HG1 := Lib.hid (Grew.after ((Below.refl w.heap.size w).alloc (Nat.le_refl _) _) (Grew.of hgr1 (by rw [World.size_alloc]; exact hat1)))
  rw [show Lib.byteCells l ++ [Value.int .u8 mi] = Lib.byteCells (l ++ [m]) from by rw [byteCells_two, ← HMM.out]; rfl] at hown1
  rw [show l.length + 1 = (l ++ [m]).length from by simp] at hown1
  have hl1 : (l ++ [m]).length + x.length ≤ 1099511627771 := by simp only [List.length_append, List.length_cons, List.length_nil]; omega
  obtain ⟨y, hy⟩ : ∃ y, l ++ [m] = y := ⟨_, rfl⟩
  rw [hy] at hown1 hl1
  have HYY := Lib.hid hy
  obtain ⟨A1, c1, rfl⟩ := ownsRow_form hown1
  have hzz1 : base ≤ w1.heap.size := by have := HG1.out.size; omega
  clear hown' hgr1 hown hy hat1
  try rw [show l.length + 1 = y.length from by rw [← HYY.out]; simp]
  go_wp2_with (at_builtin; refine wpList_append_str_at rfl _ _ rfl base _ y rfl hown1 T x rfl HX.out ?c1 hzz1 ?_)
  case c1 => omega
  intro v2 w2 hown2 hgr2
  have hl2 : (y ++ x).length ≤ 1099511627771 := by rw [List.length_append]; omega
  try rw [← List.length_append] at hown2
  obtain ⟨z, hz⟩ : ∃ z, y ++ x = z := ⟨_, rfl⟩
  rw [hz] at hown2 hl2
  have HZZ := Lib.hid hz
  have HG2 := Lib.hid (HG1.out.trans hgr2)
  obtain ⟨A2, c2, rfl⟩ := ownsRow_form hown2
  have hzz2 : base ≤ w2.heap.size := by have := HG2.out.size; omega
  clear hown1 hgr2 hz HG1
  try rw [show y.length + x.length = z.length from by rw [← HZZ.out, List.length_append]]
  go_wp2_with (at_builtin; refine wpList_append_str_at rfl _ _ rfl base _ z rfl hown2 ⟨#[13, 10]⟩ [13, 10] rfl rfl ?e1 hzz2 ?_)
  case e1 => simp only [List.length_cons, List.length_nil]; omega
  intro v3 w3 hown3 hgr3
  have HG3 := Lib.hid (HG2.out.trans hgr3)
  try rw [← List.length_append] at hown3
  have HO3 := Lib.hid hown3
  obtain ⟨A3, c3, rfl⟩ := ownsRow_form hown3
  clear hown2 hgr3 hown3 HG2
  go_wp2
  go_ret
  refine ⟨_, rfl, ?_, HG3.out⟩
  rw [show l ++ (m :: x) = z from by rw [← HZZ.out, ← HYY.out]; simp, List.length_append, byteCells_two]
  rw [byteCells_two] at HO3
  exact HO3.out

theorem bulkW_eq (t : List UInt8) : bulkW t = (36 :: Lib.itoa t.length) ++ [13, 10] ++ t ++ [13, 10] := by simp [bulkW]

set_option maxRecDepth 100000 in
set_option maxHeartbeats 4000000 in
theorem pwithReply_bulk (base : Nat) (v : Value) (l t : List UInt8) (T : ByteArray) (w : World) (hown : w.ownsRow base 5 1 v l.length (Lib.byteCells l)) (hx : T.data.toList = t) (hb : base ≤ w.heap.size) (hl : l.length ≤ 1099500000000) (ht : t.length ≤ 65536) (hp : Pows w) (hB : 1 < w.heap.size) :
    Calls Tryd.prog 15 #[v, .agg #[.int .i64 4, .string T, .int .i64 0, .slice none 0 0]] w (Rowed w base v (l ++ bulkW t)) := by
  obtain ⟨i0, hi, hy0, hy1, hy2⟩ := info_parts info_u8
  obtain ⟨A, c, rfl⟩ := ownsRow_form hown
  have hT : T.size = t.length := by rw [← hx, Array.length_toList]; rfl
  have HT := Lib.hid hT
  have HX := Lib.hid hx
  have hTb : T.size ≤ 65536 := by omega
  have HOW := Lib.hid hown
  have hi22 := itoa_le T.size (by omega)
  have HTX := Lib.hid (fun w2 (hb2 : Below w.heap.size w w2) => text_any T.size w2 (by omega) (by omega) (hp.on hb2 hB))
  have hne : (Value.slice A l.length c).ownBlock ≠ some w.heap.size := fun e => by have := (own_lt hown e).2; omega
  clear hx hT hown hp
  go_enter Tryd.func15, Tryd.ntmps15
  go_wp2_with fail
  refine (HTX.out _ ((Below.refl w.heap.size w).alloc (Nat.le_refl _) _)).mono ?_
  rintro e w1 ⟨rfl, hb1⟩
  have hbw1 : Below w.heap.size w w1 := ((Below.refl w.heap.size w).alloc (Nat.le_refl _) _).trans (hb1.mono (by simp))
  have hc1 : w1.cell? ⟨w.heap.size, 1, none⟩ = some (.string T) := ((hb1.cell (p := ⟨w.heap.size, 1, none⟩) (by simp)).trans (cell_in (World.alloc_heap_new w (.cells #[.int .i64 4, .string T, .int .i64 0, .slice none 0 0] 25)))).trans rfl
  have hz1 : w.heap.size < w1.heap.size := by have := hb1.size; rw [World.size_alloc] at this; omega
  have HB1 := Lib.hid hbw1
  have HO1 := Lib.hid (ownsRow_below HOW.out hbw1)
  clear hb1 hbw1 HTX
  go_wp2_with fail
  refine (ywithLine_any base _ l 36 36 ⟨(Lib.itoa (T.size : Int)).toArray⟩ (Lib.itoa (T.size : Int)) w1 rfl HO1.out rfl (by omega) (by omega)).mono ?_
  rintro e w2 ⟨v2, rfl, hown2, hg2⟩
  have hc2 := (hg2.cell (p := ⟨w.heap.size, 1, none⟩) hz1 hne).trans hc1
  have hl2 : (l ++ (36 :: Lib.itoa (T.size : Int)) ++ [13, 10]).length ≤ 1099500000030 := by simp only [List.length_append, List.length_cons, List.length_nil]; omega
  obtain ⟨y, hy⟩ : ∃ y, l ++ (36 :: Lib.itoa (T.size : Int)) ++ [13, 10] = y := ⟨_, rfl⟩
  rw [hy] at hown2 hl2
  have HYY := Lib.hid hy
  have HG2 := Lib.hid (Grew.after HB1.out hg2)
  obtain ⟨A2, c2, rfl⟩ := ownsRow_form hown2
  have hzz2 : base ≤ w2.heap.size := by have := HG2.out.size; omega
  clear hg2 hc1 hy HO1 HB1
  go_wp2_with (at_builtin; refine wpList_append_str_at rfl _ _ rfl base _ y rfl hown2 T t rfl HX.out ?c1 hzz2 ?_)
  case c1 => omega
  intro v3 w3 hown3 hg3
  try rw [← List.length_append] at hown3
  have hl3 : (y ++ t).length ≤ 1099500065600 := by rw [List.length_append]; omega
  obtain ⟨z, hz⟩ : ∃ z, y ++ t = z := ⟨_, rfl⟩
  rw [hz] at hown3 hl3
  have HZZ := Lib.hid hz
  have HG3 := Lib.hid (HG2.out.trans hg3)
  obtain ⟨A3, c3, rfl⟩ := ownsRow_form hown3
  have hzz3 : base ≤ w3.heap.size := by have := HG3.out.size; omega
  clear hg3 hown2 hz HG2 hc2
  try rw [show y.length + t.length = z.length from by rw [← HZZ.out, List.length_append]]
  go_wp2_with (at_builtin; refine wpList_append_str_at rfl _ _ rfl base _ z rfl hown3 ⟨#[13, 10]⟩ [13, 10] rfl rfl ?e1 hzz3 ?_)
  case e1 => simp only [List.length_cons, List.length_nil]; omega
  intro v4 w4 hown4 hg4
  try rw [← List.length_append] at hown4
  have HG4 := Lib.hid (HG3.out.trans hg4)
  have HO4 := Lib.hid hown4
  obtain ⟨A4, c4, rfl⟩ := ownsRow_form hown4
  clear hg4 hown3 hown4 HG3
  go_wp2
  go_ret
  refine ⟨_, rfl, ?_, HG4.out⟩
  rw [show l ++ bulkW t = z ++ [13, 10] from by rw [bulkW_eq, ← HZZ.out, ← HYY.out, HT.out]; simp]
  simp only [List.length_append] at HO4 ⊢
  exact HO4.out

set_option maxRecDepth 100000 in
set_option maxHeartbeats 8000000 in
theorem pwithReply_array (base : Nat) (v : Value) (l : List UInt8) (LA : Option Addr) (b o n cap : Nat) (ws : List (List UInt8)) (w : World) (hown : w.ownsRow base 5 1 v l.length (Lib.byteCells l)) (hb : base ≤ w.heap.size) (hl : l.length ≤ 1099400000000) (hn : ws.length = n) (hLA : 0 < n → LA = some ⟨b, o, none⟩) (hc : BulksAt w b o ws) (hbig : n ≤ 1024) (hsz : ∀ t ∈ ws, t.length ≤ 65536) (hvb : v.ownBlock ≠ some b) (hp : Pows w) (hB : 1 < base) :
    Calls Tryd.prog 15 #[v, .agg #[.int .i64 6, .string ⟨#[]⟩, .int .i64 0, .slice LA n cap]] w (Rowed w base v (l ++ writeB ws)) := by
  obtain ⟨A, c, rfl⟩ := ownsRow_form hown
  have HOW := Lib.hid hown
  have HC := Lib.hid hc
  have HN := Lib.hid hn
  have HLA := Lib.hid hLA
  have HSZ := Lib.hid hsz
  have HLE := Lib.hid (fun k hk => writeK_le ws hsz (by omega) k hk)
  have hi22 := itoa_le n (by omega)
  have HP := Lib.hid hp
  have HTX := Lib.hid (fun w2 (hb2 : Below w.heap.size w w2) => text_any n w2 (by omega) (by omega) (hp.on hb2 (by omega)))
  have hne : (Value.slice A l.length c).ownBlock ≠ some w.heap.size := fun e => by have := (own_lt hown e).2; omega
  have HVL := Lib.hid (fun k (hk : (Value.slice A l.length c).ownBlock = some k) => own_lt hown hk)
  have HVB := Lib.hid hvb
  obtain ⟨W, hW⟩ : ∃ W : Nat → List UInt8, ∀ k, l ++ writeK ws k = W k := ⟨fun k => l ++ writeK ws k, fun _ => rfl⟩
  have HW := Lib.hid hW
  clear hown hc hn hLA hsz hp hvb hW
  go_enter Tryd.func15, Tryd.ntmps15
  go_wp2_with fail
  refine (HTX.out _ ((Below.refl w.heap.size w).alloc (Nat.le_refl _) _)).mono ?_
  rintro e w1 ⟨rfl, hb1⟩
  have hbw1 : Below w.heap.size w w1 := ((Below.refl w.heap.size w).alloc (Nat.le_refl _) _).trans (hb1.mono (by simp))
  have hc1 : w1.cell? ⟨w.heap.size, 3, none⟩ = some (.slice LA n cap) := ((hb1.cell (p := ⟨w.heap.size, 3, none⟩) (by simp)).trans (cell_in (World.alloc_heap_new w (.cells #[.int .i64 6, .string ⟨#[]⟩, .int .i64 0, .slice LA n cap] 25)))).trans rfl
  have hz1 : w.heap.size < w1.heap.size := by have := hb1.size; rw [World.size_alloc] at this; omega
  have HB1 := Lib.hid hbw1
  have HO1 := Lib.hid (ownsRow_below HOW.out hbw1)
  clear hb1 hbw1 HTX
  go_wp2_with fail
  refine (ywithLine_any base _ l 42 42 ⟨(Lib.itoa (n : Int)).toArray⟩ (Lib.itoa (n : Int)) w1 rfl HO1.out rfl (by omega) (by omega)).mono ?_
  rintro e w2 ⟨v2, rfl, hown2, hg2⟩
  have hc2 := (hg2.cell (p := ⟨w.heap.size, 3, none⟩) hz1 hne).trans hc1
  rw [show l ++ (42 :: Lib.itoa (n : Int)) ++ [13, 10] = W 0 from by rw [← HW.out, writeK_zero, HN.out]; simp] at hown2
  have HG2 := Lib.hid (Grew.after HB1.out hg2)
  have HO2 := Lib.hid hown2
  obtain ⟨A2, c2, rfl⟩ := ownsRow_form hown2
  clear hg2 hc1 hown2 HO1 HB1
  go_wp2
  clear hc2
  go_loopw [0, 6, 59] (fun vr _ i wr => ∃ k : Nat, i = .int .i64 k ∧ k ≤ n ∧ wr.ownsRow base 5 1 vr (W k).length (Lib.byteCells (W k)) ∧ Grew w wr (.slice A l.length c) vr) (fun _ _ i _ => n - (intOf i).toNat)
  case atStart => exact ⟨0, rfl, by omega, HO2.out, HG2.out⟩
  case round =>
    obtain ⟨k, rfl, hk, hown, hgr⟩ := hrel
    have HGR := Lib.hid hgr
    have HOR := Lib.hid hown
    obtain ⟨Ar, cr, rfl⟩ := ownsRow_form hown
    have hzr := hgr.size
    clear hown hgr HO2 HG2
    by_cases hlt : k < n
    · obtain rfl : LA = some ⟨b, o, none⟩ := HLA.out (by omega)
      obtain ⟨t, ht⟩ : ∃ t, ws[k]? = some t := ⟨_, List.getElem?_eq_getElem (by rw [HN.out]; exact hlt)⟩
      obtain ⟨d0, d1, d2, d3⟩ := HC.out k t ht
      have hbw : b < w.heap.size := World.block_lt_of_cell? w _ d0
      have c0 := (HGR.out.cell (p := ⟨b, o + k * 4, none⟩) hbw HVB.out).trans d0
      have c1 := (HGR.out.cell (p := ⟨b, o + k * 4 + 1, none⟩) hbw HVB.out).trans d1
      have c2 := (HGR.out.cell (p := ⟨b, o + k * 4 + 2, none⟩) hbw HVB.out).trans d2
      have c3 := (HGR.out.cell (p := ⟨b, o + k * 4 + 3, none⟩) hbw HVB.out).trans d3
      obtain ⟨T, hT⟩ : ∃ T : ByteArray, ⟨t.toArray⟩ = T := ⟨_, rfl⟩
      have hTl : T.data.toList = t := by rw [← hT]
      have htl := HSZ.out t (List.mem_of_getElem? ht)
      unfold strV at c1
      rw [hT] at c1
      have hle := HLE.out k (by rw [HN.out]; omega)
      have HST : Hid (W (k + 1) = W k ++ bulkW t) := by unfold Hid; rw [← HW.out, ← HW.out, writeK_step ws k t ht, bulkW_eq]; simp
      have hbr : Below base w wr := HGR.out.low hb (fun k hk => (HVL.out k hk).1)
      have HPR := Lib.hid (HP.out.on hbr hB)
      have hlk : (W k).length ≤ 1099500000000 := by rw [← HW.out, List.length_append]; omega
      have HTL := Lib.hid hTl
      clear d0 d1 d2 d3 ht hT hTl hbr
      go_wp2_with fail
      refine (pwithReply_bulk base _ (W k) t T _ (HOR.out.alloc _) HTL.out (by rw [World.size_alloc]; omega) hlk htl (HPR.out.on ((Below.refl wr.heap.size wr).alloc (Nat.le_refl _) _) (by omega)) (by rw [World.size_alloc]; omega)).mono ?_
      rintro e w3 ⟨v3, rfl, hown3, hg3⟩
      rw [← HST.out] at hown3
      have HG3 := Lib.hid (HGR.out.trans (Grew.after ((Below.refl wr.heap.size wr).alloc (Nat.le_refl _) _) hg3))
      have HO3 := Lib.hid hown3
      obtain ⟨A3, c3, rfl⟩ := ownsRow_form hown3
      clear hown3 hg3
      go_wp2
      go_roundw
      case rel => exact ⟨k + 1, by go_num, by omega, HO3.out, HG3.out⟩
      case measure => simp only [intOf]; omega
    · obtain rfl : k = n := by omega
      have HOF := Lib.hid (show wr.ownsRow base 5 1 (.slice Ar (W k).length cr) (l ++ writeB ws).length (Lib.byteCells (l ++ writeB ws)) from by
        have := HOR.out
        have hw := writeK_all ws
        rw [HN.out] at hw
        rwa [← hw, HW.out])
      go_wp2
      go_ret
      exact ⟨_, rfl, HOF.out, HGR.out⟩

end Go.Proofs.YtbldahkgilkclaaDoor
