/-
  The walk of package resp's Write. Conditions: the table of powers of ten holds what its own text lays; the texts lie in memory as a slice that reads as them.
-/
import Derived.Test.YtkaododohnncnaaDoorTail
import Derived.Test.YtkaododohnncnaaDoorNumX
import Derived.Test.YtkaododohnncnaaDoorRspU
namespace Go.Proofs.YtkaododohnncnaaDoor
open Go.RowKit

/-- Which error Write tells. -/
def writeE (ws : List (List UInt8)) : Int := if ws.length = 0 then 1 else if 1024 < ws.length then 3 else if ∀ t ∈ ws, t.length ≤ 65536 then 0 else 2
/-- The bytes of the first texts. -/
def writeK (ws : List (List UInt8)) (k : Nat) : List UInt8 := 42 :: (Lib.itoa ws.length ++ 13 :: 10 :: ((ws.take k).map bulkW).flatten)
theorem writeK_all (ws : List (List UInt8)) : writeK ws ws.length = writeB ws := by unfold writeK writeB; rw [List.take_length]
theorem writeK_zero (ws : List (List UInt8)) : writeK ws 0 = 42 :: Lib.itoa ws.length ++ [13, 10] := by unfold writeK; simp
theorem writeK_step (ws : List (List UInt8)) (k : Nat) (t : List UInt8) (h : ws[k]? = some t) : writeK ws (k + 1) = writeK ws k ++ (36 :: Lib.itoa t.length) ++ [13, 10] ++ t ++ [13, 10] := by
  unfold writeK
  rw [List.take_add_one, h]
  simp [bulkW]
theorem itoa_le (n : Nat) (h : n < 18446744073709551616) : (Lib.itoa (n : Int)).length ≤ 20 := by rw [itoa_nat, Lib.decDigits_length]; exact Lib.nDigits_le20 n h
theorem bulkW_le (t : List UInt8) (h : t.length ≤ 65536) : (bulkW t).length ≤ 65600 := by
  have := itoa_le t.length (by omega)
  simp only [bulkW, List.length_cons, List.length_append, List.length_nil]
  omega
theorem writeK_le (ws : List (List UInt8)) (h : ∀ t ∈ ws, t.length ≤ 65536) (hn : ws.length ≤ 1024) : ∀ k, k ≤ ws.length → (writeK ws k).length ≤ 23 + k * 65600
  | 0, _ => by
    rw [writeK_zero]
    have := itoa_le ws.length (by omega)
    simp only [List.length_cons, List.length_append, List.length_nil]
    omega
  | k + 1, hk => by
    have ih := writeK_le ws h hn k (by omega)
    have hk1 : ws[k]? = some ws[k] := List.getElem?_eq_getElem (by omega)
    rw [writeK_step ws k _ hk1]
    have hb := bulkW_le ws[k] (h _ (List.getElem_mem _))
    simp only [bulkW, List.length_cons, List.length_append, List.length_nil] at hb ⊢
    omega

/-- What Write tells, its bytes a row of its own. -/
def WrPost (w : World) (ws : List (List UInt8)) (e : Ending) (w' : World) : Prop :=
  Below w.heap.size w w' ∧ ((writeE ws ≠ 0 ∧ e = .returned (.tuple #[.slice none 0 0, .int .i64 (writeE ws)])) ∨
    (writeE ws = 0 ∧ ∃ v, e = .returned (.tuple #[v, .int .i64 0]) ∧ w'.ownsRow w.heap.size 5 1 v (writeB ws).length (Lib.byteCells (writeB ws))))

set_option maxRecDepth 100000 in
set_option maxHeartbeats 1000000 in
theorem pwithLine_any (base : Nat) (v : Value) (l : List UInt8) (T : ByteArray) (x : List UInt8) (w : World) (hown : w.ownsRow base 5 1 v l.length (Lib.byteCells l)) (hx : T.data.toList = x) (hb : base ≤ w.heap.size) (hlen : l.length + x.length ≤ 1099511627776) :
    Calls Tryd.prog 31 #[v, .string T] w fun e w' => ∃ v', e = .returned v' ∧ w'.ownsRow base 5 1 v' (l ++ x ++ [13, 10]).length (Lib.byteCells (l ++ x ++ [13, 10])) ∧ Below base w w' ∧ w.heap.size ≤ w'.heap.size := by
  obtain ⟨i0, hi, hy0, hy1, hy2⟩ := info_parts info_u8
  obtain ⟨A, c, rfl⟩ := ownsRow_form hown
  have hT : T.size = x.length := by rw [← hx, Array.length_toList]; rfl
  have HSC := Lib.hid (strCells_eq T x hx)
  have HT := Lib.hid hT
  have HX := Lib.hid hx
  have hb1 : l.length + T.size ≤ 1099511627776 := by omega
  clear hx hT
  go_enter Tryd.func31, Tryd.ntmps31
  go_wp2_with (at_builtin; refine Lib.wpList_append_own_string _ rfl _ _ 23 9 rfl base 5 i0 Tryd.underlying23 Tryd.underlying9 hi hy0 hy1 hy2 _ _ _ rfl hown T rfl ?c1 ?c2 hb ?_)
  case c1 => unfold maxLen; omega
  case c2 => omega
  intro v1 w1 hown1 hgr1 _
  rw [HSC.out, HT.out, ← byteCells_two, ← List.length_append] at hown1
  have hz1 := hgr1.size
  have hbl1 : Below base w w1 := (Below.refl _ _).grown hgr1 hb (fun k hk => (own_lt hown hk).1)
  obtain ⟨A1, c1, rfl⟩ := ownsRow_form hown1
  have hl1 : (l ++ x).length ≤ 1099511627776 := by rw [List.length_append]; omega
  obtain ⟨y, hy⟩ : ∃ y, l ++ x = y := ⟨_, rfl⟩
  rw [hy] at hown1 hl1 ⊢
  have HB1 := Lib.hid hbl1
  have hown1' := (hown1.alloc (.cells #[.int .u8 13, .int .u8 10] 5))
  clear hown hgr1 hbl1 hown1
  go_wp2_with (at_builtin; refine wpList_append_own _ rfl _ _ 23 rfl base 5 i0 (.int .u8 0) 1 1 Tryd.underlying23 hi hy0 hy1 hy2 rfl (by decide) _ _ _ rfl hown1' ⟨w1.heap.size, 0, none⟩ 2 2 [.int .u8 13, .int .u8 10] rfl rfl ?d1 ?d2 ?d3 ?d4 ?d5 ?_)
  case d1 => exact World.news_of_block (cs := #[.int .u8 13, .int .u8 10]) (t := 5) (fr := (0, 0)) (World.alloc_heap_new w1 _)
  case d2 => intro u hu; simp at hu; rcases hu with rfl | rfl <;> rfl
  case d3 => unfold maxLen; omega
  case d4 => omega
  case d5 => simp; omega
  intro v2 w2 hown2 hgr2 _
  have hz2 := hgr2.size
  have hal : Below base w (w1.alloc (.cells #[.int .u8 13, .int .u8 10] 5)) := HB1.out.alloc (by omega) _
  have hbl2 : Below base w w2 := hal.grown hgr2 (by simp; omega) (fun k hk => (own_lt hown1' hk).1)
  have HB2 := Lib.hid hbl2
  have HO2 := Lib.hid hown2
  obtain ⟨A2, c2, rfl⟩ := ownsRow_form hown2
  have hzz : w.heap.size ≤ w2.heap.size := by rw [World.size_alloc] at hz2; omega
  clear hown2 hgr2 hown1' hal hbl2 hz2
  go_wp2
  go_ret
  refine ⟨_, rfl, ?_, HB2.out, hzz⟩
  rw [List.length_append, byteCells_two, hy]
  exact HO2.out

set_option maxRecDepth 100000 in
set_option maxHeartbeats 4000000 in
theorem pwrite_any (LA : Option Addr) (b o cap n : Nat) (ws : List (List UInt8)) (w : World) (hn : ws.length = n) (hLA : 0 < n → LA = some ⟨b, o, none⟩) (hc : ∀ i t, ws[i]? = some t → w.cell? ⟨b, o + i, none⟩ = some (strV t))
    (hbig : n ≤ 140737488351232) (hsz : ∀ t ∈ ws, t.length ≤ 9223372036854775807) (hp : Pows w) (hB : 0 < w.heap.size) :
    Calls Tryd.prog 11 #[.slice LA n cap] w (WrPost w ws) := by
  have HN := Lib.hid hn
  have HC := Lib.hid hc
  have HP := Lib.hid hp
  have HSZ := Lib.hid hsz
  clear hc hp hsz
  by_cases h0 : n = 0
  · subst h0
    have HE : Hid (writeE ws = 1) := by unfold Hid writeE; rw [if_pos hn]
    clear hn hLA
    go_enter Tryd.func11, Tryd.ntmps11
    go_wp2
    go_ret2
    exact ⟨Below.refl _ _, Or.inl ⟨by rw [HE.out]; decide, by rw [HE.out]; rfl⟩⟩
  by_cases h1 : 1024 < n
  · have HE : Hid (writeE ws = 3) := by unfold Hid writeE; rw [if_neg (by omega), if_pos (by omega)]
    clear hn hLA
    go_enter Tryd.func11, Tryd.ntmps11
    go_wp2
    go_ret2
    exact ⟨Below.refl _ _, Or.inl ⟨by rw [HE.out]; decide, by rw [HE.out]; rfl⟩⟩
  obtain rfl : LA = some ⟨b, o, none⟩ := hLA (by omega)
  clear hn hLA
  go_enter Tryd.func11, Tryd.ntmps11
  go_wp2
  go_loop [5, 17] (fun _ i => ∃ k : Nat, i = .int .i64 k ∧ k ≤ n ∧ Hid (∀ t ∈ ws.take k, t.length ≤ 65536)) (fun _ i => n - (intOf i).toNat)
  case atStart => exact ⟨0, rfl, by omega, fun t ht => by simp at ht⟩
  case round =>
    obtain ⟨k, rfl, hk, HK⟩ := hrel
    by_cases hlt : k < n
    · obtain ⟨t, ht⟩ : ∃ t, ws[k]? = some t := ⟨_, List.getElem?_eq_getElem (by rw [HN.out]; exact hlt)⟩
      have hcell := HC.out k t ht
      have hts := HSZ.out t (List.mem_of_getElem? ht)
      obtain ⟨T, hT⟩ : ∃ T : ByteArray, ⟨t.toArray⟩ = T := ⟨_, rfl⟩
      have hTs : T.size = t.length := by rw [← hT]; rfl
      unfold strV at hcell
      rw [hT] at hcell
      have HTT := Lib.hid ht
      have HTS := Lib.hid hTs
      rw [← hTs] at hts
      clear ht hT hTs
      by_cases hl : T.size ≤ 65536
      · go_wp2
        go_round
        case rel => exact ⟨k + 1, by go_num, by omega, fun u hu => by
          rw [List.take_add_one, HTT.out] at hu
          rcases List.mem_append.1 hu with hu | hu
          · exact HK.out u hu
          · simp at hu; rw [hu, ← HTS.out]; exact hl⟩
        case measure => simp only [intOf]; omega
      · have HE : Hid (writeE ws = 2) := by
          unfold Hid writeE
          rw [if_neg (by rw [HN.out]; omega), if_neg (by rw [HN.out]; omega), if_neg (fun h => hl (by rw [HTS.out]; exact h t (List.mem_of_getElem? HTT.out)))]
        go_wp2
        go_ret2
        exact ⟨Below.refl _ _, Or.inl ⟨by rw [HE.out]; decide, by rw [HE.out]; rfl⟩⟩
    · obtain rfl : k = n := by omega
      have HALL : Hid (∀ t ∈ ws, t.length ≤ 65536) := by have := HK.out; rwa [List.take_of_length_le (by rw [HN.out]; exact Nat.le_refl _)] at this
      have HE : Hid (writeE ws = 0) := by
        unfold Hid writeE
        rw [if_neg (by rw [HN.out]; omega), if_neg (by rw [HN.out]; omega), if_pos HALL.out]
      have HLE := Lib.hid (fun k hk => writeK_le ws HALL.out (by rw [HN.out]; omega) k hk)
      clear HK
      go_wp2_with fail
      refine (text_any _ _ (by omega) (by omega) HP.out).mono ?_
      rintro e w1 ⟨rfl, hb1⟩
      have HB1 := Lib.hid hb1
      have hz1 := hb1.size
      have hx1 : ({ data := #[42] } ++ { data := (Lib.itoa (k : Int)).toArray } : ByteArray).data.toList = 42 :: Lib.itoa (k : Int) := by simp
      have hi20 := itoa_le k (by omega)
      clear hb1
      go_wp2_with fail
      refine (pwithLine_any w.heap.size (.slice none 0 0) [] _ _ w1 ⟨rfl, .inl ⟨rfl, rfl⟩⟩ hx1 hz1 (by simp only [List.length_cons, List.length_nil]; omega)).mono ?_
      rintro e w2 ⟨v2, rfl, hown2, hb2, hz2⟩
      rw [List.nil_append] at hown2
      rw [show (42 :: Lib.itoa (k : Int)) ++ [13, 10] = writeK ws 0 from by rw [writeK_zero, HN.out]] at hown2
      have HB2 := Lib.hid (HB1.out.trans hb2)
      have HO2 := Lib.hid hown2
      obtain ⟨A2, c2, rfl⟩ := ownsRow_form hown2
      have hbw : b < w.heap.size := by
        have ht := HC.out 0 _ (List.getElem?_eq_getElem (show 0 < ws.length by rw [HN.out]; omega))
        exact World.block_lt_of_cell? w _ ht
      clear hown2 hb2 hx1 hz1 hz2
      go_wp2
      go_loopw [6, 8, 32] (fun v _ i wr => ∃ m : Nat, i = .int .i64 m ∧ m ≤ k ∧ wr.ownsRow w.heap.size 5 1 v (writeK ws m).length (Lib.byteCells (writeK ws m)) ∧ Below w.heap.size w wr) (fun _ _ i _ => k - (intOf i).toNat)
      case atStart => exact ⟨0, rfl, by omega, HO2.out, HB2.out⟩
      case round =>
        obtain ⟨m, rfl, hm, hown, hbl⟩ := hrel
        have HBL := Lib.hid hbl
        have hzr := hbl.size
        have hle := HLE.out m (by rw [HN.out]; exact hm)
        obtain ⟨Ar, cr, rfl⟩ := ownsRow_form hown
        have HOW := Lib.hid hown
        clear hown hbl HO2 HB2 HB1
        by_cases hlt : m < k
        · obtain ⟨t, ht⟩ : ∃ t, ws[m]? = some t := ⟨_, List.getElem?_eq_getElem (by rw [HN.out]; exact hlt)⟩
          have hcell := (HBL.out.cell (p := ⟨b, o + m, none⟩) hbw).trans (HC.out m t ht)
          have hts := HALL.out t (List.mem_of_getElem? ht)
          have HST := Lib.hid (writeK_step ws m t ht)
          obtain ⟨T, hT⟩ : ∃ T : ByteArray, ⟨t.toArray⟩ = T := ⟨_, rfl⟩
          have hTs : T.size = t.length := by rw [← hT]; rfl
          have hTl : T.data.toList = t := by rw [← hT]
          unfold strV at hcell
          rw [hT] at hcell
          have HTX := Lib.hid (text_any T.size wr (by omega) (by omega) (HP.out.on HBL.out hB))
          have HTL := Lib.hid hTl
          have HTS := Lib.hid hTs
          have hx1 : ({ data := #[36] } ++ { data := (Lib.itoa (T.size : Int)).toArray } : ByteArray).data.toList = 36 :: Lib.itoa (t.length : Int) := by rw [hTs]; simp
          have HX1 := Lib.hid hx1
          have hi20 := itoa_le t.length (by omega)
          have hi22 := itoa_le T.size (by omega)
          have hmk : m * 65600 ≤ 67174400 := by omega
          rw [← hTs] at hts
          clear ht hT hTs hTl hx1
          go_wp2_with fail
          refine HTX.out.mono ?_
          rintro e w3 ⟨rfl, hb3⟩
          have hz3 := hb3.size
          have HB3 := Lib.hid (HBL.out.trans (hb3.mono hzr))
          have HO3 := Lib.hid (ownsRow_below HOW.out hb3)
          clear hb3 HTX
          go_wp2_with fail
          refine (pwithLine_any w.heap.size _ (writeK ws m) _ _ w3 HO3.out HX1.out (by omega) (by simp only [List.length_cons]; omega)).mono ?_
          rintro e w4 ⟨v4, rfl, hown4, hb4, hz4⟩
          have hl4 : (writeK ws m ++ (36 :: Lib.itoa (t.length : Int)) ++ [13, 10]).length ≤ 67240000 := by simp only [List.length_append, List.length_cons, List.length_nil]; omega
          have HB4 := Lib.hid (HB3.out.trans hb4)
          have HO4 := Lib.hid hown4
          obtain ⟨A4, c4, rfl⟩ := ownsRow_form hown4
          have htl : t.length ≤ 65536 := by rw [← HTS.out]; exact hts
          obtain ⟨Y, hY⟩ : ∃ Y, writeK ws m ++ (36 :: Lib.itoa (t.length : Int)) ++ [13, 10] = Y := ⟨_, rfl⟩
          rw [hY] at HST HO4 hl4 ⊢
          clear hown4 hb4 hY
          go_wp2_with fail
          refine (pwithLine_any w.heap.size _ Y _ _ w4 HO4.out HTL.out (by omega) (by omega)).mono ?_
          rintro e w5 ⟨v5, rfl, hown5, hb5, hz5⟩
          rw [← HST.out] at hown5
          have HB5 := Lib.hid (HB4.out.trans hb5)
          have HO5 := Lib.hid hown5
          obtain ⟨A5, c5, rfl⟩ := ownsRow_form hown5
          clear hown5 hb5
          go_wp2
          go_roundw
          case rel => exact ⟨m + 1, by go_num, by omega, HO5.out, HB5.out⟩
          case measure => simp only [intOf]; omega
        · obtain rfl : m = k := by omega
          have HOF := Lib.hid (show wr.ownsRow w.heap.size 5 1 (.slice Ar (writeK ws m).length cr) (writeB ws).length (Lib.byteCells (writeB ws)) from by
            have := HOW.out
            have hw := writeK_all ws
            rw [HN.out] at hw
            rwa [hw] at this ⊢)
          go_wp2
          go_ret2
          exact ⟨HBL.out, Or.inr ⟨HE.out, _, rfl, HOF.out⟩⟩

end Go.Proofs.YtkaododohnncnaaDoor
