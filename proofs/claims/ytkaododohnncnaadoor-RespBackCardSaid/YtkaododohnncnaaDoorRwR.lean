/-
  The walk of the document's own Write. Conditions: the table of powers of ten holds what its own text lays; the texts lie in memory as a slice that reads as them.
-/
import Derived.Test.YtkaododohnncnaaDoorRwP
import Derived.Deep.RegionHeld3
import Derived.StillTactics
namespace Go.Proofs.YtkaododohnncnaaDoor
open Go.RowKit

/-- What the document's Write tells, its bytes a row of its own. -/
def WrtPost (w : World) (ws : List (List UInt8)) (e : Ending) (w' : World) : Prop :=
  Below w.heap.size w w' ∧ ((writeE ws ≠ 0 ∧ e = .returned (.tuple #[.slice none 0 0, .int .i64 (writeE ws)])) ∨
    (writeE ws = 0 ∧ ∃ v, e = .returned (.tuple #[v, .int .i64 0]) ∧ OwnsT w' w.heap.size v (writeB ws)))

theorem itoa_any (n : Int) (w : World) (h0 : -9223372036854775808 ≤ n) (h1 : n ≤ 9223372036854775807) (hp : Pows w) :
    Calls Tryd.prog 33 #[.int .i64 n] w fun e w' => e = .returned (.string ⟨(Lib.itoa n).toArray⟩) ∧ Below w.heap.size w w' :=
  (Tryd.strconv_Itoa n h0 h1 w hp).mono fun e w' ⟨he, k, os, hw⟩ => ⟨he, by rw [hw]; exact below_grow _ _ _⟩

/-- A text behind a row of the call's own, at a step of a region that draws. -/
theorem step_append_T {w : World} {ops : Array Oper} {o : Oper} {a : Act} {K : Act → World → Prop} {Q : Exit → Act → World → Prop} {E : Prop} (hgd : o.guard = none) (s x : Operand)
    (ho : o.op = .call { callee := .builtin .append, args := #[s, x], argTypes := #[23, 9] })
    (base : Nat) (v : Value) (l : List UInt8) (hs : a.eval s = v) (hown : OwnsT w base v l) (T : ByteArray) (y : List UInt8) (hx : a.eval x = .string T) (hy : T.data.toList = y) (hlen : l.length + y.length ≤ 1099511627776)
    (h : ∀ v' w', OwnsT w' base v' (l ++ y) → Below base w w' → w.heap.size ≤ w'.heap.size → K (a.put o.dst v') w') :
    if Region.wanted o (yielded ops a.tmps) = true then Oper.wp Tryd.prog o a w K Q else E := by
  have hw : Region.wanted o (yielded ops a.tmps) = true := by simp [Region.wanted, hgd]
  rw [if_pos hw]
  obtain ⟨v', w', hr, h2, h3, h4⟩ := run_append_T w base v l hown T y hy hlen o.type
  unfold Oper.wp execOp
  simp only [ho, resolve, invoke, builtin, Sem.run_bind, Sem.run_pure, Result.andThen_ok, List.map_toArray, List.map_cons, List.map_nil, hs, hx, hr]
  exact h v' w' h2 h3 h4

set_option maxRecDepth 100000 in
set_option maxHeartbeats 4000000 in
theorem rwrite_any (LA : Option Addr) (b o cap n : Nat) (ws : List (List UInt8)) (w : World) (hn : ws.length = n) (hLA : 0 < n → LA = some ⟨b, o, none⟩) (hc : ∀ i t, ws[i]? = some t → w.cell? ⟨b, o + i, none⟩ = some (strV t))
    (hbig : n ≤ 140737488351232) (hsz : ∀ t ∈ ws, t.length ≤ 9223372036854775807) (hp : Pows w) (hB : 0 < w.heap.size) :
    Calls Tryd.prog 12 #[.slice LA n cap] w (WrtPost w ws) := by
  have HN := Lib.hid hn
  have HC := Lib.hid hc
  have HP := Lib.hid hp
  have HSZ := Lib.hid hsz
  clear hc hp hsz
  by_cases h0 : n = 0
  · subst h0
    have HE : Hid (writeE ws = 1) := by unfold Hid writeE; rw [if_pos hn]
    clear hn hLA
    go_enter Tryd.func12, Tryd.ntmps12
    go_wp2
    go_ret2
    exact ⟨Below.refl _ _, Or.inl ⟨by rw [HE.out]; decide, by rw [HE.out]; rfl⟩⟩
  by_cases h1 : 1024 < n
  · have HE : Hid (writeE ws = 3) := by unfold Hid writeE; rw [if_neg (by omega), if_pos (by omega)]
    clear hn hLA
    go_enter Tryd.func12, Tryd.ntmps12
    go_wp2
    go_ret2
    exact ⟨Below.refl _ _, Or.inl ⟨by rw [HE.out]; decide, by rw [HE.out]; rfl⟩⟩
  obtain rfl : LA = some ⟨b, o, none⟩ := hLA (by omega)
  have hbw : b < w.heap.size := World.block_lt_of_cell? w _ (HC.out 0 _ (List.getElem?_eq_getElem (show 0 < ws.length by omega)))
  have hi20 := itoa_le n (by omega)
  have hx1 : (({ data := #[42] } ++ { data := (Lib.itoa (n : Int)).toArray } : ByteArray) ++ { data := #[13, 10] }).data.toList = writeK ws 0 := by rw [writeK_zero, hn]; simp
  have hxl : (writeK ws 0).length ≤ 23 := by rw [writeK_zero, hn]; simp only [List.length_append, List.length_cons, List.length_nil]; omega
  have HTB := Lib.hid (fun w1 => text_bytes w1 _ _ hx1 (by omega))
  have HXL := Lib.hid hxl
  clear hn hLA hx1 hxl
  go_enter Tryd.func12, Tryd.ntmps12
  go_wp2_with fail
  refine (itoa_any _ _ (by omega) (by omega) HP.out).mono ?_
  rintro e w1 ⟨rfl, hb1⟩
  obtain ⟨C, W1, hcv, hbw1, how1⟩ := HTB.out w1
  have hz1 := hb1.size
  have HB1 := Lib.hid (hb1.trans (hbw1.mono hz1))
  have HO1 := Lib.hid (how1.base hz1)
  clear hb1 hbw1 how1
  go_wp2
  clear hcv
  go_loopw [4, 5] (fun v i wr => ∃ m : Nat, i = .int .i64 m ∧ m ≤ n ∧ OwnsT wr w.heap.size v (writeK ws m) ∧ Below w.heap.size w wr ∧ Hid (∀ t ∈ ws.take m, t.length ≤ 65536) ∧ (writeK ws m).length ≤ 23 + m * 65600) (fun _ i _ => n - (intOf i).toNat)
  case atStart => exact ⟨0, rfl, by omega, HO1.out, HB1.out, fun t ht => by simp at ht, by have := HXL.out; omega⟩
  case round =>
    obtain ⟨m, rfl, hm, hown, hbl, HK, hle⟩ := hrel
    have HBL := Lib.hid hbl
    have hzr := hbl.size
    have HOW := Lib.hid hown
    obtain ⟨g0, c0, rfl, _⟩ := hown
    clear hbl HO1 HB1
    by_cases hlt : m < n
    · obtain ⟨t, ht⟩ : ∃ t, ws[m]? = some t := ⟨_, List.getElem?_eq_getElem (by rw [HN.out]; exact hlt)⟩
      have hcell := (HBL.out.cell (p := ⟨b, o + m, none⟩) hbw).trans (HC.out m t ht)
      have hts := HSZ.out t (List.mem_of_getElem? ht)
      have HST := Lib.hid (writeK_step ws m t ht)
      have HMEM := Lib.hid (List.mem_of_getElem? ht)
      obtain ⟨T, hT⟩ : ∃ T : ByteArray, ⟨t.toArray⟩ = T := ⟨_, rfl⟩
      have hTs : T.size = t.length := by rw [← hT]; rfl
      have hTl : T.data.toList = t := by rw [← hT]
      unfold strV at hcell
      rw [hT] at hcell
      have HTS := Lib.hid hTs
      have HTK : Hid (ws.take (m + 1) = ws.take m ++ [t]) := by unfold Hid; rw [List.take_add_one, ht]; rfl
      rw [← hTs] at hts
      by_cases hl : T.size ≤ 65536
      · have hbr : b < wr.heap.size := by omega
        have hi22 := itoa_le T.size (by omega)
        have hi23 := itoa_le t.length (by omega)
        have htl : t.length ≤ 65536 := by omega
        obtain ⟨S0, hS0⟩ : ∃ S0 : ByteArray, ⟨(Lib.itoa (T.size : Int)).toArray⟩ = S0 := ⟨_, rfl⟩
        have hz0 : S0.size ≤ 20 := by rw [← hS0]; exact hi22
        have HTX := Lib.hid (fun w5 (hb5 : Below wr.heap.size wr w5) => itoa_any T.size w5 (by omega) (by omega) (HP.out.on (HBL.out.trans (hb5.mono hzr)) hB))
        rw [hS0] at HTX
        obtain ⟨S1, hS1⟩ : ∃ S1 : ByteArray, { data := #[36] } ++ S0 = S1 := ⟨_, rfl⟩
        have hz1 : S1.size ≤ 21 := by rw [← hS1, ByteArray.size_append]; show 1 + S0.size ≤ 21; omega
        obtain ⟨S2, hS2⟩ : ∃ S2 : ByteArray, S1 ++ { data := #[13, 10] } = S2 := ⟨_, rfl⟩
        have hz2 : S2.size ≤ 23 := by rw [← hS2, ByteArray.size_append]; show S1.size + 2 ≤ 23; omega
        obtain ⟨S3, hS3⟩ : ∃ S3 : ByteArray, S2 ++ T = S3 := ⟨_, rfl⟩
        have hz3 : S3.size ≤ 65559 := by rw [← hS3, ByteArray.size_append]; omega
        obtain ⟨S4, hS4⟩ : ∃ S4 : ByteArray, S3 ++ { data := #[13, 10] } = S4 := ⟨_, rfl⟩
        have hA1 : ∀ w, (Op.stringOp .add { data := #[36] } S0).run Tryd.prog w = .ok (.string S1) w := fun w => by rw [← hS1]; exact run_string_add_sum _ _ _ (by show 1 + S0.size ≤ _; omega)
        have hA2 : ∀ w, (Op.stringOp .add S1 { data := #[13, 10] }).run Tryd.prog w = .ok (.string S2) w := fun w => by rw [← hS2]; exact run_string_add_sum _ _ _ (by show S1.size + 2 ≤ _; omega)
        have hA3 : ∀ w, (Op.stringOp .add S2 T).run Tryd.prog w = .ok (.string S3) w := fun w => by rw [← hS3]; exact run_string_add_sum _ _ _ (by omega)
        have hA4 : ∀ w, (Op.stringOp .add S3 { data := #[13, 10] }).run Tryd.prog w = .ok (.string S4) w := fun w => by rw [← hS4]; exact run_string_add_sum _ _ _ (by show S3.size + 2 ≤ _; omega)
        have hx1 : S4.data.toList = (36 :: Lib.itoa (t.length : Int)) ++ [13, 10] ++ t ++ [13, 10] := by
          rw [← hS4, ← hS3, ← hS2, ← hS1, ← hS0, hTs]; simp [hTl]
        have HX1 := Lib.hid hx1
        have hyl : (writeK ws m).length + ((36 :: Lib.itoa (t.length : Int)) ++ [13, 10] ++ t ++ [13, 10]).length ≤ 1099511627776 := by simp only [List.length_append, List.length_cons, List.length_nil]; omega
        have HSTL : Hid ((writeK ws (m + 1)).length ≤ 23 + (m + 1) * 65600) := by
          unfold Hid
          rw [HST.out]
          simp only [List.length_append, List.length_cons, List.length_nil] at hyl ⊢
          omega
        rw [show writeK ws m ++ (36 :: Lib.itoa (t.length : Int)) ++ [13, 10] ++ t ++ [13, 10] = writeK ws m ++ ((36 :: Lib.itoa (t.length : Int)) ++ [13, 10] ++ t ++ [13, 10]) from by simp] at HST
        obtain ⟨Y, hY⟩ : ∃ Y, (36 :: Lib.itoa (t.length : Int)) ++ [13, 10] ++ t ++ [13, 10] = Y := ⟨_, rfl⟩
        rw [hY] at HX1 HST hyl
        clear ht hT hTs hTl hx1 hS0 hS1 hS2 hS3 hS4 hY hi22 hi23
        go_wp2
        go_region_held3 (fun w' => w'.cell? ⟨b, o + m, none⟩ = some (.string T) ∧ Below w.heap.size wr w')
          (first | exact ⟨hcell, Below.refl _ _⟩ | exact ⟨hcell, (Below.refl _ _).drew⟩ | exact ⟨(HB6.out.cell (p := ⟨b, o + m, none⟩) hbr).trans hcell, HB6.out.mono hzr⟩ | exact ⟨(hb7.cell (p := ⟨b, o + m, none⟩) hbw).trans ((HB6.out.cell (p := ⟨b, o + m, none⟩) hbr).trans hcell), (HB6.out.mono hzr).trans hb7⟩)
          (first
            | (go_at_call 33; refine (HTX.out _ (by first | exact Below.refl _ _ | exact (Below.refl _ _).drew)).mono ?_; rintro e w6 ⟨rfl, hb6⟩; have HB6 := Lib.hid (((Below.refl wr.heap.size wr).drew).trans hb6); clear hb6)
            | (refine step_append_T rfl _ _ rfl w.heap.size _ (writeK ws m) rfl (HOW.out.below HB6.out) _ _ rfl HX1.out hyl ?_; intro v7 w7 hown7 hb7 hz7))
        have HB7 := Lib.hid (HBL.out.trans ((HB6.out.mono hzr).trans hb7))
        have HO7 := Lib.hid hown7
        obtain ⟨g7, c7, rfl, _⟩ := hown7
        clear hb7 hA1 hA2 hA3 hA4
        go_wp2
        go_roundw
        case rel => exact ⟨m + 1, by go_num, by omega, by rw [HST.out]; exact HO7.out, HB7.out, fun u hu => by
          rw [HTK.out] at hu
          rcases List.mem_append.1 hu with hu | hu
          · exact HK.out u hu
          · simp at hu; rw [hu]; exact htl, HSTL.out⟩
        case measure => simp only [intOf]; omega
      · have HE : Hid (writeE ws = 2) := by
          unfold Hid writeE
          rw [if_neg (by rw [HN.out]; omega), if_neg (by rw [HN.out]; omega), if_neg (fun h => hl (by rw [hTs]; exact h t HMEM.out))]
        clear ht hT hTs hTl
        go_wp2
        go_ret2
        exact ⟨HBL.out, Or.inl ⟨by rw [HE.out]; decide, by rw [HE.out]; rfl⟩⟩
    · obtain rfl : m = n := by omega
      have HE : Hid (writeE ws = 0) := by
        unfold Hid writeE
        have := HK.out
        rw [List.take_of_length_le (by rw [HN.out]; exact Nat.le_refl _)] at this
        rw [if_neg (by rw [HN.out]; omega), if_neg (by rw [HN.out]; omega), if_pos this]
      have HOF := Lib.hid (show OwnsT wr w.heap.size (.slice (some ⟨g0, 0, none⟩) (writeK ws m).length c0) (writeB ws) from by
        have := HOW.out
        have hw := writeK_all ws
        rw [HN.out] at hw
        rwa [hw] at this ⊢)
      go_wp2
      go_ret2
      exact ⟨HBL.out, Or.inr ⟨HE.out, _, rfl, HOF.out⟩⟩

end Go.Proofs.YtkaododohnncnaaDoor
