/-
  The walks of the seven laws over package number: each answers true. Conditions: the table of powers of ten holds what its own text lays.
-/
import Derived.Test.YtcdkmhnkjcoplaaDoorNumQ
import Derived.Test.YtcdkmhnkjcoplaaDoorNumX
import Derived.Test.YtcdkmhnkjcoplaaDoorNumS
import Derived.Test.YtcdkmhnkjcoplaaDoorNumT
namespace Go.Proofs.YtcdkmhnkjcoplaaDoor
open Go.RowKit

theorem below_then {w w1 w2 : World} (h : Below w.heap.size w w1) (h2 : Below w1.heap.size w1 w2) : Below w.heap.size w w2 := h.trans (h2.mono h.size)

set_option maxHeartbeats 1000000 in
theorem alive_any (w : World) (hp : Pows w) (hB : 0 < w.heap.size) :
    Calls Tryd.prog 14 #[] w fun e w' => e = .returned (.bool true) ∧ Below w.heap.size w w' := by
  have e1 : Hid (placeI (-1) 3 = (2, true)) := by unfold Hid; decide
  have e2 : Hid (parseV [45, 49, 55] = some (-17)) := by unfold Hid; decide
  have e3 : Hid (Lib.itoa (-17) = [45, 49, 55]) := by
    have h := itoa_parse [45, 49, 55] (-17) e2.out
    exact h.1
  have HP := Lib.hid hp
  clear hp
  go_enter Tryd.func14, Tryd.ntmps14
  go_wp2_with fail
  refine (place_any _ _ _ (by omega) (by omega) (by omega) (by omega)).mono ?_
  rintro e w' ⟨rfl, rfl⟩
  rw [e1.out]
  go_wp2_with fail
  refine (parse_any _ _ (by decide)).mono ?_
  rintro e w1 ⟨rfl, hb1⟩
  rw [show (ByteArray.mk #[45, 49, 55]).data.toList = [45, 49, 55] from rfl, e2.out]
  have hp1 := Lib.hid (HP.out.on hb1 hB)
  go_wp2_with (go_at_call 12; refine (text_any _ _ (by omega) (by omega) hp1.out).mono ?_; rintro e w2 ⟨rfl, hb2⟩; rw [e3.out])
  go_ret
  exact ⟨rfl, below_then hb1 hb2⟩

theorem cut_size (s : ByteArray) (h : 100 < s.size) : (s.extract 0 100).size = 100 := by rw [ByteArray.size_extract]; omega

set_option maxHeartbeats 1000000 in
theorem texts_walk (s : ByteArray) (n : Int) (w : World) (hs : s.size ≤ 9223372036854775807) (hn0 : -9223372036854775808 ≤ n) (hn1 : n ≤ 9223372036854775807) (hp : Pows w) (hB : 0 < w.heap.size) :
    Calls Tryd.prog 3 #[.string s, .int .i64 n] w fun e w' => e = .returned (.bool true) ∧ Below w.heap.size w w' := by
  have HP := Lib.hid hp
  clear hp
  by_cases hl : 100 < s.size
  all_goals
    try have hc := cut_size s hl
    go_enter Tryd.func3, Tryd.ntmps3
    go_wp2_with fail
    refine (parse_any _ _ (by omega)).mono ?_
    rintro e w1 ⟨rfl, hb1⟩
    go_wp2_with fail
    refine (refParse_all _ _ (by omega)).mono ?_
    rintro e w' ⟨rfl, rfl⟩
    have hp1 := Lib.hid (HP.out.on hb1 hB)
    have hz1 := hb1.size
    go_wp2_with fail
    refine (text_any _ _ hn0 hn1 hp1.out).mono ?_
    rintro e w2 ⟨rfl, hb2⟩
    have hp2 := Lib.hid (hp1.out.on hb2 (by omega))
    have hz2 := hb2.size
    go_wp2_with fail
    refine (refText_any _ _ hn0 hn1).mono ?_
    rintro e w3 ⟨rfl, hb3⟩
    have hp3 := Lib.hid (hp2.out.on hb3 (by omega))
    have hz3 := hb3.size
    go_wp2_with fail
    refine (alive_any _ hp3.out (by omega)).mono ?_
    rintro e w4 ⟨rfl, hb4⟩
    go_wp2
    go_ret
    exact ⟨rfl, below_then (below_then (below_then hb1 hb2) hb3) hb4⟩

set_option maxHeartbeats 1000000 in
theorem times_walk (a b : Int) (w : World) (ha0 : -9223372036854775808 ≤ a) (ha1 : a ≤ 9223372036854775807) (hb0 : -9223372036854775808 ≤ b) (hb1 : b ≤ 9223372036854775807) (hp : Pows w) (hB : 0 < w.heap.size) :
    Calls Tryd.prog 5 #[.int .i64 a, .int .i64 b] w fun e w' => e = .returned (.bool true) ∧ Below w.heap.size w w' := by
  have HP := Lib.hid hp
  clear hp
  go_enter Tryd.func5, Tryd.ntmps5
  go_wp2_with fail
  refine (times_any _ _ _ (by omega) (by omega) (by omega) (by omega)).mono ?_
  rintro e w' ⟨rfl, rfl⟩
  go_wp2_with fail
  refine (refTimes_any _ _ _ (by omega) (by omega) (by omega) (by omega)).mono ?_
  rintro e w' ⟨rfl, rfl⟩
  go_wp2_with fail
  refine (alive_any _ HP.out hB).mono ?_
  rintro e w4 ⟨rfl, hb4⟩
  go_wp2
  go_ret
  exact ⟨rfl, hb4⟩

set_option maxHeartbeats 1000000 in
theorem places_walk (i k n : Int) (w : World) (hi0 : -9223372036854775808 ≤ i) (hi1 : i ≤ 9223372036854775807) (hk0 : -9223372036854775808 ≤ k) (hk1 : k ≤ 9223372036854775807) (hn0 : -9223372036854775808 ≤ n) (hn1 : n ≤ 9223372036854775807) (hp : Pows w) (hB : 0 < w.heap.size) :
    Calls Tryd.prog 6 #[.int .i64 i, .int .i64 k, .int .i64 n] w fun e w' => e = .returned (.bool true) ∧ Below w.heap.size w w' := by
  have HP := Lib.hid hp
  clear hp
  go_enter Tryd.func6, Tryd.ntmps6
  go_wp2_with fail
  refine (place_any _ _ _ (by omega) (by omega) (by omega) (by omega)).mono ?_
  rintro e w' ⟨rfl, rfl⟩
  go_wp2_with fail
  refine (refPlace_any _ _ _ (by omega) (by omega) (by omega) (by omega)).mono ?_
  rintro e w' ⟨rfl, rfl⟩
  go_wp2_with fail
  refine (range_any _ _ _ _ (by omega) (by omega) (by omega) (by omega) (by omega) (by omega)).mono ?_
  rintro e w' ⟨rfl, rfl⟩
  go_wp2_with fail
  refine (refRange_any _ _ _ _ (by omega) (by omega) (by omega) (by omega) (by omega) (by omega)).mono ?_
  rintro e w' ⟨rfl, rfl⟩
  go_wp2_with fail
  refine (alive_any _ HP.out hB).mono ?_
  rintro e w4 ⟨rfl, hb4⟩
  go_wp2
  go_ret
  exact ⟨rfl, hb4⟩

set_option maxHeartbeats 1000000 in
theorem timesOf_walk (a n : Int) (b : Bool) (w : World) (ha0 : -9223372036854775808 ≤ a) (ha1 : a ≤ 9223372036854775807) (hn0 : -9223372036854775808 ≤ n) (hn1 : n ≤ 9223372036854775807) (hp : Pows w) (hB : 0 < w.heap.size) :
    Calls Tryd.prog 7 #[.int .i64 a, .int .i64 n, .bool b] w fun e w' => e = .returned (.bool true) ∧ Below w.heap.size w w' := by
  have HP := Lib.hid hp
  clear hp
  go_enter Tryd.func7, Tryd.ntmps7
  go_wp2_with fail
  refine (milli_any _ _ _ _ (by omega) (by omega) (by omega) (by omega)).mono ?_
  rintro e w' ⟨rfl, rfl⟩
  go_wp2_with fail
  refine (refMilli_any _ _ _ _ (by omega) (by omega) (by omega) (by omega)).mono ?_
  rintro e w' ⟨rfl, rfl⟩
  go_wp2_with fail
  refine (alive_any _ HP.out hB).mono ?_
  rintro e w4 ⟨rfl, hb4⟩
  go_wp2
  go_ret
  exact ⟨rfl, hb4⟩

theorem parse_none (s : ByteArray) (w : World) (hs : s.size ≤ 9223372036854775807) (h : parseV s.data.toList = none) :
    Calls Tryd.prog 10 #[.string s] w fun e w' => e = .returned (.tuple #[.int .i64 0, .int .i64 10]) ∧ Below w.heap.size w w' :=
  (parse_any s w hs).mono fun e w' ⟨he, hb⟩ => ⟨by rw [he, h]; rfl, hb⟩
theorem parse_some (s : ByteArray) (n : Int) (w : World) (hs : s.size ≤ 9223372036854775807) (h : parseV s.data.toList = some n) :
    Calls Tryd.prog 10 #[.string s] w fun e w' => e = .returned (.tuple #[.int .i64 n, .int .i64 0]) ∧ Below w.heap.size w w' :=
  (parse_any s w hs).mono fun e w' ⟨he, hb⟩ => ⟨by rw [he, h]; rfl, hb⟩

theorem place_front (i n : Int) (h0 : 0 ≤ i) (h1 : i < n) : placeI i n = (i, true) := by
  unfold placeI; rw [if_neg (by omega), if_neg (by omega), if_pos h1]
theorem place_back (i n : Int) (h0 : 0 ≤ i) (h1 : i < n) : placeI (i - n) n = (i, true) := by
  unfold placeI; rw [if_neg (by omega), if_pos (by omega), if_pos (by omega)]
  congr 1; omega
theorem range_all (n : Int) (h : 1 ≤ n) : rangeI (-n) (-1) n = (0, n) := by
  have a : firstI (-n) n = 0 := by unfold firstI; rw [if_pos (by omega)]; omega
  have b : lastI (-1) n = n - 1 := by unfold lastI; rw [if_pos (by omega)]; omega
  unfold rangeI
  rw [if_neg (by omega), a, b, if_pos (by omega)]
  congr 1; omega

set_option maxHeartbeats 1000000 in
theorem ends_walk (i n : Int) (w : World) (hi0 : -9223372036854775808 ≤ i) (hi1 : i ≤ 9223372036854775807) (hn0 : -9223372036854775808 ≤ n) (hn1 : n ≤ 9223372036854775807) (hp : Pows w) (hB : 0 < w.heap.size) :
    Calls Tryd.prog 9 #[.int .i64 i, .int .i64 n] w fun e w' => e = .returned (.bool true) ∧ Below w.heap.size w w' := by
  have HP := Lib.hid hp
  clear hp
  by_cases hout : n < 1 ∨ i < 0 ∨ n ≤ i
  · by_cases h1 : n < 1 <;> by_cases h2 : i < 0
    all_goals
      go_enter Tryd.func9, Tryd.ntmps9
      go_wp2_with fail
      refine (alive_any _ HP.out hB).mono ?_
      rintro e w4 ⟨rfl, hb4⟩
      go_wp2
      go_ret
      exact ⟨rfl, hb4⟩
  · have a1 : 1 ≤ n := by omega
    have a2 : 0 ≤ i := by omega
    have a3 : i < n := by omega
    have E1 := Lib.hid (place_front i n a2 a3)
    have E2 := Lib.hid (place_back i n a2 a3)
    have E3 := Lib.hid (range_all n a1)
    clear hout
    go_enter Tryd.func9, Tryd.ntmps9
    go_wp2_with fail
    refine (place_any _ _ _ (by omega) (by omega) (by omega) (by omega)).mono ?_
    rintro e w' ⟨rfl, rfl⟩
    rw [E1.out]
    go_wp2_with fail
    refine (place_any _ _ _ (by omega) (by omega) (by omega) (by omega)).mono ?_
    rintro e w' ⟨rfl, rfl⟩
    rw [E2.out]
    go_wp2_with fail
    refine (range_any _ _ _ _ (by omega) (by omega) (by omega) (by omega) (by omega) (by omega)).mono ?_
    rintro e w' ⟨rfl, rfl⟩
    rw [E3.out]
    go_wp2_with fail
    refine (alive_any _ HP.out hB).mono ?_
    rintro e w4 ⟨rfl, hb4⟩
    go_wp2
    go_ret
    exact ⟨rfl, hb4⟩

theorem text_is (t : ByteArray) (b : Int) (h : parseV t.data.toList = some b) : t = ⟨(Lib.itoa b).toArray⟩ ∧ -9223372036854775808 ≤ b ∧ b ≤ 9223372036854775807 := by
  obtain ⟨h1, h2, h3⟩ := itoa_parse _ _ h
  refine ⟨?_, h2, h3⟩
  apply ByteArray.ext
  rw [h1]

set_option maxHeartbeats 1000000 in
theorem back_walk (n : Int) (s : ByteArray) (w : World) (hs : s.size ≤ 9223372036854775807) (hn0 : -9223372036854775808 ≤ n) (hn1 : n ≤ 9223372036854775807) (hp : Pows w) (hB : 0 < w.heap.size) :
    Calls Tryd.prog 8 #[.int .i64 n, .string s] w fun e w' => e = .returned (.bool true) ∧ Below w.heap.size w w' := by
  have HP := Lib.hid hp
  clear hp
  have hlen : (⟨(Lib.itoa n).toArray⟩ : ByteArray).size ≤ 9223372036854775807 := by
    have := Lib.itoa_length_le n hn0 hn1
    show (Lib.itoa n).toArray.size ≤ _
    rw [List.size_toArray]
    omega
  have HLEN := Lib.hid hlen
  clear hlen
  by_cases hl : 100 < s.size
  all_goals
    try have hc := cut_size s hl
    try (obtain ⟨t, ht⟩ : ∃ t, s.extract 0 100 = t := ⟨_, rfl⟩; rw [ht] at hc)
    go_enter Tryd.func8, Tryd.ntmps8
    go_wp2_with fail
    refine (text_any _ _ hn0 hn1 HP.out).mono ?_
    rintro e w1 ⟨rfl, hb1⟩
    have hp1 := Lib.hid (HP.out.on hb1 hB)
    have hz1 := hb1.size
    go_wp2_with fail
    refine (parse_some _ n _ HLEN.out (parse_itoa n hn0 hn1)).mono ?_
    rintro e w2 ⟨rfl, hb2⟩
    have hp2 := Lib.hid (hp1.out.on hb2 (by omega))
    have hz2 := hb2.size
    go_wp2_with fail
  · cases hv : parseV t.data.toList with
    | none =>
      have HV := Lib.hid hv
      clear hv
      refine (parse_none _ _ (by omega) HV.out).mono ?_
      rintro e w3 ⟨rfl, hb3⟩
      have hp3 := Lib.hid (hp2.out.on hb3 (by omega))
      have hz3 := hb3.size
      go_wp2_with fail
      refine (alive_any _ hp3.out (by omega)).mono ?_
      rintro e w4 ⟨rfl, hb4⟩
      go_wp2
      go_ret
      exact ⟨rfl, below_then (below_then (below_then hb1 hb2) hb3) hb4⟩
    | some b =>
      obtain ⟨rfl, b0, b1⟩ := text_is t b hv
      have HV := Lib.hid hv
      clear hv
      refine (parse_some _ b _ (by omega) HV.out).mono ?_
      rintro e w3 ⟨rfl, hb3⟩
      have hp3 := Lib.hid (hp2.out.on hb3 (by omega))
      have hz3 := hb3.size
      go_wp2_with fail
      refine (text_any _ _ b0 b1 hp3.out).mono ?_
      rintro e w4 ⟨rfl, hb4⟩
      have hp4 := Lib.hid (hp3.out.on hb4 (by omega))
      have hz4 := hb4.size
      go_wp2_with fail
      refine (alive_any _ hp4.out (by omega)).mono ?_
      rintro e w5 ⟨rfl, hb5⟩
      go_wp2
      go_ret
      exact ⟨rfl, below_then (below_then (below_then (below_then hb1 hb2) hb3) hb4) hb5⟩
  · cases hv : parseV s.data.toList with
    | none =>
      have HV := Lib.hid hv
      clear hv
      refine (parse_none _ _ (by omega) HV.out).mono ?_
      rintro e w3 ⟨rfl, hb3⟩
      have hp3 := Lib.hid (hp2.out.on hb3 (by omega))
      have hz3 := hb3.size
      go_wp2_with fail
      refine (alive_any _ hp3.out (by omega)).mono ?_
      rintro e w4 ⟨rfl, hb4⟩
      go_wp2
      go_ret
      exact ⟨rfl, below_then (below_then (below_then hb1 hb2) hb3) hb4⟩
    | some b =>
      obtain ⟨rfl, b0, b1⟩ := text_is s b hv
      have HV := Lib.hid hv
      clear hv
      refine (parse_some _ b _ (by omega) HV.out).mono ?_
      rintro e w3 ⟨rfl, hb3⟩
      have hp3 := Lib.hid (hp2.out.on hb3 (by omega))
      have hz3 := hb3.size
      go_wp2_with fail
      refine (text_any _ _ b0 b1 hp3.out).mono ?_
      rintro e w4 ⟨rfl, hb4⟩
      have hp4 := Lib.hid (hp3.out.on hb4 (by omega))
      have hz4 := hb4.size
      go_wp2_with fail
      refine (alive_any _ hp4.out (by omega)).mono ?_
      rintro e w5 ⟨rfl, hb5⟩
      go_wp2
      go_ret
      exact ⟨rfl, below_then (below_then (below_then (below_then hb1 hb2) hb3) hb4) hb5⟩

theorem take_getD (zs : List Int) (m j : Nat) (h : j < m) : (zs.take m).getD j 0 = zs.getD j 0 := by
  simp only [List.getD_eq_getElem?_getD, List.getElem?_take, h, if_true]
theorem take_range (zs : List Int) (m : Nat) (h : ∀ j, -9223372036854775808 ≤ zs.getD j 0 ∧ zs.getD j 0 ≤ 9223372036854775807) : ∀ j, -9223372036854775808 ≤ (zs.take m).getD j 0 ∧ (zs.take m).getD j 0 ≤ 9223372036854775807 := by
  intro j
  by_cases hj : j < m
  · rw [take_getD zs m j hj]; exact h j
  · simp only [List.getD_eq_getElem?_getD, List.getElem?_take, hj, if_false, Option.getD_none]; omega

set_option maxHeartbeats 1000000 in
theorem sums_walk (b off len cap : Nat) (zs : List Int) (w : World) (hz : len ≤ zs.length) (hlc : len ≤ cap) (hbig : cap ≤ 9223372036854775807) (hr : ∀ j, -9223372036854775808 ≤ zs.getD j 0 ∧ zs.getD j 0 ≤ 9223372036854775807)
    (hc : ∀ j, j < len → w.cell? ⟨b, off + j, none⟩ = some (.int .i64 (zs.getD j 0))) (hp : Pows w) (hB : 0 < w.heap.size) :
    Calls Tryd.prog 4 #[.slice (some ⟨b, off, none⟩) len cap] w fun e w' => e = .returned (.bool true) ∧ Below w.heap.size w w' := by
  have HP := Lib.hid hp
  have HC := Lib.hid hc
  have HR := Lib.hid hr
  clear hp hc hr
  by_cases hl : 100 < len
  · have hl2 : 100 ≤ cap := by omega
    go_enter Tryd.func4, Tryd.ntmps4
    go_wp2_with fail
    refine (sum_cells b off 100 _ (zs.take 100) _ (by rw [List.length_take]; omega) (by omega) (take_range zs 100 HR.out) (fun j hj => by rw [take_getD zs 100 j hj]; exact HC.out j (by omega))).mono ?_
    rintro e w' ⟨rfl, rfl⟩
    go_wp2_with fail
    refine (refSum_cells b off 100 _ (zs.take 100) _ (by rw [List.length_take]; omega) (by omega) (take_range zs 100 HR.out) (fun j hj => by rw [take_getD zs 100 j hj]; exact HC.out j (by omega))).mono ?_
    rintro e w' ⟨rfl, rfl⟩
    go_wp2_with fail
    refine (alive_any _ HP.out hB).mono ?_
    rintro e w4 ⟨rfl, hb4⟩
    go_wp2
    go_ret
    exact ⟨rfl, hb4⟩
  · go_enter Tryd.func4, Tryd.ntmps4
    go_wp2_with fail
    refine (sum_cells b off len _ (zs.take len) _ (by rw [List.length_take]; omega) (by omega) (take_range zs len HR.out) (fun j hj => by rw [take_getD zs len j hj]; exact HC.out j (by omega))).mono ?_
    rintro e w' ⟨rfl, rfl⟩
    go_wp2_with fail
    refine (refSum_cells b off len _ (zs.take len) _ (by rw [List.length_take]; omega) (by omega) (take_range zs len HR.out) (fun j hj => by rw [take_getD zs len j hj]; exact HC.out j (by omega))).mono ?_
    rintro e w' ⟨rfl, rfl⟩
    go_wp2_with fail
    refine (alive_any _ HP.out hB).mono ?_
    rintro e w4 ⟨rfl, hb4⟩
    go_wp2
    go_ret
    exact ⟨rfl, hb4⟩
set_option maxHeartbeats 1000000 in
theorem sums_empty (a : Option Addr) (cap : Nat) (w : World) (hp : Pows w) (hB : 0 < w.heap.size) :
    Calls Tryd.prog 4 #[.slice a 0 cap] w fun e w' => e = .returned (.bool true) ∧ Below w.heap.size w w' := by
  have HP := Lib.hid hp
  clear hp
  go_enter Tryd.func4, Tryd.ntmps4
  go_wp2_with fail
  refine (sum_empty a cap _).mono ?_
  rintro e w' ⟨rfl, rfl⟩
  go_wp2_with fail
  refine (refSum_empty a cap _).mono ?_
  rintro e w' ⟨rfl, rfl⟩
  go_wp2_with fail
  refine (alive_any _ HP.out hB).mono ?_
  rintro e w4 ⟨rfl, hb4⟩
  go_wp2
  go_ret
  exact ⟨rfl, hb4⟩

end Go.Proofs.YtcdkmhnkjcoplaaDoor
