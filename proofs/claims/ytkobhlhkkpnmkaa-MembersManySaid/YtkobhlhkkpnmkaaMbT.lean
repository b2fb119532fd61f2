/-
  MembersDraws, MembersSome walked. Conditions: the arguments lie in memory.
-/
import Derived.Test.YtkobhlhkkpnmkaaMbQ
import Derived.Test.YtkobhlhkkpnmkaaMbL
import Derived.Test.YtkobhlhkkpnmkaaMbR
import Derived.Deep.RegionHeld3
namespace Go.Proofs.Ytkobhlhkkpnmkaa
open Go.RowKit

theorem nodup_at {l : List Tx} (h : l.Nodup) {i : Nat} {x : Tx} (hx : l[i]? = some x) : ¬ x ∈ l.take i := fun hm => by
  obtain ⟨j, hj⟩ := List.mem_iff_getElem?.1 hm
  rw [List.getElem?_take] at hj
  split at hj
  · rename_i hlt
    obtain ⟨h1, e1⟩ := List.getElem?_eq_some_iff.1 hj
    obtain ⟨h2, e2⟩ := List.getElem?_eq_some_iff.1 hx
    exact List.pairwise_iff_getElem.1 h j i h1 h2 hlt (e1.trans e2.symm)
  · cases hj

theorem smX_len {L : List Tx} {p : Nat} (h : L.length = p) (hp : p ≤ 200) (n : Int) (d : Nat) : (smX L n d).length ≤ 4000000 := by
  by_cases hr : Ris L
  · by_cases hn : n < -1024 ∨ 65536 < n
    · rw [(smX_out hr hn d).1]; simp
    · obtain ⟨a, b, _⟩ := smX_law hr (n := n) (by omega) (by omega) d
      by_cases h0 : 0 ≤ n
      · have := a h0; omega
      · rcases Nat.eq_zero_or_pos L.length with q | q
        · obtain rfl : L = [] := List.eq_nil_of_length_eq_zero q
          rw [smX_nil hn]; simp
        · have := b (by omega) q; omega
  · rw [(smX_no hr n d).1]; simp

set_option maxRecDepth 100000 in
set_option maxHeartbeats 16000000 in
theorem draws1 {A : Option Addr} {n cp : Nat} {L : List Tx} (w : World) (h1 : TxAt w A n cp L) (x m : Int) (hm : (x < -100 ∧ -1024 ≤ x ∧ m = -100) ∨ (x < -1024 ∧ m = x) ∨ (-100 ≤ x ∧ m = x)) (d : Nat) (hd : d < 18446744073709551616) :
    Calls Try.prog 6 #[.slice A n cp, .int .i64 x, .int .u64 d] w fun e w' => e = .returned (.bool true) ∧ Below w.heap.size w w' := by
  have HF1 := Lib.hid (few_any w h1)
  obtain ⟨p, LL, hp, hp2, t1⟩ := few_tx h1
  rw [hp] at HF1
  obtain ⟨M, hM⟩ : ∃ M, w.heap.size = M := ⟨_, rfl⟩
  have HM := Lib.hid hM
  rw [hM]
  obtain ⟨PT, hPT⟩ : ∃ PT : ByteArray, (⟨(pkX LL d).toArray⟩ : ByteArray) = PT := ⟨_, rfl⟩
  obtain ⟨PB, hPB⟩ : ∃ PB, pkB LL = PB := ⟨_, rfl⟩
  obtain ⟨C, hC⟩ : ∃ C, ckX LL = C := ⟨_, rfl⟩
  obtain ⟨E, hE⟩ : ∃ E, smE LL m = E := ⟨_, rfl⟩
  have HP1 : Hid (∀ X, Below M w X → Calls Try.prog 30 #[.slice A p cp, .int .u64 d] X fun e w' => e = .returned (.tuple #[.string PT, .bool PB, .int .i64 C]) ∧ Below X.heap.size X w') := fun X hX => by rw [← hPT, ← hPB, ← hC]; rw [← hM] at hX; exact pick_any X (t1.below hX) (by omega) hd
  have HP2 : Hid (∀ X, Below M w X → Calls Try.prog 31 #[.slice A p cp, .int .u64 d] X fun e w' => e = .returned (.tuple #[.string PT, .bool PB, .int .i64 C]) ∧ Below X.heap.size X w') := fun X hX => by rw [← hPT, ← hPB, ← hC]; rw [← hM] at hX; exact rpick_any X (t1.below hX) (by omega) hd
  have HS1 : Hid (∀ X, Below M w X → Calls Try.prog 32 #[.slice A p cp, .int .i64 m, .int .u64 d] X fun e w' => ∃ A' k c', e = .returned (.tuple #[.slice A' k c', .int .i64 E]) ∧ TxAt w' A' k c' (smX LL m d) ∧ Below X.heap.size X w' ∧ Frh X.heap.size A') := fun X hX => by rw [← hE]; rw [← hM] at hX; exact some_any X (t1.below hX) (by omega) m hd
  have HS2 : Hid (∀ X, Below M w X → Calls Try.prog 33 #[.slice A p cp, .int .i64 m, .int .u64 d] X fun e w' => ∃ A' k c', e = .returned (.tuple #[.slice A' k c', .int .i64 E]) ∧ TxAt w' A' k c' (smX LL m d) ∧ Below X.heap.size X w') := fun X hX => by rw [← hE]; rw [← hM] at hX; exact rsome_any X (t1.below hX) (by omega) m hd
  have HOL := Lib.hid (smX_len t1.len hp2 m d)
  obtain ⟨O, hO⟩ : ∃ O, smX LL m d = O := ⟨_, rfl⟩
  rw [hO] at HS1 HS2 HOL
  clear h1 hp t1 hM hPT hPB hC hE hO
  rcases hm with ⟨q1, q2, rfl⟩ | ⟨q1, rfl⟩ | ⟨q1, rfl⟩
  all_goals
    first
      | (have q3 : ¬ x < -1024 := by omega)
      | (have q3 : m < -100 := (by omega); have q4 : ¬ -1024 ≤ m := (by omega))
      | (have q3 : ¬ m < -100 := by omega)
    go_enter Try.func6, Try.ntmps6
    go_wp2_with fail
    refine HF1.out.mono ?_
    rintro e w1 ⟨rfl, hw1⟩
    rw [hw1]
    clear hw1
    go_wp2_with fail
    refine (HP1.out w (Below.refl _ _)).mono ?_
    rintro e w1 ⟨rfl, hb1⟩
    have HB1 : Hid (Below M w w1) := by unfold Hid; rw [← HM.out]; exact hb1
    clear hb1
    go_wp2_with fail
    refine (HP2.out w1 HB1.out).mono ?_
    rintro e w2 ⟨rfl, hb2⟩
    have HB2 : Hid (Below M w w2) := HB1.out.trans (hb2.mono (by have := HB1.out.size; have := HM.out; omega))
    clear hb2
    go_wp2_with fail
    refine (HS1.out w2 HB2.out).mono ?_
    rintro e w3 ⟨A3, k3, c3, rfl, h3, hb3, _⟩
    have H3 := Lib.hid h3
    have HB3 : Hid (Below M w w3) := HB2.out.trans (hb3.mono (by have := HB2.out.size; have := HM.out; omega))
    clear h3 hb3
    go_wp2_with fail
    refine (HS2.out w3 HB3.out).mono ?_
    rintro e w4 ⟨A4, k4, c4, rfl, h4, hb4⟩
    obtain rfl : k3 = k4 := H3.out.len.symm.trans h4.len
    have H4 := Lib.hid h4
    have H34 := Lib.hid (H3.out.below hb4)
    have HB4 : Hid (Below M w w4) := HB3.out.trans (hb4.mono (by have := HB3.out.size; have := HM.out; omega))
    clear h4 hb4
    go_wp2_with fail
    refine (rsame_yes w4 H34.out H4.out (by have := HOL.out; have := H4.out.len; omega)).mono ?_
    rintro e w5 ⟨rfl, hb5⟩
    have HB5 : Hid (Below M w w5) := HB4.out.trans (hb5.mono (by have := HB4.out.size; have := HM.out; omega))
    clear hb5
    go_wp2_with fail
    refine (awake_any w5).mono ?_
    rintro e w8 ⟨rfl, hb8⟩
    have HB8 : Hid (Below M w w8) := HB5.out.trans (hb8.mono (by have := HB5.out.size; have := HM.out; omega))
    clear hb8
    go_wp2
    go_ret
    exact ⟨rfl, HB8.out⟩

theorem draws_any {A : Option Addr} {n cp : Nat} {L : List Tx} (w : World) (h1 : TxAt w A n cp L) (x z : Int) (_ : -9223372036854775808 ≤ x) (_ : x ≤ 9223372036854775807) (l2 : 0 ≤ z) (g2 : z ≤ 18446744073709551615) :
    Calls Try.prog 6 #[.slice A n cp, .int .i64 x, .int .u64 z] w fun e w' => e = .returned (.bool true) ∧ Below w.heap.size w w' := by
  obtain ⟨d, rfl⟩ : ∃ d : Nat, z = d := ⟨z.toNat, by omega⟩
  by_cases q : x < -100 ∧ -1024 ≤ x
  · exact draws1 w h1 x (-100) (Or.inl ⟨q.1, q.2, rfl⟩) d (by omega)
  · exact draws1 w h1 x x (by omega) d (by omega)

set_option maxRecDepth 100000 in
set_option maxHeartbeats 16000000 in
theorem some1 {A : Option Addr} {n cp : Nat} {L : List Tx} (w : World) (h1 : TxAt w A n cp L) (x m : Int) (hm : (x < -100 ∧ m = 3) ∨ (65536 < x ∧ ¬ x < -100 ∧ m = 3) ∨ (-100 ≤ x ∧ x ≤ 65536 ∧ m = x)) (d : Nat) (hd : d < 18446744073709551616) :
    Calls Try.prog 8 #[.slice A n cp, .int .i64 x, .int .u64 d] w fun e w' => e = .returned (.bool true) ∧ Below w.heap.size w w' := by
  have HF1 : Hid (∀ X, Below w.heap.size w X → Calls Try.prog 10 #[.slice A n cp] X fun e w' => e = .returned (.slice A (min n 200) cp) ∧ w' = X) := fun X hX => few_any X (h1.below hX)
  obtain ⟨p, LL, hp, hp2, t1⟩ := few_tx h1
  rw [hp] at HF1
  have HOF : Hid (∀ X, Below w.heap.size w X → Calls Try.prog 14 #[.slice A p cp] X fun e w' => ∃ A' c', e = .returned (.slice A' (ofX [] LL).length c') ∧ TxAt w' A' (ofX [] LL).length c' (ofX [] LL) ∧ Below X.heap.size X w' ∧ Frh X.heap.size A') := fun X hX => of_any X (t1.below hX) (by omega)
  have hris : Ris (ofX [] LL) := ofX_ris List.Pairwise.nil LL
  have hol := ofX_length [] LL
  rw [t1.len, List.length_nil] at hol
  obtain ⟨S, hS⟩ : ∃ S, ofX [] LL = S := ⟨_, rfl⟩
  rw [hS] at HOF hris hol
  obtain ⟨k, hk⟩ : ∃ k, S.length = k := ⟨_, rfl⟩
  rw [hk] at HOF hol
  have HK := Lib.hid hk
  have hbd : -1024 ≤ m ∧ m ≤ 65536 := by omega
  obtain ⟨y1, y2, y3, y4⟩ := smX_law hris hbd.1 hbd.2 d
  have HE : Hid (smE S m = 0) := smE_in hris (by omega)
  have hOl := smX_len (p := k) hk (by omega) m d
  obtain ⟨O, hO⟩ : ∃ O, smX S m d = O := ⟨_, rfl⟩
  have HO := Lib.hid hO
  rw [hO] at y1 y2 y3 y4 hOl
  rw [hk] at y1 y2
  have HIN := Lib.hid y3
  have HND := Lib.hid y4
  obtain ⟨o, ho⟩ : ∃ o, O.length = o := ⟨_, rfl⟩
  rw [ho] at y1 y2 hOl
  have HOO := Lib.hid ho
  have hcase : (0 ≤ m ∧ (o : Int) = min m (k : Int)) ∨ (m < 0 ∧ 0 < k ∧ (o : Int) = -m) ∨ (m < 0 ∧ Hid (k = 0 ∧ o = 0)) := by
    by_cases q : 0 ≤ m
    · exact Or.inl ⟨q, y1 q⟩
    · rcases Nat.eq_zero_or_pos k with q2 | q2
      · exact Or.inr (Or.inr ⟨by omega, q2, by
        rcases Nat.eq_zero_or_pos o with e | e
        · exact e
        · exfalso
          obtain ⟨x, hx⟩ : ∃ x, x ∈ O := ⟨_, List.getElem_mem (n := 0) (by omega)⟩
          have hxS := y3 x hx
          rw [List.eq_nil_of_length_eq_zero (hk.trans q2)] at hxS
          cases hxS⟩)
      · exact Or.inr (Or.inl ⟨by omega, q2, y2 (by omega) q2⟩)
  obtain ⟨M, hM⟩ : ∃ M, w.heap.size = M := ⟨_, rfl⟩
  have HM := Lib.hid hM
  rw [hM] at HF1 HOF ⊢
  clear h1 hp t1 hM hS hk hO y1 y2 y3 y4 ho hris
  rcases hm with ⟨q1, rfl⟩ | ⟨q1, q2, rfl⟩ | ⟨q1, q2, hq⟩
  · have q3 : x < -100 := q1
    go_enter Try.func8, Try.ntmps8
    go_wp2_with fail
    refine (awake_any w).mono ?_
    rintro e w1 ⟨rfl, hb1⟩
    have HB1 : Hid (Below M w w1) := by unfold Hid; rw [← HM.out]; exact hb1
    clear hb1
    go_wp2_with fail
    refine (HF1.out w1 HB1.out).mono ?_
    rintro e w2 ⟨rfl, hw2⟩
    rw [hw2]
    clear hw2
    go_wp2_with fail
    refine (HOF.out w1 HB1.out).mono ?_
    rintro e w2 ⟨A2, c2, rfl, h2, hb2, _⟩
    have H2 := Lib.hid h2
    have HB2 : Hid (Below M w w2) := HB1.out.trans (hb2.mono (by have := HB1.out.size; have := HM.out; omega))
    clear h2 hb2
    go_wp2_with fail
    refine (some_any w2 H2.out (by omega) _ hd).mono ?_
    rw [HE.out, HO.out]
    rintro e w3 ⟨A3, k3, c3, rfl, h3, hb3, _⟩
    obtain rfl : o = k3 := HOO.out.symm.trans h3.len
    have H3 := Lib.hid h3
    have H23 := Lib.hid (H2.out.below hb3)
    have HB3 : Hid (Below M w w3) := HB2.out.trans (hb3.mono (by have := HB2.out.size; have := HM.out; omega))
    clear h3 hb3
    obtain ⟨r1, r2⟩ : 0 ≤ (3 : Int) ∧ (o : Int) = min 3 (k : Int) := by omega
    have hmin := r2.symm
    have hng := Int.not_lt.2 r1
    clear r2
    go_wp2_with fail
    go_loopw [9] (fun iv wr => ∃ i : Nat, iv = .int .i64 i ∧ i ≤ o ∧ Below M w wr ∧ Below w3.heap.size w3 wr) (fun iv _ => o - (intOf iv).toNat)
    case atStart => exact ⟨0, rfl, Nat.zero_le _, HB3.out, Below.refl _ _⟩
    case round =>
      obtain ⟨i, rfl, hi, hb, hb3⟩ := hrel
      have HB := Lib.hid hb
      have HB33 := Lib.hid hb3
      by_cases hlt : i < o
      · obtain ⟨y, hy⟩ := H3.out.get (j := i) hlt
        have t3 := H3.out.below hb3
        have hle3 := t3.le
        have hmx3 := t3.max
        obtain ⟨b, of, rfl, hbl, hc⟩ := t3.at_ (by omega)
        have c0 := hc i y hy
        have hlt' : (i : Int) < (o : Int) := by omega
        have hi0 : (0 : Int) ≤ (i : Int) := by omega
        have hic : (i : Int) ≤ (c3 : Int) := by omega
        have hmem : y ∈ O := List.mem_of_getElem? hy
        have HI1 : Hid (∀ X, Below wr.heap.size wr X → Calls Try.prog 34 #[.slice A2 k c2, .string ⟨y.toArray⟩] X fun e w' => e = .returned (.bool true) ∧ Below X.heap.size X w') := fun X hX => by
          refine (rin_any X ((H23.out.below hb3).below hX) (by omega) y).mono ?_
          rintro e w' ⟨rfl, rfl⟩
          exact ⟨by rw [decide_eq_true (HIN.out y hmem)], Below.refl _ _⟩
        have HI2 : Hid (∀ X, Below wr.heap.size wr X → Calls Try.prog 34 #[.slice (some ⟨b, of, none⟩) i c3, .string ⟨y.toArray⟩] X fun e w' => e = .returned (.bool false) ∧ Below X.heap.size X w') := fun X hX => by
          refine (rin_any X (((H3.out.below hb3).below hX).first (by omega)) (by omega) y).mono ?_
          rintro e w' ⟨rfl, rfl⟩
          exact ⟨by rw [decide_eq_false (nodup_at (HND.out (by omega)) hy)], Below.refl _ _⟩
        obtain ⟨T, hT⟩ : ∃ T : ByteArray, (⟨y.toArray⟩ : ByteArray) = T := ⟨_, rfl⟩
        rw [hT] at c0 HI1 HI2
        have HS : Hid (∀ X, Below wr.heap.size wr X → Below wr.heap.size wr X ∧ X.cell? ⟨b, of + i, none⟩ = some (.string T)) := fun X hX => ⟨hX, (hX.cell (p := ⟨b, of + i, none⟩) hbl).trans c0⟩
        have H0 : Hid (Below wr.heap.size wr wr) := Below.refl _ _
        clear hc hy hb hb3 t3 hmem hT
        go_wp2_with fail
        go_region_held3 (fun X => Below wr.heap.size wr X ∧ X.cell? ⟨b, of + i, none⟩ = some (.string T))
          (first | exact HS.out _ HC2.out | exact HS.out _ HC1.out | exact HS.out _ H0.out.drew | exact HS.out _ H0.out)
          (first
            | (have qq := HC1; clear qq; go_at_call 34; refine Calls.mono (HI2.out _ (by first | exact HC1.out | exact HC1.out.drew)) ?_; rintro en x2 ⟨rfl, hq⟩; have HC2 : Hid (Below wr.heap.size wr x2) := (by first | exact bup HC1.out hq | exact bup HC1.out.drew hq); clear hq)
            | (go_at_call 34; refine Calls.mono (HI1.out _ (by first | exact H0.out.drew | exact H0.out)) ?_; rintro en x1 ⟨rfl, hq⟩; have HC1 : Hid (Below wr.heap.size wr x1) := (by first | exact bup H0.out hq | exact (Below.refl _ _).drew.trans hq); clear hq))
        all_goals
          go_wp2
          go_roundw
          case rel => exact ⟨i + 1, by go_num, hlt, HB.out.trans (HC2.out.mono (by have := HB.out.size; have := HM.out; omega)), bup HB33.out HC2.out⟩
          case measure => simp only [intOf]; omega
      · have hge : ¬ (i : Int) < (o : Int) := by omega
        clear hb hb3
        go_wp2
        go_ret
        exact ⟨rfl, HB.out⟩
  · have q3 : ¬ x < -100 := q2
    go_enter Try.func8, Try.ntmps8
    go_wp2_with fail
    refine (awake_any w).mono ?_
    rintro e w1 ⟨rfl, hb1⟩
    have HB1 : Hid (Below M w w1) := by unfold Hid; rw [← HM.out]; exact hb1
    clear hb1
    go_wp2_with fail
    refine (HF1.out w1 HB1.out).mono ?_
    rintro e w2 ⟨rfl, hw2⟩
    rw [hw2]
    clear hw2
    go_wp2_with fail
    refine (HOF.out w1 HB1.out).mono ?_
    rintro e w2 ⟨A2, c2, rfl, h2, hb2, _⟩
    have H2 := Lib.hid h2
    have HB2 : Hid (Below M w w2) := HB1.out.trans (hb2.mono (by have := HB1.out.size; have := HM.out; omega))
    clear h2 hb2
    go_wp2_with fail
    refine (some_any w2 H2.out (by omega) _ hd).mono ?_
    rw [HE.out, HO.out]
    rintro e w3 ⟨A3, k3, c3, rfl, h3, hb3, _⟩
    obtain rfl : o = k3 := HOO.out.symm.trans h3.len
    have H3 := Lib.hid h3
    have H23 := Lib.hid (H2.out.below hb3)
    have HB3 : Hid (Below M w w3) := HB2.out.trans (hb3.mono (by have := HB2.out.size; have := HM.out; omega))
    clear h3 hb3
    obtain ⟨r1, r2⟩ : 0 ≤ (3 : Int) ∧ (o : Int) = min 3 (k : Int) := by omega
    have hmin := r2.symm
    have hng := Int.not_lt.2 r1
    clear r2
    go_wp2_with fail
    go_loopw [9] (fun iv wr => ∃ i : Nat, iv = .int .i64 i ∧ i ≤ o ∧ Below M w wr ∧ Below w3.heap.size w3 wr) (fun iv _ => o - (intOf iv).toNat)
    case atStart => exact ⟨0, rfl, Nat.zero_le _, HB3.out, Below.refl _ _⟩
    case round =>
      obtain ⟨i, rfl, hi, hb, hb3⟩ := hrel
      have HB := Lib.hid hb
      have HB33 := Lib.hid hb3
      by_cases hlt : i < o
      · obtain ⟨y, hy⟩ := H3.out.get (j := i) hlt
        have t3 := H3.out.below hb3
        have hle3 := t3.le
        have hmx3 := t3.max
        obtain ⟨b, of, rfl, hbl, hc⟩ := t3.at_ (by omega)
        have c0 := hc i y hy
        have hlt' : (i : Int) < (o : Int) := by omega
        have hi0 : (0 : Int) ≤ (i : Int) := by omega
        have hic : (i : Int) ≤ (c3 : Int) := by omega
        have hmem : y ∈ O := List.mem_of_getElem? hy
        have HI1 : Hid (∀ X, Below wr.heap.size wr X → Calls Try.prog 34 #[.slice A2 k c2, .string ⟨y.toArray⟩] X fun e w' => e = .returned (.bool true) ∧ Below X.heap.size X w') := fun X hX => by
          refine (rin_any X ((H23.out.below hb3).below hX) (by omega) y).mono ?_
          rintro e w' ⟨rfl, rfl⟩
          exact ⟨by rw [decide_eq_true (HIN.out y hmem)], Below.refl _ _⟩
        have HI2 : Hid (∀ X, Below wr.heap.size wr X → Calls Try.prog 34 #[.slice (some ⟨b, of, none⟩) i c3, .string ⟨y.toArray⟩] X fun e w' => e = .returned (.bool false) ∧ Below X.heap.size X w') := fun X hX => by
          refine (rin_any X (((H3.out.below hb3).below hX).first (by omega)) (by omega) y).mono ?_
          rintro e w' ⟨rfl, rfl⟩
          exact ⟨by rw [decide_eq_false (nodup_at (HND.out (by omega)) hy)], Below.refl _ _⟩
        obtain ⟨T, hT⟩ : ∃ T : ByteArray, (⟨y.toArray⟩ : ByteArray) = T := ⟨_, rfl⟩
        rw [hT] at c0 HI1 HI2
        have HS : Hid (∀ X, Below wr.heap.size wr X → Below wr.heap.size wr X ∧ X.cell? ⟨b, of + i, none⟩ = some (.string T)) := fun X hX => ⟨hX, (hX.cell (p := ⟨b, of + i, none⟩) hbl).trans c0⟩
        have H0 : Hid (Below wr.heap.size wr wr) := Below.refl _ _
        clear hc hy hb hb3 t3 hmem hT
        go_wp2_with fail
        go_region_held3 (fun X => Below wr.heap.size wr X ∧ X.cell? ⟨b, of + i, none⟩ = some (.string T))
          (first | exact HS.out _ HC2.out | exact HS.out _ HC1.out | exact HS.out _ H0.out.drew | exact HS.out _ H0.out)
          (first
            | (have qq := HC1; clear qq; go_at_call 34; refine Calls.mono (HI2.out _ (by first | exact HC1.out | exact HC1.out.drew)) ?_; rintro en x2 ⟨rfl, hq⟩; have HC2 : Hid (Below wr.heap.size wr x2) := (by first | exact bup HC1.out hq | exact bup HC1.out.drew hq); clear hq)
            | (go_at_call 34; refine Calls.mono (HI1.out _ (by first | exact H0.out.drew | exact H0.out)) ?_; rintro en x1 ⟨rfl, hq⟩; have HC1 : Hid (Below wr.heap.size wr x1) := (by first | exact bup H0.out hq | exact (Below.refl _ _).drew.trans hq); clear hq))
        all_goals
          go_wp2
          go_roundw
          case rel => exact ⟨i + 1, by go_num, hlt, HB.out.trans (HC2.out.mono (by have := HB.out.size; have := HM.out; omega)), bup HB33.out HC2.out⟩
          case measure => simp only [intOf]; omega
      · have hge : ¬ (i : Int) < (o : Int) := by omega
        clear hb hb3
        go_wp2
        go_ret
        exact ⟨rfl, HB.out⟩
  · subst hq
    have q3 : ¬ m < -100 := by omega
    have q4 : ¬ 65536 < m := by omega
    rcases hcase with ⟨r1, r2⟩ | ⟨r1, r2, r3⟩ | ⟨r1, r2⟩
    · go_enter Try.func8, Try.ntmps8
      go_wp2_with fail
      refine (awake_any w).mono ?_
      rintro e w1 ⟨rfl, hb1⟩
      have HB1 : Hid (Below M w w1) := by unfold Hid; rw [← HM.out]; exact hb1
      clear hb1
      go_wp2_with fail
      refine (HF1.out w1 HB1.out).mono ?_
      rintro e w2 ⟨rfl, hw2⟩
      rw [hw2]
      clear hw2
      go_wp2_with fail
      refine (HOF.out w1 HB1.out).mono ?_
      rintro e w2 ⟨A2, c2, rfl, h2, hb2, _⟩
      have H2 := Lib.hid h2
      have HB2 : Hid (Below M w w2) := HB1.out.trans (hb2.mono (by have := HB1.out.size; have := HM.out; omega))
      clear h2 hb2
      go_wp2_with fail
      refine (some_any w2 H2.out (by omega) _ hd).mono ?_
      rw [HE.out, HO.out]
      rintro e w3 ⟨A3, k3, c3, rfl, h3, hb3, _⟩
      obtain rfl : o = k3 := HOO.out.symm.trans h3.len
      have H3 := Lib.hid h3
      have H23 := Lib.hid (H2.out.below hb3)
      have HB3 : Hid (Below M w w3) := HB2.out.trans (hb3.mono (by have := HB2.out.size; have := HM.out; omega))
      clear h3 hb3
      have hmin := r2.symm
      have hng := Int.not_lt.2 r1
      clear r2
      go_wp2_with fail
      go_loopw [9] (fun iv wr => ∃ i : Nat, iv = .int .i64 i ∧ i ≤ o ∧ Below M w wr ∧ Below w3.heap.size w3 wr) (fun iv _ => o - (intOf iv).toNat)
      case atStart => exact ⟨0, rfl, Nat.zero_le _, HB3.out, Below.refl _ _⟩
      case round =>
        obtain ⟨i, rfl, hi, hb, hb3⟩ := hrel
        have HB := Lib.hid hb
        have HB33 := Lib.hid hb3
        by_cases hlt : i < o
        · obtain ⟨y, hy⟩ := H3.out.get (j := i) hlt
          have t3 := H3.out.below hb3
          have hle3 := t3.le
          have hmx3 := t3.max
          obtain ⟨b, of, rfl, hbl, hc⟩ := t3.at_ (by omega)
          have c0 := hc i y hy
          have hlt' : (i : Int) < (o : Int) := by omega
          have hi0 : (0 : Int) ≤ (i : Int) := by omega
          have hic : (i : Int) ≤ (c3 : Int) := by omega
          have hmem : y ∈ O := List.mem_of_getElem? hy
          have HI1 : Hid (∀ X, Below wr.heap.size wr X → Calls Try.prog 34 #[.slice A2 k c2, .string ⟨y.toArray⟩] X fun e w' => e = .returned (.bool true) ∧ Below X.heap.size X w') := fun X hX => by
            refine (rin_any X ((H23.out.below hb3).below hX) (by omega) y).mono ?_
            rintro e w' ⟨rfl, rfl⟩
            exact ⟨by rw [decide_eq_true (HIN.out y hmem)], Below.refl _ _⟩
          have HI2 : Hid (∀ X, Below wr.heap.size wr X → Calls Try.prog 34 #[.slice (some ⟨b, of, none⟩) i c3, .string ⟨y.toArray⟩] X fun e w' => e = .returned (.bool false) ∧ Below X.heap.size X w') := fun X hX => by
            refine (rin_any X (((H3.out.below hb3).below hX).first (by omega)) (by omega) y).mono ?_
            rintro e w' ⟨rfl, rfl⟩
            exact ⟨by rw [decide_eq_false (nodup_at (HND.out (by omega)) hy)], Below.refl _ _⟩
          obtain ⟨T, hT⟩ : ∃ T : ByteArray, (⟨y.toArray⟩ : ByteArray) = T := ⟨_, rfl⟩
          rw [hT] at c0 HI1 HI2
          have HS : Hid (∀ X, Below wr.heap.size wr X → Below wr.heap.size wr X ∧ X.cell? ⟨b, of + i, none⟩ = some (.string T)) := fun X hX => ⟨hX, (hX.cell (p := ⟨b, of + i, none⟩) hbl).trans c0⟩
          have H0 : Hid (Below wr.heap.size wr wr) := Below.refl _ _
          clear hc hy hb hb3 t3 hmem hT
          go_wp2_with fail
          go_region_held3 (fun X => Below wr.heap.size wr X ∧ X.cell? ⟨b, of + i, none⟩ = some (.string T))
            (first | exact HS.out _ HC2.out | exact HS.out _ HC1.out | exact HS.out _ H0.out.drew | exact HS.out _ H0.out)
            (first
              | (have qq := HC1; clear qq; go_at_call 34; refine Calls.mono (HI2.out _ (by first | exact HC1.out | exact HC1.out.drew)) ?_; rintro en x2 ⟨rfl, hq⟩; have HC2 : Hid (Below wr.heap.size wr x2) := (by first | exact bup HC1.out hq | exact bup HC1.out.drew hq); clear hq)
              | (go_at_call 34; refine Calls.mono (HI1.out _ (by first | exact H0.out.drew | exact H0.out)) ?_; rintro en x1 ⟨rfl, hq⟩; have HC1 : Hid (Below wr.heap.size wr x1) := (by first | exact bup H0.out hq | exact (Below.refl _ _).drew.trans hq); clear hq))
          all_goals
            go_wp2
            go_roundw
            case rel => exact ⟨i + 1, by go_num, hlt, HB.out.trans (HC2.out.mono (by have := HB.out.size; have := HM.out; omega)), bup HB33.out HC2.out⟩
            case measure => simp only [intOf]; omega
        · have hge : ¬ (i : Int) < (o : Int) := by omega
          clear hb hb3
          go_wp2
          go_ret
          exact ⟨rfl, HB.out⟩
    · go_enter Try.func8, Try.ntmps8
      go_wp2_with fail
      refine (awake_any w).mono ?_
      rintro e w1 ⟨rfl, hb1⟩
      have HB1 : Hid (Below M w w1) := by unfold Hid; rw [← HM.out]; exact hb1
      clear hb1
      go_wp2_with fail
      refine (HF1.out w1 HB1.out).mono ?_
      rintro e w2 ⟨rfl, hw2⟩
      rw [hw2]
      clear hw2
      go_wp2_with fail
      refine (HOF.out w1 HB1.out).mono ?_
      rintro e w2 ⟨A2, c2, rfl, h2, hb2, _⟩
      have H2 := Lib.hid h2
      have HB2 : Hid (Below M w w2) := HB1.out.trans (hb2.mono (by have := HB1.out.size; have := HM.out; omega))
      clear h2 hb2
      go_wp2_with fail
      refine (some_any w2 H2.out (by omega) _ hd).mono ?_
      rw [HE.out, HO.out]
      rintro e w3 ⟨A3, k3, c3, rfl, h3, hb3, _⟩
      obtain rfl : o = k3 := HOO.out.symm.trans h3.len
      have H3 := Lib.hid h3
      have H23 := Lib.hid (H2.out.below hb3)
      have HB3 : Hid (Below M w w3) := HB2.out.trans (hb3.mono (by have := HB2.out.size; have := HM.out; omega))
      clear h3 hb3
      have hk0 : (0 : Int) < (k : Int) := (by omega)
      have hwn : IntKind.i64.wrap (-m) = (o : Int) := (by rw [IntWalk.i64_in _ (by omega)]; omega)
      have hn0 : ¬ 0 ≤ m := (by omega)
      have hdn : decide (0 ≤ m) = false := (decide_eq_false hn0)
      clear r3
      go_wp2_with fail
      go_loopw [9] (fun iv wr => ∃ i : Nat, iv = .int .i64 i ∧ i ≤ o ∧ Below M w wr ∧ Below w3.heap.size w3 wr) (fun iv _ => o - (intOf iv).toNat)
      case atStart => exact ⟨0, rfl, Nat.zero_le _, HB3.out, Below.refl _ _⟩
      case round =>
        obtain ⟨i, rfl, hi, hb, hb3⟩ := hrel
        have HB := Lib.hid hb
        have HB33 := Lib.hid hb3
        by_cases hlt : i < o
        · obtain ⟨y, hy⟩ := H3.out.get (j := i) hlt
          have t3 := H3.out.below hb3
          have hle3 := t3.le
          have hmx3 := t3.max
          obtain ⟨b, of, rfl, hbl, hc⟩ := t3.at_ (by omega)
          have c0 := hc i y hy
          have hlt' : (i : Int) < (o : Int) := by omega
          have hi0 : (0 : Int) ≤ (i : Int) := by omega
          have hic : (i : Int) ≤ (c3 : Int) := by omega
          have hmem : y ∈ O := List.mem_of_getElem? hy
          have HI1 : Hid (∀ X, Below wr.heap.size wr X → Calls Try.prog 34 #[.slice A2 k c2, .string ⟨y.toArray⟩] X fun e w' => e = .returned (.bool true) ∧ Below X.heap.size X w') := fun X hX => by
            refine (rin_any X ((H23.out.below hb3).below hX) (by omega) y).mono ?_
            rintro e w' ⟨rfl, rfl⟩
            exact ⟨by rw [decide_eq_true (HIN.out y hmem)], Below.refl _ _⟩
          obtain ⟨T, hT⟩ : ∃ T : ByteArray, (⟨y.toArray⟩ : ByteArray) = T := ⟨_, rfl⟩
          rw [hT] at c0 HI1
          have HS : Hid (∀ X, Below wr.heap.size wr X → Below wr.heap.size wr X ∧ X.cell? ⟨b, of + i, none⟩ = some (.string T)) := fun X hX => ⟨hX, (hX.cell (p := ⟨b, of + i, none⟩) hbl).trans c0⟩
          have H0 : Hid (Below wr.heap.size wr wr) := Below.refl _ _
          clear hc hy hb hb3 t3 hmem hT
          go_wp2_with fail
          refine wp_region_any (by kernel_rfl) ?_
          change wpAny _ _ _ _ _ _ _ (World.drew _)
          refine wpAny_take (i := 0) (v := ?v0) rfl (by kernel_rfl) (by kernel_rfl) (by kernel_rfl) (fun _ _ _ h => h) (Or.inl ⟨by kernel_rfl, ?h0⟩) ?r0
          case h0 => (intro w; go_simp; try with_reducible rfl)
          simp only [Act.put]
          refine wpAny_take (i := 1) (v := ?v1) rfl (by kernel_rfl) (by kernel_rfl) (by kernel_rfl) (fun _ _ _ h => h) (Or.inl ⟨by kernel_rfl, ?h1⟩) ?r1
          case h1 => (intro w; go_simp; try with_reducible rfl)
          simp only [Act.put]
          refine wpAny_take (i := 2) (v := ?v2) rfl (by kernel_rfl) (by kernel_rfl) (by kernel_rfl) (fun _ _ _ h => h) (Or.inl ⟨by kernel_rfl, ?h2⟩) ?r2
          case h2 => (intro w; go_simp; try with_reducible rfl)
          simp only [Act.put]
          refine wpAny_take (i := 3) (v := ?v3) rfl (by kernel_rfl) (by kernel_rfl) (by kernel_rfl) (fun _ _ _ h => h) (Or.inl ⟨by kernel_rfl, ?h3⟩) ?r3
          case h3 => (intro w; go_simp; try with_reducible rfl)
          simp only [Act.put]
          refine wpAny_ready (rs := [4]) (by kernel_rfl) (by simp) ?_
          refine AllReady.cons rfl (fun K hK => ?_) AllReady.nil
          go_simp
          refine hK _ _ ?_
          clear hK K
          refine wpAny_ready (rs := [5]) (by kernel_rfl) (by simp) ?_
          refine AllReady.cons rfl (fun K hK => ?_) AllReady.nil
          go_simp
          refine (HI1.out _ H0.out.drew).mono ?_
          rintro en x1 ⟨rfl, hq⟩
          have HC1 : Hid (Below wr.heap.size wr x1) := (Below.refl _ _).drew.trans hq
          clear hq
          refine hK _ _ ?_
          clear hK K
          refine wpAny_take (i := 6) (v := ?v6) rfl (by kernel_rfl) (by kernel_rfl) (by kernel_rfl) (fun _ _ _ h => h) (Or.inl ⟨by kernel_rfl, ?h6⟩) ?r6
          case h6 => (intro w; go_simp; try with_reducible rfl)
          simp only [Act.put]
          refine wpAny_take (i := 7) (v := ?v7) rfl (by kernel_rfl) (by kernel_rfl) (by kernel_rfl) (fun _ _ _ h => h) (Or.inl ⟨by kernel_rfl, ?h7⟩) ?r7
          case h7 => (intro w; go_simp; try with_reducible rfl)
          simp only [Act.put]
          refine wpAny_take (i := 8) (v := ?v8) rfl (by kernel_rfl) (by kernel_rfl) (by kernel_rfl) (fun _ _ _ h => h) (Or.inl ⟨by kernel_rfl, ?h8⟩) ?r8
          case h8 => (intro w; go_simp; try with_reducible rfl)
          simp only [Act.put]
          refine wpAny_take (i := 9) (v := ?v9) rfl (by kernel_rfl) (by kernel_rfl) (by kernel_rfl) (fun _ _ _ h => h) (Or.inl ⟨by kernel_rfl, ?h9⟩) ?r9
          case h9 => (intro w; go_simp; try with_reducible rfl)
          simp only [Act.put]
          refine wpAny_take (i := 10) (v := ?v10) rfl (by kernel_rfl) (by kernel_rfl) (by kernel_rfl) (fun _ _ _ h => h) (Or.inl ⟨by kernel_rfl, ?h10⟩) ?r10
          case h10 => (intro w; go_simp; try with_reducible rfl)
          simp only [Act.put]
          refine wpAny_take (i := 11) (v := undef) rfl (by kernel_rfl) (by kernel_rfl) (by kernel_rfl) (fun _ _ _ h => h) (Or.inr ⟨by kernel_rfl, rfl⟩) ?_
          simp only [Act.put]
          refine wpAny_take (i := 12) (v := undef) rfl (by kernel_rfl) (by kernel_rfl) (by kernel_rfl) (fun _ _ _ h => h) (Or.inr ⟨by kernel_rfl, rfl⟩) ?_
          simp only [Act.put]
          refine wpAny_take (i := 13) (v := undef) rfl (by kernel_rfl) (by kernel_rfl) (by kernel_rfl) (fun _ _ _ h => h) (Or.inr ⟨by kernel_rfl, rfl⟩) ?_
          simp only [Act.put]
          refine wpAny_take (i := 14) (v := undef) rfl (by kernel_rfl) (by kernel_rfl) (by kernel_rfl) (fun _ _ _ h => h) (Or.inr ⟨by kernel_rfl, rfl⟩) ?_
          simp only [Act.put]
          refine wpAny_take (i := 15) (v := undef) rfl (by kernel_rfl) (by kernel_rfl) (by kernel_rfl) (fun _ _ _ h => h) (Or.inr ⟨by kernel_rfl, rfl⟩) ?_
          simp only [Act.put]
          refine wpAny_take (i := 16) (v := undef) rfl (by kernel_rfl) (by kernel_rfl) (by kernel_rfl) (fun _ _ _ h => h) (Or.inr ⟨by kernel_rfl, rfl⟩) ?_
          simp only [Act.put]
          refine wpAny_take (i := 17) (v := undef) rfl (by kernel_rfl) (by kernel_rfl) (by kernel_rfl) (fun _ _ _ h => h) (Or.inr ⟨by kernel_rfl, rfl⟩) ?_
          simp only [Act.put]
          refine wpAny_take (i := 18) (v := undef) rfl (by kernel_rfl) (by kernel_rfl) (by kernel_rfl) (fun _ _ _ h => h) (Or.inr ⟨by kernel_rfl, rfl⟩) ?_
          simp only [Act.put]
          refine wpAny_take (i := 19) (v := ?v19) rfl (by kernel_rfl) (by kernel_rfl) (by kernel_rfl) (fun _ _ _ h => h) (Or.inl ⟨by kernel_rfl, ?h19⟩) ?r19
          case h19 => (intro w; go_simp; try with_reducible rfl)
          simp only [Act.put]
          refine wpAny_take (i := 20) (v := ?v20) rfl (by kernel_rfl) (by kernel_rfl) (by kernel_rfl) (fun _ _ _ h => h) (Or.inl ⟨by kernel_rfl, ?h20⟩) ?r20
          case h20 => (intro w; go_simp; try with_reducible rfl)
          simp only [Act.put]
          refine wpAny_done (by kernel_rfl) ?_ _
          go_simp
          all_goals
            go_wp2
            go_roundw
            case rel => exact ⟨i + 1, by go_num, hlt, HB.out.trans (HC1.out.mono (by have := HB.out.size; have := HM.out; omega)), bup HB33.out HC1.out⟩
            case measure => simp only [intOf]; omega
        · have hge : ¬ (i : Int) < (o : Int) := by omega
          clear hb hb3
          go_wp2
          go_ret
          exact ⟨rfl, HB.out⟩
    · go_enter Try.func8, Try.ntmps8
      go_wp2_with fail
      refine (awake_any w).mono ?_
      rintro e w1 ⟨rfl, hb1⟩
      have HB1 : Hid (Below M w w1) := by unfold Hid; rw [← HM.out]; exact hb1
      clear hb1
      go_wp2_with fail
      refine (HF1.out w1 HB1.out).mono ?_
      rintro e w2 ⟨rfl, hw2⟩
      rw [hw2]
      clear hw2
      go_wp2_with fail
      refine (HOF.out w1 HB1.out).mono ?_
      rintro e w2 ⟨A2, c2, rfl, h2, hb2, _⟩
      have H2 := Lib.hid h2
      have HB2 : Hid (Below M w w2) := HB1.out.trans (hb2.mono (by have := HB1.out.size; have := HM.out; omega))
      clear h2 hb2
      go_wp2_with fail
      refine (some_any w2 H2.out (by omega) _ hd).mono ?_
      rw [HE.out, HO.out]
      rintro e w3 ⟨A3, k3, c3, rfl, h3, hb3, _⟩
      obtain rfl : o = k3 := HOO.out.symm.trans h3.len
      have H3 := Lib.hid h3
      have H23 := Lib.hid (H2.out.below hb3)
      have HB3 : Hid (Below M w w3) := HB2.out.trans (hb3.mono (by have := HB2.out.size; have := HM.out; omega))
      clear h3 hb3
      have HR2 := Lib.hid r2.out
      have hk0 : ¬ (0 : Int) < (k : Int) := by have := HR2.out.1; omega
      have hge : ¬ (0 : Int) < (o : Int) := by have := HR2.out.2; omega
      have hn0 : ¬ 0 ≤ m := by omega
      have hdn : decide (0 ≤ m) = false := decide_eq_false hn0
      clear r2
      go_wp2_with fail
      go_loopw [9] (fun iv wr => iv = .int .i64 0 ∧ wr = w3) (fun _ _ => 0)
      case atStart => exact ⟨rfl, rfl⟩
      case round =>
        obtain ⟨rfl, rfl⟩ := hrel
        go_wp2
        go_ret
        exact ⟨rfl, HB3.out⟩

end Go.Proofs.Ytkobhlhkkpnmkaa
