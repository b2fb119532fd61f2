/-
  The walk of the document's reader of replies: array, given reply's. Conditions: no fault as yet.
-/
import Derived.Test.YtppbcdollomebaaDoorRdI
namespace Go.Proofs.YtppbcdollomebaaDoor
open Go.RowKit

theorem timesS_zero (f : Nat → RT × (Nat × Nat)) (s : Nat × Nat) : timesS f 0 s = ([], s) := rfl
theorem timesS_fault (f : Nat → RT × (Nat × Nat)) (n : Nat) (s : Nat × Nat) (h : s.2 ≠ 0) : timesS f n s = ([], s) := by
  cases n with
  | zero => rfl
  | succ n => rw [timesS, if_neg h]
theorem timesS_more (f : Nat → RT × (Nat × Nat)) (n i : Nat) : timesS f (n + 1) (i, 0) = ((f i).1 :: (timesS f n (f i).2).1, (timesS f n (f i).2).2) := by
  rw [timesS, if_pos rfl]

/-- So far. -/
def TimesK (f : Nat → RT × (Nat × Nat)) (n : Nat) (s0 : Nat × Nat) (k : Nat) (xs : List RT) (s : Nat × Nat) : Prop :=
  timesS f n s0 = (xs ++ (timesS f (n - k) s).1, (timesS f (n - k) s).2)
theorem TimesK.start (f : Nat → RT × (Nat × Nat)) (n : Nat) (s : Nat × Nat) : TimesK f n s 0 [] s := by unfold TimesK; simp
theorem TimesK.more {f : Nat → RT × (Nat × Nat)} {n k i : Nat} {s0 : Nat × Nat} {xs : List RT} (h : TimesK f n s0 k xs (i, 0)) (hk : k < n) : TimesK f n s0 (k + 1) (xs ++ [(f i).1]) (f i).2 := by
  unfold TimesK at h ⊢
  rw [h, show n - k = (n - (k + 1)) + 1 from by omega, timesS_more]
  simp
theorem TimesK.done {f : Nat → RT × (Nat × Nat)} {n k : Nat} {s0 s : Nat × Nat} {xs : List RT} (h : TimesK f n s0 k xs s) (hk : n ≤ k ∨ s.2 ≠ 0) : timesS f n s0 = (xs, s) := by
  unfold TimesK at h
  rcases hk with hk | hk
  · rw [h, show n - k = 0 from by omega, timesS_zero]; simp
  · rw [h, timesS_fault _ _ _ hk]; simp

set_option maxRecDepth 100000 in
set_option maxHeartbeats 16000000 in
theorem darray_step (R : Nat) (A : Option Addr) (b o cap : Nat) (bs : List UInt8) (nest : Nat) (f : Nat → RT × (Nat × Nat)) (i : Nat) (w : World) (hb : b < w.heap.size) (h : RdAt w R A b o cap bs i 0)
    (HREP : ∀ i w, b < w.heap.size → RdAt w R A b o cap bs i 0 → Calls Tryd.prog 27 #[.pointer (some ⟨R, 0, none⟩), .int .i64 nest] w (DPost w R A b o cap bs (f i))) :
    Calls Tryd.prog 45 #[.pointer (some ⟨R, 0, none⟩), .int .i64 nest] w (DPost w R A b o cap bs (arrayS f bs i)) := by
  have hR := h.lt
  have hbig := h.big
  obtain ⟨i0, hi0, hy0, hy1, hy2⟩ := info_parts info_reply
  have hal : Below w.heap.size w (w.alloc (.cells #[.int .i64 0, .string ⟨#[]⟩, .int .i64 0, .slice none 0 0] 25)) := (Below.refl _ _).alloc (Nat.le_refl _) _
  have hnew := World.alloc_heap_new w (.cells #[.int .i64 0, .string ⟨#[]⟩, .int .i64 0, .slice none 0 0] 25)
  have hs : (w.alloc (.cells #[.int .i64 0, .string ⟨#[]⟩, .int .i64 0, .slice none 0 0] 25)).heap.size = w.heap.size + 1 := by simp
  obtain ⟨wa, hwa⟩ : ∃ wa, w.alloc (.cells #[.int .i64 0, .string ⟨#[]⟩, .int .i64 0, .slice none 0 0] 25) = wa := ⟨_, rfl⟩
  rw [hwa] at hal hnew hs
  have HRA := Lib.hid (h.below hal).went
  have HAL := Lib.hid hal
  have HNEW := Lib.hid hnew
  have HREPH := Lib.hid HREP
  have HC := Lib.hid (fun w1 hr => dcount_ok R A b o cap bs i 0 131072 (by omega) (by omega) w1 hr)
  have hrg := countS_range bs 131072 (i, 0)
  obtain ⟨⟨n, ⟨i1, e1⟩⟩, hc⟩ : ∃ s, countS bs 131072 (i, 0) = s := ⟨_, rfl⟩
  obtain ⟨⟨i2, e2⟩, he⟩ : ∃ s, endS bs (i1, e1) = s := ⟨_, rfl⟩
  have HE := Lib.hid (fun w1 hr => dend_ok R A b o cap bs i1 e1 w1 hr)
  have HS : Hid (arrayS f bs i = if e2 ≠ 0 ∨ n < 0 then (.node 7 [] 0 [], (i2, e2)) else (.node 6 [] 0 (timesS f n.toNat (i2, e2)).1, (timesS f n.toNat (i2, e2)).2)) := by
    unfold Hid arrayS; rw [hc, he]
  rw [hc, show (((131072 : Nat) : Nat) : Int) = 131072 from rfl] at HC
  rw [hc] at hrg
  rw [he] at HE
  have hn0 : -1 ≤ n := hrg.1
  have hn1 : n ≤ 131072 := hrg.2
  clear hc he hrg h hal hnew HREP
  by_cases hcase : e2 ≠ 0 ∨ n < 0
  · rw [if_pos hcase] at HS
    have hdec : ((e2 : Int) != 0) = true ∨ (((e2 : Int) != 0) = false ∧ decide (n < 0) = true) := by
      by_cases h0 : e2 = 0
      · exact Or.inr ⟨by rw [h0]; rfl, by rcases hcase with h1 | h1; exact absurd h0 h1; exact decide_eq_true h1⟩
      · exact Or.inl (by rw [bne_iff_ne]; omega)
    clear hcase
    rcases hdec with hd | ⟨hd, hd2⟩
    all_goals
      go_enter Tryd.func45, Tryd.ntmps45
      go_wp2_with fail
      try rw [hwa]
      clear hwa
      refine (HC.out _ HRA.out.rd).mono ?_
      rintro en w1 ⟨rfl, hw1⟩
      have HW1 := Lib.hid (HRA.out.trans hw1)
      clear hw1
      go_wp2_with fail
      refine (HE.out _ HW1.out.rd).mono ?_
      rintro en w2 ⟨rfl, hw2⟩
      have HW2 := Lib.hid (HW1.out.trans hw2)
      have e2c := hw2.rd.c2
      obtain ⟨⟨r0, r1, r2, r3⟩, s0, s1, s2, s3⟩ := box_kept HNEW.out (by omega) HW2.out.grown hR
      clear hw2
      go_wp2
      refine bodyPost_ret (v := leafV 7 ⟨#[]⟩ 0) ?_ rfl ⟨7, ⟨#[]⟩, 0, none, 0, 0, rfl, by rw [HS.out]; intro q; exact .leaf 7 [] 0 ⟨#[]⟩ rfl, by rw [HS.out]; exact (Went.after HAL.out HW2.out).box hR hb _ _ _ _⟩
      simp [results, Tryd.results45, go_sem, leafV, r0, r1, r2, r3]
  · rw [if_neg hcase] at HS
    obtain rfl : e2 = 0 := by omega
    obtain ⟨m, rfl⟩ : ∃ m : Nat, n = m := ⟨n.toNat, by omega⟩
    rw [Int.toNat_natCast] at HS
    have hm : m ≤ 131072 := by omega
    have HT0 := Lib.hid (TimesK.start f m (i2, 0))
    clear hcase hn0 hn1
    go_enter Tryd.func45, Tryd.ntmps45
    go_wp2_with fail
    try rw [hwa]
    clear hwa
    refine (HC.out _ HRA.out.rd).mono ?_
    rintro en w1 ⟨rfl, hw1⟩
    have HW1 := Lib.hid (HRA.out.trans hw1)
    clear hw1
    go_wp2_with fail
    refine (HE.out _ HW1.out.rd).mono ?_
    rintro en w2 ⟨rfl, hw2⟩
    have HW2 := Lib.hid (HW1.out.trans hw2)
    have e2c := hw2.rd.c2
    have hz2 := HW2.out.grown.size
    have HA0 := Lib.hid (arr_new w2)
    obtain ⟨N, hNN⟩ : ∃ N, w2.heap.size = N := ⟨_, rfl⟩
    rw [hNN] at HA0 hz2
    have hRa : R < wa.heap.size := by omega
    have hba : b < wa.heap.size := by omega
    have HW3 := Lib.hid (HW2.out.grow hRa hba (World.grownBy_alloc w2 (.cells #[.int .i64 6, .string ⟨#[]⟩, .int .i64 0, .slice none 0 0] 25) none) (fun k hk => by cases hk))
    clear hw2
    go_wp2
    try rw [hNN]
    clear hNN
    go_loopw [7] (fun iv wr => ∃ (k : Nat) (vr : Value) (rows : List (List Value)) (xs : List RT) (s : Nat × Nat), iv = .int .i64 k ∧ k ≤ m ∧ rows.length = k ∧ ArrAt wr N vr rows ∧ (∀ r ∈ rows, r.length = 4) ∧ Went wa R A b o cap bs s wr ∧ (s.2 = 0 → Kids wr N vr xs rows) ∧ Hid (TimesK f m (i2, 0) k xs s)) (fun iv wr => m - (intOf iv).toNat)
    case atStart => exact ⟨0, _, [], [], (i2, 0), rfl, by omega, rfl, HA0.out, by simp, HW3.out, fun _ => ⟨rfl, by simp⟩, HT0.out⟩
    case round =>
      obtain ⟨k, vr, rows, xs, ⟨i3, e3⟩, rfl, hk, hrk, harr, h4, hw, hkid, HT⟩ := hrel
      have c2 := hw.rd.c2
      have HARR := Lib.hid harr
      have HW := Lib.hid hw
      have HKID := Lib.hid hkid
      have H4 := Lib.hid h4
      have HRK := Lib.hid hrk
      have hNr := harr.lt
      have hown := harr.own
      rw [hrk] at hown
      obtain ⟨Ar, cr, rfl⟩ := ownsRow_form hown
      have HOWN := Lib.hid hown
      clear hkid h4 hrk hown e2c HT0 HW3 HA0
      by_cases hend : m ≤ k ∨ e3 ≠ 0
      · have HD := Lib.hid (HT.out.done hend)
        have hdec : ¬ k < m ∨ (k < m ∧ ((e3 : Int) == 0) = false) := by
          by_cases h1 : k < m
          · exact Or.inr ⟨h1, by rw [beq_eq_false_iff_ne]; rcases hend with h2 | h2 <;> omega⟩
          · exact Or.inl h1
        have a0 := harr.c0
        have a1 := harr.c1
        have a2 := harr.c2
        have a3 := harr.c3
        obtain ⟨⟨r0, r1, r2, r3⟩, s0, s1, s2, s3⟩ := box_kept HNEW.out (by omega) hw.grown hR
        clear hend harr hw
        rcases hdec with hd | ⟨hd, hd2⟩
        all_goals
          go_wp2
          refine bodyPost_ret (v := .agg #[.int .i64 6, .string ⟨#[]⟩, .int .i64 0, .slice Ar k cr]) ?_ rfl ⟨6, ⟨#[]⟩, 0, Ar, k, cr, rfl, ?_, by rw [HS.out, HD.out]; exact (Went.after HAL.out HW.out).box hR hb _ _ _ _⟩
          · simp [results, Tryd.results45, go_sem, r0, r1, r2, r3]
          · rw [HS.out, HD.out]
            intro q
            refine (HARR.out.tree H4.out (HKID.out q)).keep (by simp [World.setCell]) (fun g h1 _ => by omega) (fun g h1 _ => ?_)
            have hg : g ≠ w.heap.size := by omega
            rw [Below.heap_setCell _ _ _ _ hg, Below.heap_setCell _ _ _ _ hg, Below.heap_setCell _ _ _ _ hg, Below.heap_setCell _ _ _ _ hg]
      · obtain ⟨hlt, rfl⟩ : k < m ∧ e3 = 0 := by omega
        have HM := Lib.hid (HT.out.more hlt)
        have hc3 := harr.c3
        have hf3 := harr.f3
        have hRN : R < N := by omega
        have hNE := Lib.hid harr.ne
        have hbr : b < wr.heap.size := by have := hw.grown.size; omega
        have hbd : b < wr.drew.heap.size := hbr
        have HRD := Lib.hid hw.rd
        have HRDD := Lib.hid hw.drew.rd
        have HD0 := Lib.hid ((Below.refl wr.heap.size wr).drew)
        clear hend harr hw
        go_wp2
        go_region_law (first
          | (go_simp; go_at_call 27; refine (HREPH.out i3 _ (by first | exact hbr | exact hbd) (by first | exact HRD.out | exact HRDD.out)).mono ?_; rintro en w4 ⟨K, T, nn, A4, l4, c4, rfl, hx, hw4⟩; have hwg : wr.grownBy w4 (some R) := (by first | exact hw4.grown | exact grown_below HD0.out hw4.grown); have HWG := Lib.hid hwg; have HX4 := Lib.hid (show (f i3).2.2 = 0 → RepAt w4 (fun g => wr.heap.size ≤ g) (f i3).1 [.int .i64 K, .string T, .int .i64 nn, .slice A4 l4 c4] from hx); have HR4 := Lib.hid hw4.rd; have q3 := (HARR.out.grown hwg hRN).c3; have qf := (HARR.out.grown hwg hRN).f3; have hO4 := (HARR.out.grown hwg hRN).own; rw [HRK.out] at hO4; have HO4 := Lib.hid hO4; have hz4 := hwg.size; have qa : (w4.alloc (.cells #[.int .i64 K, .string T, .int .i64 nn, .slice A4 l4 c4] 25)).cell? ⟨N, 3, none⟩ = some (.slice Ar k cr) := (((Below.refl w4.heap.size w4).alloc (Nat.le_refl _) _).cell (p := ⟨N, 3, none⟩) (by show N < w4.heap.size; omega)).trans q3; clear hx hw4 hwg hO4)
          | (refine step_append_lies _ (by rfl) _ _ _ (by rfl) (N + 1) 25 i0 _ 4 56 Tryd.underlying23 hi0 hy0 hy1 hy2 rfl (by omega) (.slice Ar k cr) k rows.flatten (by rfl) (by exact HO4.out.alloc _) ⟨w4.heap.size, 0, none⟩ 1 1 [.int .i64 K, .string T, .int .i64 nn, .slice A4 l4 c4] (by rfl) (by rfl) (World.news_of_block (cs := #[.int .i64 K, .string T, .int .i64 nn, .slice A4 l4 c4]) (t := 25) (fr := (0, 0)) (heap_alloc_new w4 _)) (by simp [Value.oneCell']) (by omega) (by unfold maxLen; omega) (by omega) (by simp; omega) (w4.heap.size + 1) (by simp) ?_; intro gg cc w5 hown5 hgrow hgg _; have hgf := grown_below (w := w4) ((Below.refl w4.heap.size w4).alloc (Nat.le_refl _) _) hgrow; have hbN := hgf.block N (by omega) (fun e => hNE.out e.symm); have p3 := (World.cell?_of_block (a := ⟨N, 3, none⟩) hbN).trans q3; have pf := (World.frozen?_of_block (a := ⟨N, 3, none⟩) hbN).trans qf; have HGF := Lib.hid hgf; have HOX := Lib.hid hown5; have HGG := Lib.hid hgg; clear hgrow hgf hbN hown5 hgg))
        all_goals
          have hz5 := HGF.out.size
          have HARR2 := Lib.hid ((HARR.out.grown HWG.out hRN).more (cs := [.int .i64 K, .string T, .int .i64 nn, .slice A4 l4 c4]) HGF.out (by rw [HRK.out]; exact HOX.out))
          have HLT := Lib.hid (fun j (hj : (Value.slice Ar k cr).ownBlock = some j) => own_lt HOWN.out hj)
          have HW5 : Hid (Went wa R A b o cap bs (f i3).2 (w5.setCell ⟨N, 3, none⟩ (.slice (some ⟨gg, 0, none⟩) (k + 1) cc))) :=
            ((HW.out.trans ⟨HR4.out, HWG.out⟩).grow hRa hba HGF.out (fun j hj => by have := (HLT.out j hj).1; omega)).far _ _ hRa hba (by show wa.heap.size ≤ N; omega)
          have HKID2 : Hid ((f i3).2.2 = 0 → Kids (w5.setCell ⟨N, 3, none⟩ (.slice (some ⟨gg, 0, none⟩) (k + 1) cc)) N (.slice (some ⟨gg, 0, none⟩) (k + 1) cc) (xs ++ [(f i3).1]) (rows ++ [[.int .i64 K, .string T, .int .i64 nn, .slice A4 l4 c4]])) := by
            intro q
            have hset : ∀ g, g ≠ N → (w5.setCell ⟨N, 3, none⟩ (.slice (some ⟨gg, 0, none⟩) (k + 1) cc)).heap[g]? = w5.heap[g]? := fun g hg => Below.heap_setCell _ _ _ _ hg
            have hsz : (w5.setCell ⟨N, 3, none⟩ (.slice (some ⟨gg, 0, none⟩) (k + 1) cc)).heap.size = w5.heap.size := by simp [World.setCell]
            refine ((HKID.out (by trivial)).grown HWG.out hRN).more (by omega) (fun g h1 h2 h3 => ?_) ?_ ((HX4.out q).keep (by omega) (fun g h1 h2 => ?_) (fun g h1 h2 => ?_))
            · rw [hset g (by omega)]
              exact HGF.out.block g h1 (fun e => h3 e.symm)
            · rcases HGG.out with e | e
              · exact Or.inl (e.trans rfl)
              · exact Or.inr ⟨gg, rfl, by omega⟩
            · have h1 : wr.heap.size ≤ g := h1
              refine ⟨by omega, fun e => ?_⟩
              have e : some gg = some g := e
              injection e with e
              rcases HGG.out with e2 | e2
              · have := (HLT.out gg e2).2; omega
              · omega
            · have h1 : wr.heap.size ≤ g := h1
              rw [hset g (by omega)]
              exact HGF.out.block g h2 (fun e => by have := (HLT.out g e.symm).2; omega)
          have H42 : Hid (∀ r ∈ rows ++ [[.int .i64 K, .string T, .int .i64 nn, .slice A4 l4 c4]], r.length = 4) := by
            intro r hr
            rcases List.mem_append.1 hr with hr | hr
            · exact H4.out r hr
            · simp at hr; rw [hr]; rfl
          have HRK2 : Hid ((rows ++ [[Value.int .i64 K, .string T, .int .i64 nn, .slice A4 l4 c4]]).length = k + 1) := by unfold Hid; rw [List.length_append, HRK.out]; rfl
          clear p3 pf q3 qf qa
          go_wp2
          go_roundw
          case rel => exact ⟨k + 1, _, _, _, (f i3).2, by go_num, by omega, HRK2.out, HARR2.out, H42.out, HW5.out, HKID2.out, HM.out⟩
          case measure => simp only [intOf]; omega

end Go.Proofs.YtppbcdollomebaaDoor
