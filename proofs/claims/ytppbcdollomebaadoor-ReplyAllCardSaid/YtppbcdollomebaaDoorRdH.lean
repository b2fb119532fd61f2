/-
  The walk of the document's reader of replies: reply, given array's. Conditions: no fault as yet.
-/
import Derived.Test.YtppbcdollomebaaDoorRdG
namespace Go.Proofs.YtppbcdollomebaaDoor
open Go.RowKit

set_option maxRecDepth 100000 in
set_option maxHeartbeats 16000000 in
theorem dreply_step (R : Nat) (A : Option Addr) (b o cap : Nat) (bs : List UInt8) (left nest i : Nat) (hln : left + nest = 8) (w : World) (hb : b < w.heap.size) (h : RdAt w R A b o cap bs i 0)
    (HARR : 0 < left → ∀ i w, 0 < i → b < w.heap.size → RdAt w R A b o cap bs i 0 → Calls Tryd.prog 45 #[.pointer (some ⟨R, 0, none⟩), .int .i64 (nest + 1 : Nat)] w (DPost w R A b o cap bs (arrayS (replyS bs (left - 1)) bs i))) :
    Calls Tryd.prog 27 #[.pointer (some ⟨R, 0, none⟩), .int .i64 nest] w (DPost w R A b o cap bs (replyS bs left i)) := by
  have hR := h.lt
  have hbig := h.big
  have hle := h.le
  have hal : Below w.heap.size w (w.alloc (.cells #[.int .i64 0, .string ⟨#[]⟩, .int .i64 0, .slice none 0 0] 25)) := (Below.refl _ _).alloc (Nat.le_refl _) _
  have hnew := World.alloc_heap_new w (.cells #[.int .i64 0, .string ⟨#[]⟩, .int .i64 0, .slice none 0 0] 25)
  have hs : (w.alloc (.cells #[.int .i64 0, .string ⟨#[]⟩, .int .i64 0, .slice none 0 0] 25)).heap.size = w.heap.size + 1 := by simp
  obtain ⟨wa, hwa⟩ : ∃ wa, w.alloc (.cells #[.int .i64 0, .string ⟨#[]⟩, .int .i64 0, .slice none 0 0] 25) = wa := ⟨_, rfl⟩
  rw [hwa] at hal hnew hs
  have HRA := Lib.hid (h.below hal).went
  have HAL := Lib.hid hal
  have HNEW := Lib.hid hnew
  have HARRH := Lib.hid HARR
  have HB := Lib.hid (fun w1 hr => dbyte_ok R A b o cap bs i 0 w1 hr)
  clear h hal hnew HARR
  by_cases hl : bs.length ≤ i
  · have HS := Lib.hid (replyS_short bs left i hl)
    rw [show byteS bs (i, 0) = (0, (i, 31)) from by unfold byteS; simp [hl]] at HB
    obtain rfl : i = bs.length := by omega
    go_enter Tryd.func27, Tryd.ntmps27
    go_wp2_with fail
    try rw [hwa]
    clear hwa
    refine (HB.out _ HRA.out.rd).mono ?_
    rintro en w1 ⟨rfl, hw1⟩
    have HW1 := Lib.hid (HRA.out.trans hw1)
    have c2 := hw1.rd.c2
    obtain ⟨⟨r0, r1, r2, r3⟩, s0, s1, s2, s3⟩ := box_kept HNEW.out (by omega) HW1.out.grown hR
    clear hw1
    go_wp2
    refine bodyPost_ret (v := leafV 0 ⟨#[]⟩ 0) ?_ rfl ⟨0, ⟨#[]⟩, 0, none, 0, 0, rfl, (by rw [HS.out]; intro q; cases q), by rw [HS.out]; exact (Went.after HAL.out HW1.out).box hR hb _ _ _ _⟩
    simp [results, Tryd.results27, go_sem, leafV, r0, r1, r2, r3]
  obtain ⟨c, hc⟩ : ∃ c, (bs.getD i 0).toNat = c := ⟨_, rfl⟩
  have HS := Lib.hid (replyS_eq bs left i c hl hc)
  rw [show byteS bs (i, 0) = (c, (i, 0)) from by unfold byteS; simp only [hl, if_true, if_false, hc]] at HB
  clear hc
  have hi1 : i < bs.length := by omega
  by_cases h43 : c = 43
  · subst h43
    rw [if_pos rfl] at HS
    have HX := Lib.hid (fun w1 hr => dtext_ok R A b o cap bs (i + 1) (by omega) w1 hr)
    rw [show (((43 : Nat) : Nat) : Int) = 43 from rfl] at HB
    go_enter Tryd.func27, Tryd.ntmps27
    go_wp2_with fail
    try rw [hwa]
    clear hwa
    refine (HB.out _ HRA.out.rd).mono ?_
    rintro en w1 ⟨rfl, hw1⟩
    have HW1 := Lib.hid (HRA.out.trans hw1)
    have c1 := hw1.rd.c1
    have c2 := hw1.rd.c2
    have f1 := hw1.rd.f1
    have hp := HW1.out.place (i + 1) (by omega)
    rw [show ((i + 1 : Nat) : Int) = (i : Int) + 1 from by omega] at hp
    have HP := Lib.hid hp
    obtain ⟨⟨r0, r1, r2, r3⟩, s0, s1, s2, s3⟩ := box_kept HNEW.out (by omega) HW1.out.grown hR
    clear hw1 hp
    go_wp2_with fail
    refine (HX.out _ HP.out.rd).mono ?_
    rintro en w2 ⟨⟨T, rfl, hT1, hT2⟩, hw2⟩
    have HW2 := Lib.hid (HP.out.trans hw2)
    have HT := Lib.hid hT2
    clear hw2 hT2
    clear r0 r1 r2 r3 s0 s1 s2 s3
    obtain ⟨⟨r0, r1, r2, r3⟩, s0, s1, s2, s3⟩ := box_kept HNEW.out (by omega) HW2.out.grown hR
    go_wp2
    refine bodyPost_ret (v := leafV 1 T 0) ?_ rfl ⟨1, T, 0, none, 0, 0, rfl, by rw [HS.out]; intro q; exact .leaf 1 _ 0 T (HT.out (textS_ok q)), by rw [HS.out]; exact (Went.after HAL.out HW2.out).box hR hb _ _ _ _⟩
    simp [results, Tryd.results27, go_sem, leafV, r0, r1, r2, r3]
  by_cases h45 : c = 45
  · subst h45
    rw [if_neg h43, if_pos rfl] at HS
    have HX := Lib.hid (fun w1 hr => dtext_ok R A b o cap bs (i + 1) (by omega) w1 hr)
    rw [show (((45 : Nat) : Nat) : Int) = 45 from rfl] at HB
    go_enter Tryd.func27, Tryd.ntmps27
    go_wp2_with fail
    try rw [hwa]
    clear hwa
    refine (HB.out _ HRA.out.rd).mono ?_
    rintro en w1 ⟨rfl, hw1⟩
    have HW1 := Lib.hid (HRA.out.trans hw1)
    have c1 := hw1.rd.c1
    have c2 := hw1.rd.c2
    have f1 := hw1.rd.f1
    have hp := HW1.out.place (i + 1) (by omega)
    rw [show ((i + 1 : Nat) : Int) = (i : Int) + 1 from by omega] at hp
    have HP := Lib.hid hp
    obtain ⟨⟨r0, r1, r2, r3⟩, s0, s1, s2, s3⟩ := box_kept HNEW.out (by omega) HW1.out.grown hR
    clear hw1 hp
    go_wp2_with fail
    refine (HX.out _ HP.out.rd).mono ?_
    rintro en w2 ⟨⟨T, rfl, hT1, hT2⟩, hw2⟩
    have HW2 := Lib.hid (HP.out.trans hw2)
    have HT := Lib.hid hT2
    clear hw2 hT2
    clear r0 r1 r2 r3 s0 s1 s2 s3
    obtain ⟨⟨r0, r1, r2, r3⟩, s0, s1, s2, s3⟩ := box_kept HNEW.out (by omega) HW2.out.grown hR
    go_wp2
    refine bodyPost_ret (v := leafV 2 T 0) ?_ rfl ⟨2, T, 0, none, 0, 0, rfl, by rw [HS.out]; intro q; exact .leaf 2 _ 0 T (HT.out (textS_ok q)), by rw [HS.out]; exact (Went.after HAL.out HW2.out).box hR hb _ _ _ _⟩
    simp [results, Tryd.results27, go_sem, leafV, r0, r1, r2, r3]
  by_cases h58 : c = 58
  · subst h58
    rw [if_neg h43, if_neg h45, if_pos rfl] at HS
    obtain ⟨⟨n, ⟨i1, e1⟩⟩, hn⟩ : ∃ s, integerS bs (i + 1, 0) = s := ⟨_, rfl⟩
    have HX := Lib.hid (fun w1 hr => dinteger_ok R A b o cap bs (i + 1) 0 w1 hr)
    rw [hn] at HS HX
    have HE := Lib.hid (fun w1 hr => dend_ok R A b o cap bs i1 e1 w1 hr)
    clear hn
    rw [show (((58 : Nat) : Nat) : Int) = 58 from rfl] at HB
    go_enter Tryd.func27, Tryd.ntmps27
    go_wp2_with fail
    try rw [hwa]
    clear hwa
    refine (HB.out _ HRA.out.rd).mono ?_
    rintro en w1 ⟨rfl, hw1⟩
    have HW1 := Lib.hid (HRA.out.trans hw1)
    have c1 := hw1.rd.c1
    have c2 := hw1.rd.c2
    have f1 := hw1.rd.f1
    have hp := HW1.out.place (i + 1) (by omega)
    rw [show ((i + 1 : Nat) : Int) = (i : Int) + 1 from by omega] at hp
    have HP := Lib.hid hp
    obtain ⟨⟨r0, r1, r2, r3⟩, s0, s1, s2, s3⟩ := box_kept HNEW.out (by omega) HW1.out.grown hR
    clear hw1 hp
    go_wp2_with fail
    refine (HX.out _ HP.out.rd).mono ?_
    rintro en w2 ⟨rfl, hw2⟩
    have HW2 := Lib.hid (HP.out.trans hw2)
    clear hw2
    go_wp2_with fail
    refine (HE.out _ HW2.out.rd).mono ?_
    rintro en w3 ⟨rfl, hw3⟩
    have HW3 := Lib.hid (HW2.out.trans hw3)
    clear hw3
    clear r0 r1 r2 r3 s0 s1 s2 s3
    obtain ⟨⟨r0, r1, r2, r3⟩, s0, s1, s2, s3⟩ := box_kept HNEW.out (by omega) HW3.out.grown hR
    go_wp2
    refine bodyPost_ret (v := leafV 3 ⟨#[]⟩ n) ?_ rfl ⟨3, ⟨#[]⟩, n, none, 0, 0, rfl, by rw [HS.out]; intro q; exact .leaf 3 [] n ⟨#[]⟩ rfl, by rw [HS.out]; exact (Went.after HAL.out HW3.out).box hR hb _ _ _ _⟩
    simp [results, Tryd.results27, go_sem, leafV, r0, r1, r2, r3]
  by_cases h36 : c = 36
  · subst h36
    rw [if_neg h43, if_neg h45, if_neg h58, if_pos rfl] at HS
    have HX := Lib.hid (fun w1 hb1 hr => dbulk_ok R A b o cap bs (i + 1) (by omega) w1 hb1 hr)
    rw [show (((36 : Nat) : Nat) : Int) = 36 from rfl] at HB
    go_enter Tryd.func27, Tryd.ntmps27
    go_wp2_with fail
    try rw [hwa]
    clear hwa
    refine (HB.out _ HRA.out.rd).mono ?_
    rintro en w1 ⟨rfl, hw1⟩
    have HW1 := Lib.hid (HRA.out.trans hw1)
    have c1 := hw1.rd.c1
    have c2 := hw1.rd.c2
    have f1 := hw1.rd.f1
    have hp := HW1.out.place (i + 1) (by omega)
    rw [show ((i + 1 : Nat) : Int) = (i : Int) + 1 from by omega] at hp
    have HP := Lib.hid hp
    obtain ⟨⟨r0, r1, r2, r3⟩, s0, s1, s2, s3⟩ := box_kept HNEW.out (by omega) HW1.out.grown hR
    clear hw1 hp
    go_wp2_with fail
    refine (HX.out _ (by have := HP.out.grown.size; omega) HP.out.rd).mono ?_
    rintro en w2 ⟨⟨T, rfl, hT⟩, hw2⟩
    obtain ⟨K, hK⟩ : ∃ K, (dblkS bs (i + 1)).1.1 = K := ⟨_, rfl⟩
    rw [hK] at HS ⊢
    have HW2 := Lib.hid (HP.out.trans hw2)
    have HT := Lib.hid hT
    clear hw2 hT hK
    unfold leafV
    clear r0 r1 r2 r3 s0 s1 s2 s3
    obtain ⟨⟨r0, r1, r2, r3⟩, s0, s1, s2, s3⟩ := box_kept HNEW.out (by omega) HW2.out.grown hR
    go_wp2
    refine bodyPost_ret (v := leafV K T 0) ?_ rfl ⟨K, T, 0, none, 0, 0, rfl, by rw [HS.out]; intro q; exact .leaf K _ 0 T HT.out, by rw [HS.out]; exact (Went.after HAL.out HW2.out).box hR hb _ _ _ _⟩
    simp [results, Tryd.results27, go_sem, leafV, r0, r1, r2, r3]
  by_cases h42 : c = 42
  · subst h42
    rw [if_neg h43, if_neg h45, if_neg h58, if_neg h36, if_pos rfl] at HS
    rcases left with _ | left
    · obtain rfl : nest = 8 := by omega
      have HX := Lib.hid (fun w1 hb1 hr => dflat_ok R A b o cap bs i hi1 w1 hb1 hr)
      rw [show (((42 : Nat) : Nat) : Int) = 42 from rfl] at HB
      go_enter Tryd.func27, Tryd.ntmps27
      go_wp2_with fail
      try rw [hwa]
      clear hwa
      refine (HB.out _ HRA.out.rd).mono ?_
      rintro en w1 ⟨rfl, hw1⟩
      have HW1 := Lib.hid (HRA.out.trans hw1)
      have c1 := hw1.rd.c1
      have c2 := hw1.rd.c2
      have f1 := hw1.rd.f1
      obtain ⟨⟨r0, r1, r2, r3⟩, s0, s1, s2, s3⟩ := box_kept HNEW.out (by omega) HW1.out.grown hR
      clear hw1
      go_wp2_with fail
      refine (HX.out _ (by have := HW1.out.grown.size; omega) HW1.out.rd).mono ?_
      rintro en w2 ⟨rfl, hw2⟩
      have HW2 := Lib.hid (HW1.out.trans hw2)
      clear hw2
      unfold leafV
      clear r0 r1 r2 r3 s0 s1 s2 s3
      obtain ⟨⟨r0, r1, r2, r3⟩, s0, s1, s2, s3⟩ := box_kept HNEW.out (by omega) HW2.out.grown hR
      go_wp2
      refine bodyPost_ret (v := leafV 7 ⟨#[]⟩ 0) ?_ rfl ⟨7, ⟨#[]⟩, 0, none, 0, 0, rfl, by rw [HS.out]; intro q; exact .leaf 7 [] 0 ⟨#[]⟩ rfl, by rw [HS.out]; exact (Went.after HAL.out HW2.out).box hR hb _ _ _ _⟩
      simp [results, Tryd.results27, go_sem, leafV, r0, r1, r2, r3]
    · have hn8 : ((nest : Int) == 8) = false := by rw [beq_eq_false_iff_ne]; omega
      have HX := Lib.hid (fun w1 hb1 hr => HARRH.out (by omega) (i + 1) w1 (by omega) hb1 hr)
      rw [show ((nest + 1 : Nat) : Int) = (nest : Int) + 1 from by omega, show left + 1 - 1 = left from by omega] at HX
      rw [show (((42 : Nat) : Nat) : Int) = 42 from rfl] at HB
      go_enter Tryd.func27, Tryd.ntmps27
      go_wp2_with fail
      try rw [hwa]
      clear hwa
      refine (HB.out _ HRA.out.rd).mono ?_
      rintro en w1 ⟨rfl, hw1⟩
      have HW1 := Lib.hid (HRA.out.trans hw1)
      have c1 := hw1.rd.c1
      have c2 := hw1.rd.c2
      have f1 := hw1.rd.f1
      have hp := HW1.out.place (i + 1) (by omega)
      rw [show ((i + 1 : Nat) : Int) = (i : Int) + 1 from by omega] at hp
      have HP := Lib.hid hp
      obtain ⟨⟨r0, r1, r2, r3⟩, s0, s1, s2, s3⟩ := box_kept HNEW.out (by omega) HW1.out.grown hR
      clear hw1 hp
      go_wp2_with fail
      refine (HX.out _ (by have := HP.out.grown.size; omega) HP.out.rd).mono ?_
      rintro en w2 ⟨K, T, n, A', l, cc, rfl, hx, hw2⟩
      have hz := HP.out.grown.size
      have HW2 := Lib.hid (HP.out.trans hw2)
      have HT := Lib.hid hx
      clear hw2 hx
      clear r0 r1 r2 r3 s0 s1 s2 s3
      obtain ⟨⟨r0, r1, r2, r3⟩, s0, s1, s2, s3⟩ := box_kept HNEW.out (by omega) HW2.out.grown hR
      go_wp2
      refine bodyPost_ret (v := .agg #[.int .i64 K, .string T, .int .i64 n, .slice A' l cc]) ?_ rfl ⟨K, T, n, A', l, cc, rfl, ?_, by rw [HS.out]; exact (Went.after HAL.out HW2.out).box hR hb _ _ _ _⟩
      · simp [results, Tryd.results27, go_sem, r0, r1, r2, r3]
      · rw [HS.out]
        intro q
        have hz2 := HW2.out.grown.size
        refine (HT.out q).keep (by simp [World.setCell]) (fun g h1 _ => by have h1 : _ ≤ g := h1; omega) (fun g h1 _ => ?_)
        have h1 : (w1.setCell ⟨R, 1, none⟩ (.int .i64 ((i : Int) + 1))).heap.size ≤ g := h1
        have hg : g ≠ w.heap.size := by omega
        rw [Below.heap_setCell _ _ _ _ hg, Below.heap_setCell _ _ _ _ hg, Below.heap_setCell _ _ _ _ hg, Below.heap_setCell _ _ _ _ hg]
  · rw [if_neg h43, if_neg h45, if_neg h58, if_neg h36, if_neg h42] at HS
    have q43 : ((c : Int) == 43) = false := by rw [beq_eq_false_iff_ne]; omega
    have q45 : ((c : Int) == 45) = false := by rw [beq_eq_false_iff_ne]; omega
    have q58 : ((c : Int) == 58) = false := by rw [beq_eq_false_iff_ne]; omega
    have q36 : ((c : Int) == 36) = false := by rw [beq_eq_false_iff_ne]; omega
    have q42 : ((c : Int) == 42) = false := by rw [beq_eq_false_iff_ne]; omega
    clear h43 h45 h58 h36 h42
    go_enter Tryd.func27, Tryd.ntmps27
    go_wp2_with fail
    try rw [hwa]
    clear hwa
    refine (HB.out _ HRA.out.rd).mono ?_
    rintro en w1 ⟨rfl, hw1⟩
    have HW1 := Lib.hid (HRA.out.trans hw1)
    have c1 := hw1.rd.c1
    have c2 := hw1.rd.c2
    have f1 := hw1.rd.f1
    have hp := HW1.out.place (i + 1) (by omega)
    rw [show ((i + 1 : Nat) : Int) = (i : Int) + 1 from by omega] at hp
    have HP := Lib.hid hp
    obtain ⟨⟨r0, r1, r2, r3⟩, s0, s1, s2, s3⟩ := box_kept HNEW.out (by omega) HW1.out.grown hR
    clear hw1 hp
    go_wp2_with fail
    have hb1 : i + 1 - 1 = i := by omega
    have hq := (HP.out.place i (by omega))
    refine (dfail_ok R A b o cap bs i 0 _ hq.rd).mono ?_
    rintro en w2 ⟨rfl, hw2⟩
    rw [show failS bs (i, 0) = (i, 30) from by unfold failS; simp only [if_true]; rw [if_neg hl]] at hw2
    have HW2 := Lib.hid (hq.trans hw2)
    clear hw2 hq
    clear r0 r1 r2 r3 s0 s1 s2 s3
    obtain ⟨⟨r0, r1, r2, r3⟩, s0, s1, s2, s3⟩ := box_kept HNEW.out (by omega) HW2.out.grown hR
    go_wp2
    refine bodyPost_ret (v := leafV 0 ⟨#[]⟩ 0) ?_ rfl ⟨0, ⟨#[]⟩, 0, none, 0, 0, rfl, (by rw [HS.out]; intro q; cases q), by rw [HS.out]; exact (Went.after HAL.out HW2.out).box hR hb _ _ _ _⟩
    simp [results, Tryd.results27, go_sem, leafV, r0, r1, r2, r3]

end Go.Proofs.YtppbcdollomebaaDoor
