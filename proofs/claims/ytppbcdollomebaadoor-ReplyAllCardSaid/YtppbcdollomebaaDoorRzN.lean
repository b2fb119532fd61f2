/-
  The walk of package reply's reader: array, given reply's. Conditions: the reader lies in memory.
-/
import Derived.Test.YtppbcdollomebaaDoorRzM
import Derived.Deep.RegionLaw
namespace Go.Proofs.YtppbcdollomebaaDoor
open Go.RowKit

theorem numS_neg (bs : List UInt8) (i : Nat) : ((numS bs 1 (-1) i).2.2 = 0 → (numS bs 1 (-1) i).1 = -1) ∧ True := by
  refine ⟨fun q => ?_, trivial⟩
  by_cases h0 : bs.length ≤ i
  · have : numS bs 1 (-1) i = (0, (i, 31)) := by unfold numS; rw [if_pos h0]
    rw [this] at q; cases q
  · by_cases h45 : (bs.getD i 0).toNat = 45
    · exact (num_minus bs (-1) i h0 h45).2 q
    · have : numS bs 1 (-1) i = (0, (i, 30)) := by unfold numS; rw [if_neg h0, if_neg h45, if_pos (by decide)]
      rw [this] at q; cases q

set_option maxRecDepth 100000 in
set_option maxHeartbeats 16000000 in
theorem yarray_step (B b : Nat) (bs : List UInt8) (left nest i : Nat) (hln : left + nest = 8) (w : World) (h : InAt w B b bs i nest)
    (HREP : 0 < left → ∀ i w, InAt w B b bs i (nest + 1) → Calls Tryd.prog 38 #[.pointer (some ⟨B, 0, none⟩)] w (RPost w B b bs (nest + 1) (replyS bs (left - 1) i))) :
    Calls Tryd.prog 56 #[.pointer (some ⟨B, 0, none⟩)] w (RPost w B b bs nest (arrT bs left i)) := by
  have hB := h.hB
  have hb := h.hb
  have hn := h.ne
  have h6 : 6 ≤ w.heap.size := by have := h.six; omega
  have hal : Below w.heap.size w (w.alloc (.cells #[.int .i64 0, .string ⟨#[]⟩, .int .i64 0, .slice none 0 0] 25)) := (Below.refl _ _).alloc (Nat.le_refl _) _
  have hs : (w.alloc (.cells #[.int .i64 0, .string ⟨#[]⟩, .int .i64 0, .slice none 0 0] 25)).heap.size = w.heap.size + 1 := by simp
  obtain ⟨wa, hwa⟩ : ∃ wa, w.alloc (.cells #[.int .i64 0, .string ⟨#[]⟩, .int .i64 0, .slice none 0 0] 25) = wa := ⟨_, rfl⟩
  have hnew := World.alloc_heap_new w (.cells #[.int .i64 0, .string ⟨#[]⟩, .int .i64 0, .slice none 0 0] 25)
  rw [hwa] at hal hs hnew
  have HA := Lib.hid (h.below hal)
  have HAL := Lib.hid hal
  have HNEW := Lib.hid hnew
  have hza : wa.heap.size = w.heap.size + 1 := hs
  have HZA := Lib.hid hza
  have hla : w.heap.size < wa.heap.size := by omega
  obtain ⟨v, hv, hlv⟩ := HA.out.c0
  have hc1 := HA.out.c1
  have hf1 := HA.out.f1
  clear h hal hs hnew hza
  rcases left with _ | left
  · obtain rfl : nest = 8 := by omega
    obtain ⟨⟨N, X⟩, hNX⟩ : ∃ s, numS bs 1 (-1) i = s := ⟨_, rfl⟩
    have HS : Hid (arrT bs 0 i = (.node 7 [] 0 [], X)) := by show (RT.node 7 [] 0 [], (numS bs 1 (-1) i).2) = _; rw [hNX]
    have HNU := Lib.hid (ynumber_any B b v bs i 1 (-1) (-1) wa HA.out.hB HA.out.hb hn hv HA.out.f0 hlv rfl (by decide) (by decide) (by decide) (by decide) N X hNX)
    have HN1 : Hid (X.2 = 0 → N = -1) := by
      have := (numS_neg bs i).1
      rw [hNX] at this
      exact this
    obtain ⟨o, cap, rfl, _⟩ := hlv
    clear hNX HREP
    go_enter Tryd.func56, Tryd.ntmps56
    go_wp2_with fail
    try rw [hwa]
    clear hwa
    refine HNU.out.mono ?_
    rintro e w2 ⟨hres, v2, hv2, hp2⟩
    have HG2 := Lib.hid (HA.out.gn.put hp2 hv2)
    obtain ⟨⟨r0, r1, r2, r3⟩, s0, s1, s2, s3⟩ := box_kept HNEW.out hla HG2.out.grown hB
    clear hv2 hp2 HNU
    rcases hres with ⟨hs0, xx, rfl, rfl⟩ | ⟨hs1, hth⟩
    · have hN := HN1.out hs0
      subst hN
      go_wp2
      refine bodyPost_ret (v := leafV 7 ⟨#[]⟩ 0) ?_ rfl ?_
      · simp [results, Tryd.results56, go_sem, leafV, r0, r1, r2, r3]
      · rw [HS.out]
        exact Or.inl ⟨hs0, ⟨7, ⟨#[]⟩, 0, none, 0, 0, rfl, .leaf 7 [] 0 ⟨#[]⟩ rfl⟩, (Gn.after HAL.out HG2.out).box hB hb h6 _ _ _ _⟩
    · unfold ThrownR at hth
      have HFI := Lib.hid (show RPost w B b bs 8 (arrT bs 0 i) (.panicked [{ v := faultR X.2, recovered := false }]) w2 from by rw [HS.out]; exact Or.inr ⟨hs1, rfl, 8, Gn.after HAL.out HG2.out⟩)
      obtain ⟨F, hF⟩ : ∃ F : Value, faultR X.2 = F := ⟨_, rfl⟩
      rw [hF] at HFI hth
      clear hF
      subst hth
      go_wp2
      exact ⟨rfl, HFI.out⟩
  · have hn8 : ((nest : Int) == 8) = false := by rw [beq_eq_false_iff_ne]; omega
    obtain ⟨⟨N, X⟩, hNX⟩ : ∃ s, numS bs 1 131072 i = s := ⟨_, rfl⟩
    obtain ⟨q1, q2⟩ := count_num bs 131072 i
    have hNX' : numS bs 1 ((131072 : Nat) : Int) i = (N, X) := hNX
    rw [hNX'] at q1 q2
    have hrg := countS_range bs 131072 (i, 0)
    obtain ⟨f, hf⟩ : ∃ f, replyS bs left = f := ⟨_, rfl⟩
    have HSS : Hid (arrT bs (left + 1) i = if X.2 ≠ 0 ∨ N < 0 then (.node 7 [] 0 [], X) else (.node 6 [] 0 (timesS f N.toNat X).1, (timesS f N.toNat X).2)) := by
      show arrayS (replyS bs left) bs i = _
      rw [hf]
      unfold arrayS
      rw [← q1]
      show (if X.2 ≠ 0 ∨ _ < 0 then _ else _) = _
      by_cases hx : X.2 = 0
      · rw [← q2 hx]
      · rw [if_pos (Or.inl hx), if_pos (Or.inl hx)]
    have HNB : Hid (X.2 = 0 → N ≤ 131072) := fun q => by
      have h2 : N = _ := q2 q
      have h3 := hrg.2
      omega
    have HREPH := Lib.hid (fun i w hi => HREP (Nat.succ_pos _) i w hi)
    rw [show left + 1 - 1 = left from rfl, hf] at HREPH
    have HNU := Lib.hid (ynumber_any B b v bs i 1 (-1) 131072 wa HA.out.hB HA.out.hb hn hv HA.out.f0 hlv rfl (by decide) (by decide) (by decide) (by decide) N X hNX)
    obtain ⟨o, cap, rfl, _⟩ := hlv
    clear hNX hNX' q1 q2 hrg hf HREP
    go_enter Tryd.func56, Tryd.ntmps56
    go_wp2_with fail
    try rw [hwa]
    clear hwa
    refine HNU.out.mono ?_
    rintro e w2 ⟨hres, v2, hv2, hp2⟩
    have HG2 := Lib.hid (HA.out.gn.put hp2 hv2)
    clear hv2 hp2 HNU
    rcases hres with ⟨hs0, xx, rfl, rfl⟩ | ⟨hs1, hth⟩
    · by_cases hN : N < 0
      · have HS := Lib.hid (HSS.out.trans (if_pos (Or.inr hN)))
        obtain ⟨⟨r0, r1, r2, r3⟩, s0, s1, s2, s3⟩ := box_kept HNEW.out hla HG2.out.grown hB
        go_wp2
        refine bodyPost_ret (v := leafV 7 ⟨#[]⟩ 0) ?_ rfl ?_
        · simp [results, Tryd.results56, go_sem, leafV, r0, r1, r2, r3]
        · rw [HS.out]
          exact Or.inl ⟨hs0, ⟨7, ⟨#[]⟩, 0, none, 0, 0, rfl, .leaf 7 [] 0 ⟨#[]⟩ rfl⟩, (Gn.after HAL.out HG2.out).box hB hb h6 _ _ _ _⟩
      · obtain ⟨m, hm⟩ : ∃ m : Nat, N = (m : Int) := ⟨N.toNat, by omega⟩
        subst hm
        have hN0 : ¬ ((m : Int) < 0) := by omega
        have hm1 := HNB.out hs0
        have HS := Lib.hid (HSS.out.trans (if_neg (by rintro (q | q); exact q hs0; omega)))
        rw [Int.toNat_natCast] at HS
        have g1 := HG2.out.st.c1
        have g2 := HG2.out.st.f1
        have hs0' : X.2 = 0 := hs0
        obtain ⟨i2, e2⟩ := X
        obtain rfl : e2 = 0 := hs0'
        have HT0 := Lib.hid (TimesK.start f m (i2, 0))
        have hd := HG2.out.depth (nest + 1)
        rw [show ((nest + 1 : Nat) : Int) = (nest : Int) + 1 from by omega] at hd
        have HGD := Lib.hid (hd.below ((Below.refl _ _).alloc (Nat.le_refl _) (.cells #[.int .i64 6, .string ⟨#[]⟩, .int .i64 0, .slice none 0 0] 25)))
        have hA0 := arr_new (w2.setCell ⟨B, 1, none⟩ (.int .i64 ((nest : Int) + 1)))
        have hsz2 : (w2.setCell ⟨B, 1, none⟩ (.int .i64 ((nest : Int) + 1))).heap.size = w2.heap.size := by simp [World.setCell]
        rw [hsz2] at hA0
        have HA0 := Lib.hid hA0
        have hz2 := HG2.out.grown.size
        obtain ⟨NB, hNN⟩ : ∃ N, w2.heap.size = N := ⟨_, rfl⟩
        have hNN2 := hsz2
        rw [hNN] at HA0 hz2 hNN2
        obtain ⟨i0, hi0, hy0, hy1, hy2⟩ := info_parts info_reply
        have hBa : B < wa.heap.size := by omega
        have hba : b < wa.heap.size := by omega
        have h6a : 6 ≤ wa.heap.size := by omega
        clear hc1 hf1 hd hA0 hs0 hsz2
        go_wp2
        try rw [hNN2]
        try rw [hNN]
        clear hNN hNN2 g1 g2
        go_loopw [28] (fun iv wr => ∃ (k : Nat) (vr : Value) (rows : List (List Value)) (xs : List RT) (j : Nat), iv = .int .i64 k ∧ k ≤ m ∧ rows.length = k ∧ ArrAt wr NB vr rows ∧ (∀ r ∈ rows, r.length = 4) ∧ Gn wa B b bs j (nest + 1) wr ∧ Kids wr NB vr xs rows ∧ Hid (TimesK f m (i2, 0) k xs (j, 0))) (fun iv wr => m - (intOf iv).toNat)
        case atStart => exact ⟨0, _, [], [], i2, rfl, by omega, rfl, HA0.out, by simp, HGD.out, ⟨rfl, by simp⟩, HT0.out⟩
        case round =>
          obtain ⟨k, vr, rows, xs, j, rfl, hk, hrk, harr, h4, hw, hkid, HT⟩ := hrel
          have HARR := Lib.hid harr
          have HW := Lib.hid hw
          have HKID := Lib.hid hkid
          have H4 := Lib.hid h4
          have HRK := Lib.hid hrk
          have hNr := harr.lt
          have hown := harr.own
          rw [hrk] at hown
          obtain ⟨Ar, cr, rfl⟩ := ownsRow_form hown
          have HOWN := Lib.hid hown
          have hdp := hw.st.c1
          rw [show ((nest + 1 : Nat) : Int) = (nest : Int) + 1 from by omega] at hdp
          have hdf := hw.st.f1
          clear hkid h4 hrk hown HT0 HGD HA0
          by_cases hend : m ≤ k
          · have HD := Lib.hid (HT.out.done (Or.inl hend))
            have hnk : ¬ ((k : Int) < (m : Int)) := by omega
            have a0 := harr.c0
            have a1 := harr.c1
            have a2 := harr.c2
            have a3 := harr.c3
            have HGE := Lib.hid (hw.depth nest)
            obtain ⟨⟨r0, r1, r2, r3⟩, s0, s1, s2, s3⟩ := box_kept HNEW.out hla HGE.out.grown hB
            clear harr hw
            have HNB2 : Hid (w.heap.size < NB ∧ B < NB) := ⟨by omega, by omega⟩
            go_wp2
            refine bodyPost_ret (v := .agg #[.int .i64 6, .string ⟨#[]⟩, .int .i64 0, .slice Ar k cr]) ?_ rfl ?_
            · simp [results, Tryd.results56, go_sem, r0, r1, r2, r3]
            · rw [HS.out, HD.out]
              refine Or.inl ⟨rfl, ⟨6, ⟨#[]⟩, 0, Ar, k, cr, rfl, ?_⟩, (Gn.after HAL.out HGE.out).box hB hb h6 _ _ _ _⟩
              refine (HARR.out.tree H4.out HKID.out).keep (by simp [World.setCell]) (fun g h1 _ => by have := HNB2.out; omega) (fun g h1 _ => ?_)
              have hg : g ≠ w.heap.size := by have := HNB2.out; omega
              have hgB : g ≠ B := by have := HNB2.out; omega
              rw [Below.heap_setCell _ _ _ _ hg, Below.heap_setCell _ _ _ _ hg, Below.heap_setCell _ _ _ _ hg, Below.heap_setCell _ _ _ _ hg, Below.heap_setCell _ _ _ _ hgB]
          · have hkm : (k : Int) < (m : Int) := by omega
            have HM := Lib.hid (HT.out.more (by omega))
            have hc3 := harr.c3
            have hf3 := harr.f3
            have hRN : B < NB := by omega
            have hNE := Lib.hid harr.ne
            have HRD := Lib.hid hw.st
            have HRDD := Lib.hid (hw.st.below (Below.refl _ _).drew)
            have HD0 := Lib.hid ((Below.refl wr.heap.size wr).drew)
            by_cases hf0 : (f j).2.2 = 0
            · have HOK : Hid (∀ wq, InAt wq B b bs j (nest + 1) → Calls Tryd.prog 38 #[.pointer (some ⟨B, 0, none⟩)] wq fun e w4 => ∃ (K : Nat) (T : ByteArray) (nn : Int) (A4 : Option Addr) (l4 c4 : Nat), e = .returned (.agg #[.int .i64 K, .string T, .int .i64 nn, .slice A4 l4 c4]) ∧ RepAt w4 (fun g => wq.heap.size ≤ g) (f j).1 [.int .i64 K, .string T, .int .i64 nn, .slice A4 l4 c4] ∧ Gn wq B b bs (f j).2.1 (nest + 1) w4) := by
                intro wq hq
                refine (HREPH.out j wq hq).mono ?_
                rintro e w4 (⟨_, ⟨K, T, nn, A4, l4, c4, h1, h2⟩, h3⟩ | ⟨h1, _⟩)
                · exact ⟨K, T, nn, A4, l4, c4, h1, h2, h3⟩
                · exact absurd hf0 h1
              obtain ⟨p, e⟩ : ∃ p, (f j).2 = (p, 0) := ⟨(f j).2.1, by rw [← hf0]⟩
              have HFJ := Lib.hid e
              clear e hend harr hw
              go_wp2
              go_region_law (first
                | (go_simp; go_at_call 38; refine (HOK.out _ (by first | exact HRD.out | exact HRDD.out)).mono ?_; rintro en w4 ⟨K, T, nn, A4, l4, c4, rfl, hx, hw4⟩; have hwg : wr.grownBy w4 (some B) := (by first | exact hw4.grown | exact grown_below HD0.out hw4.grown); have HWG := Lib.hid hwg; have HX4 := Lib.hid (show RepAt w4 (fun g => wr.heap.size ≤ g) (f j).1 [.int .i64 K, .string T, .int .i64 nn, .slice A4 l4 c4] from hx); have HR4 := Lib.hid hw4.st; have q3 := (HARR.out.grown hwg hRN).c3; have qf := (HARR.out.grown hwg hRN).f3; have hO4 := (HARR.out.grown hwg hRN).own; rw [HRK.out] at hO4; have HO4 := Lib.hid hO4; have hz4 := hwg.size; have qa : (w4.alloc (.cells #[.int .i64 K, .string T, .int .i64 nn, .slice A4 l4 c4] 25)).cell? ⟨NB, 3, none⟩ = some (.slice Ar k cr) := (((Below.refl w4.heap.size w4).alloc (Nat.le_refl _) _).cell (p := ⟨NB, 3, none⟩) (by show NB < w4.heap.size; omega)).trans q3; clear hx hw4 hwg hO4)
                | (refine step_append_lies _ (by rfl) _ _ _ (by rfl) (NB + 1) 25 i0 _ 4 56 Tryd.underlying23 hi0 hy0 hy1 hy2 rfl (by omega) (.slice Ar k cr) k rows.flatten (by rfl) (by exact HO4.out.alloc _) ⟨w4.heap.size, 0, none⟩ 1 1 [.int .i64 K, .string T, .int .i64 nn, .slice A4 l4 c4] (by rfl) (by rfl) (World.news_of_block (cs := #[.int .i64 K, .string T, .int .i64 nn, .slice A4 l4 c4]) (t := 25) (fr := (0, 0)) (heap_alloc_new w4 _)) (by simp [Value.oneCell']) (by omega) (by unfold maxLen; omega) (by omega) (by simp; omega) (w4.heap.size + 1) (by simp) ?_; intro gg cc w5 hown5 hgrow hgg _; have hgf := grown_below (w := w4) ((Below.refl w4.heap.size w4).alloc (Nat.le_refl _) _) hgrow; have hbN := hgf.block NB (by omega) (fun e => hNE.out e.symm); have p3 := (World.cell?_of_block (a := ⟨NB, 3, none⟩) hbN).trans q3; have pf := (World.frozen?_of_block (a := ⟨NB, 3, none⟩) hbN).trans qf; have HGF := Lib.hid hgf; have HOX := Lib.hid hown5; have HGG := Lib.hid hgg; clear hgrow hgf hbN hown5 hgg))
              all_goals
                have hz5 := HGF.out.size
                have HARR2 := Lib.hid ((HARR.out.grown HWG.out hRN).more (cs := [.int .i64 K, .string T, .int .i64 nn, .slice A4 l4 c4]) HGF.out (by rw [HRK.out]; exact HOX.out))
                have HLT := Lib.hid (fun j (hj : (Value.slice Ar k cr).ownBlock = some j) => own_lt HOWN.out hj)
                have HW5 : Hid (Gn wa B b bs (f j).2.1 (nest + 1) (w5.setCell ⟨NB, 3, none⟩ (.slice (some ⟨gg, 0, none⟩) (k + 1) cc))) :=
                  ((HW.out.trans ⟨HR4.out, HWG.out⟩).grow hBa hba h6a HGF.out (fun j hj => by have := (HLT.out j hj).1; omega)).far _ _ hBa hba h6a (by show wa.heap.size ≤ NB; omega)
                have HKID2 : Hid (Kids (w5.setCell ⟨NB, 3, none⟩ (.slice (some ⟨gg, 0, none⟩) (k + 1) cc)) NB (.slice (some ⟨gg, 0, none⟩) (k + 1) cc) (xs ++ [(f j).1]) (rows ++ [[.int .i64 K, .string T, .int .i64 nn, .slice A4 l4 c4]])) := by
                  have hset : ∀ g, g ≠ NB → (w5.setCell ⟨NB, 3, none⟩ (.slice (some ⟨gg, 0, none⟩) (k + 1) cc)).heap[g]? = w5.heap[g]? := fun g hg => Below.heap_setCell _ _ _ _ hg
                  have hsz : (w5.setCell ⟨NB, 3, none⟩ (.slice (some ⟨gg, 0, none⟩) (k + 1) cc)).heap.size = w5.heap.size := by simp [World.setCell]
                  refine (HKID.out.grown HWG.out hRN).more (by omega) (fun g h1 h2 h3 => ?_) ?_ (HX4.out.keep (by omega) (fun g h1 h2 => ?_) (fun g h1 h2 => ?_))
                  · rw [hset g (by omega)]
                    exact HGF.out.block g h1 (fun e => h3 e.symm)
                  · rcases HGG.out with e | e
                    · exact Or.inl (e.trans rfl)
                    · exact Or.inr ⟨gg, rfl, by omega⟩
                  · have h1 : wr.heap.size ≤ g := h1
                    refine ⟨by omega, fun e => ?_⟩
                    have e : some gg = some g := e
                    injection e with e
                    rcases HGG.out with e2 | e2
                    · have := (HLT.out gg e2).2; omega
                    · omega
                  · have h1 : wr.heap.size ≤ g := h1
                    rw [hset g (by omega)]
                    exact HGF.out.block g h2 (fun e => by have := (HLT.out g e.symm).2; omega)
                have H42 : Hid (∀ r ∈ rows ++ [[.int .i64 K, .string T, .int .i64 nn, .slice A4 l4 c4]], r.length = 4) := by
                  intro r hr
                  rcases List.mem_append.1 hr with hr | hr
                  · exact H4.out r hr
                  · simp at hr; rw [hr]; rfl
                have HRK2 : Hid ((rows ++ [[Value.int .i64 K, .string T, .int .i64 nn, .slice A4 l4 c4]]).length = k + 1) := by unfold Hid; rw [List.length_append, HRK.out]; rfl
                clear p3 pf q3 qf qa
                go_wp2
                go_roundw
                case rel => exact ⟨k + 1, _, _, _, (f j).2.1, by go_num, by omega, HRK2.out, HARR2.out, H42.out, HW5.out, HKID2.out, by have := HM.out; rw [HFJ.out] at this ⊢; exact this⟩
                case measure => simp only [intOf]; omega
            · have HDN := Lib.hid (HM.out.done (Or.inr hf0))
              obtain ⟨F, hF⟩ : ∃ F : Value, faultR ((f j).2.2 : Nat) = F := ⟨_, rfl⟩
              have HBAD : Hid (Calls Tryd.prog 38 #[.pointer (some ⟨B, 0, none⟩)] wr.drew fun e w4 => e = .panicked [{ v := F, recovered := false }] ∧ RPost w B b bs nest (arrT bs (left + 1) i) (.panicked [{ v := F, recovered := false }]) w4) := by
                refine (HREPH.out j wr.drew HRDD.out).mono ?_
                rintro e w4 (⟨h1, _⟩ | ⟨_, h2, mm, h3⟩)
                · exact absurd h1 hf0
                · unfold ThrownR at h2
                  rw [hF] at h2
                  refine ⟨h2, ?_⟩
                  rw [HS.out, HDN.out]
                  refine Or.inr ⟨hf0, ?_, mm, Gn.after HAL.out (HW.out.trans (Gn.after (Below.refl _ _).drew h3))⟩
                  unfold ThrownR
                  rw [← hF]
              clear hF hend harr hw hf0
              go_wp2
              refine wp_region_any (by kernel_rfl) ?_
              change wpAny _ _ _ _ _ _ _ (World.drew _)
              refine wpAny_take (i := 0) (v := ?v0) rfl (by kernel_rfl) (by kernel_rfl) (by kernel_rfl) (fun _ _ _ h => h) (Or.inl ⟨by rfl, ?h0⟩) ?r0
              case h0 => (intro w; go_simp; try with_reducible rfl)
              refine wpAny_take (i := 2) (v := ?v2) rfl (by kernel_rfl) (by kernel_rfl) (by kernel_rfl) (fun _ _ _ h => h) (Or.inl ⟨by rfl, ?h2⟩) ?r2
              case h2 => (intro w; go_simp; try with_reducible rfl)
              refine wpAny_ready (rs := [1, 3]) (by kernel_rfl) (by simp) ?_
              refine AllReady.cons rfl (fun K hK => ?_) (AllReady.cons rfl (fun K hK => ?_) AllReady.nil)
              · go_simp
                refine hK _ _ ?_
                clear hK K
                refine wpAny_ready (rs := [3]) (by kernel_rfl) (by simp) ?_
                refine AllReady.cons rfl (fun K hK => ?_) AllReady.nil
                go_simp
                refine HBAD.out.mono ?_
                rintro e w4 ⟨rfl, hp4⟩
                exact ⟨rfl, hp4⟩
              · go_simp
                refine HBAD.out.mono ?_
                rintro e w4 ⟨rfl, hp4⟩
                exact ⟨rfl, hp4⟩
    · have HS := Lib.hid (HSS.out.trans (if_pos (Or.inl hs1)))
      unfold ThrownR at hth
      have HFI := Lib.hid (show RPost w B b bs nest (arrT bs (left + 1) i) (.panicked [{ v := faultR X.2, recovered := false }]) w2 from by rw [HS.out]; exact Or.inr ⟨hs1, rfl, nest, Gn.after HAL.out HG2.out⟩)
      obtain ⟨F, hF⟩ : ∃ F : Value, faultR X.2 = F := ⟨_, rfl⟩
      rw [hF] at HFI hth
      clear hF
      subst hth
      go_wp2
      exact ⟨rfl, HFI.out⟩

end Go.Proofs.YtppbcdollomebaaDoor
