/-
  Package deque's ring (values: string): the walks of ring's remove and insert. Conditions: the ring lies in memory as it reads.
-/
import Derived.Test.YtkjcoengijedeabGQgS
import Derived.Test.YtkjcoengijedeabDqN
namespace Go.Proofs.Ytkjcoengijedeab
open Go.RowKit

set_option maxRecDepth 100000 in
set_option maxHeartbeats 8000000 in
theorem ringDelS_any {R g N c f i : Nat} {S : Nat → Value} {L : List ByteArray} {v : ByteArray} (w : World) (h : RgAt KDS w R g N c f S L) (hN2 : N ≤ 900000) (hi : i < L.length) (hv : L[i]? = some v) :
    Calls Try.prog 44 #[.pointer (some ⟨R, 0, none⟩), .int .i64 i] w fun e w' => e = .returned ((Value.string) v) ∧ ∃ f' S', RgAt KDS w' R g N c f' S' (delAt L i) ∧ Only (fun k => k = R ∨ k = g) w w' := by
  have hl := h.len
  have hRl := h.hd.lt
  have hgl := (h.row (by omega)).lt
  have c2 : w.cell? ⟨R, 2, none⟩ = some (.int .i64 L.length) := h.hd.cell (i := 2) (by omega)
  have H := Lib.hid h
  obtain ⟨k, hk⟩ : ∃ k, L.length = k := ⟨_, rfl⟩
  have HK := Lib.hid hk
  rw [hk] at c2 hl
  have hik : i < k := by omega
  have hw1 : IntKind.i64.wrap ((k : Int) - 1) = (k : Int) - 1 := IntWalk.i64_in _ (by omega)
  have hw2 : IntKind.i64.wrap ((k : Int) - 1 - (i : Int)) = ((k - 1 - i : Nat) : Int) := by rw [IntWalk.i64_in _ (by omega)]; omega
  clear h hk
  by_cases hlt : (i : Int) < ((k - 1 - i : Nat) : Int)
  · have HNR := Lib.hid (fun X => nearerS_front R (i : Int) ((k - 1 - i : Nat) : Int) hlt X)
    have HDEL := Lib.hid (fun X (hX : RgAt KDS X R g N c f S L) B hB h1 h2 => delFrontS (w := X) (B := B) hX hN2 hi hv hB h1 h2)
    obtain ⟨q, hq⟩ : ∃ q, k - 1 - i = q := ⟨_, rfl⟩
    rw [hq] at HNR hw2
    clear hq hlt hi hv
    go_enter Try.func44, Try.ntmps44
    go_wp2_with fail
    refine (HNR.out _).mono ?_
    rintro e w2 ⟨B, rfl, hBs, hB, hb⟩
    have HA := Lib.hid (Below.alloc (Below.refl w2.heap.size w2) (Nat.le_refl _) (.cells #[.func (.func 68) #[] #[.pointer (some ⟨B, 0, none⟩)], .func (.func 69) #[] #[.pointer (some ⟨B, 0, none⟩)]] 86))
    have HB2 := Lib.hid hb
    have HH2 := Lib.hid ((H.out.below hb).below HA.out)
    have HBC := Lib.hid ((HA.out.cell (p := ⟨B, 0, none⟩) (World.block_lt_of_cell? w2 _ hB)).trans hB)
    have HBR := Lib.hid (show B ≠ R from fun e => by subst e; omega)
    have HBG := Lib.hid (show B ≠ g from fun e => by subst e; omega)
    clear hBs hB hb
    go_wp2_with fail
    refine (HDEL.out _ HH2.out B HBC.out HBR.out HBG.out).mono ?_
    rintro e w4 ⟨rfl, f', S', h4, ho4⟩
    have HR4 := Lib.hid h4
    have HO4 := Lib.hid ((Only.of_below HB2.out).trans ((Only.of_below HA.out).trans ho4))
    clear h4 ho4
    go_wp2
    go_ret
    exact ⟨rfl, f', S', HR4.out, HO4.out⟩
  · have HNR := Lib.hid (fun X => nearerS_back R (i : Int) ((k - 1 - i : Nat) : Int) hlt X)
    have HDEL := Lib.hid (fun X (hX : RgAt KDS X R g N c f S L) B hB h1 h2 => delBackS (w := X) (B := B) hX hN2 hi hv hB h1 h2)
    rw [HK.out] at HDEL
    obtain ⟨q, hq⟩ : ∃ q, k - 1 - i = q := ⟨_, rfl⟩
    rw [hq] at HNR HDEL hw2
    clear hq hlt hi hv
    go_enter Try.func44, Try.ntmps44
    go_wp2_with fail
    refine (HNR.out _).mono ?_
    rintro e w2 ⟨B, rfl, hBs, hB, hb⟩
    have HA := Lib.hid (Below.alloc (Below.refl w2.heap.size w2) (Nat.le_refl _) (.cells #[.func (.func 70) #[] #[.pointer (some ⟨B, 0, none⟩)], .func (.func 71) #[] #[.pointer (some ⟨B, 0, none⟩)]] 86))
    have HB2 := Lib.hid hb
    have HH2 := Lib.hid ((H.out.below hb).below HA.out)
    have HBC := Lib.hid ((HA.out.cell (p := ⟨B, 0, none⟩) (World.block_lt_of_cell? w2 _ hB)).trans hB)
    have HBR := Lib.hid (show B ≠ R from fun e => by subst e; omega)
    have HBG := Lib.hid (show B ≠ g from fun e => by subst e; omega)
    clear hBs hB hb
    go_wp2_with fail
    refine (HDEL.out _ HH2.out B HBC.out HBR.out HBG.out).mono ?_
    rintro e w4 ⟨rfl, f', S', h4, ho4⟩
    have HR4 := Lib.hid h4
    have HO4 := Lib.hid ((Only.of_below HB2.out).trans ((Only.of_below HA.out).trans ho4))
    clear h4 ho4
    go_wp2
    go_ret
    exact ⟨rfl, f', S', HR4.out, HO4.out⟩

set_option maxRecDepth 100000 in
set_option maxHeartbeats 16000000 in
theorem ringInsS_any {R g N c f i : Nat} {S : Nat → Value} {L : List ByteArray} (w : World) (h : RgAt KDS w R g N c f S L) (hN2 : N ≤ 400000) (hi : i ≤ L.length) (v : ByteArray) :
    Calls Try.prog 45 #[.pointer (some ⟨R, 0, none⟩), .int .i64 i, (Value.string) v] w fun e w' => e = .returned (.tuple #[]) ∧ ∃ g' N' c' f' S', (g' = g ∧ 0 < N ∨ w.heap.size ≤ g') ∧ N' ≤ max N (moreS L.length) ∧ RgAt KDS w' R g' N' c' f' S' (insAt L i v) ∧ Only (fun k => k = R ∨ k = g ∧ 0 < N) w w' := by
  have hl := h.len
  have c0 : w.cell? ⟨R, 0, none⟩ = some (slV g N c) := h.hd.cell (i := 0) (by omega)
  have c2 : w.cell? ⟨R, 2, none⟩ = some (.int .i64 L.length) := h.hd.cell (i := 2) (by omega)
  have H := Lib.hid h
  have HI := Lib.hid hi
  obtain ⟨k, hk⟩ : ∃ k, L.length = k := ⟨_, rfl⟩
  have HK := Lib.hid hk
  rw [hk] at c2 hl hi
  obtain ⟨A, hA⟩ : ∃ A, slV g N c = .slice A N (if N = 0 then 0 else c) := by
    unfold slV
    split
    · rename_i e; exact ⟨none, by rw [e]⟩
    · exact ⟨_, rfl⟩
  obtain ⟨cc, hcc⟩ : ∃ cc, (if N = 0 then 0 else c) = cc := ⟨_, rfl⟩
  rw [hcc] at hA
  rw [hA] at c0
  have hw2 : IntKind.i64.wrap ((k : Int) - (i : Int)) = ((k - i : Nat) : Int) := by rw [IntWalk.i64_in _ (by omega)]; omega
  clear h hk hA hcc
  by_cases hfull : k = N
  · have hq : ((k : Int) == (N : Int)) = true := by subst hfull; simp
    have hfn : (k == N) = true := by simpa using hfull
    have HGR := Lib.hid (fun X (hX : RgAt KDS X R g N c f S L) => growS_any X hX (by rw [HK.out]; exact hfull) hN2)
    have HF := Lib.hid hfull
    clear hfull
    go_enter Try.func45, Try.ntmps45
    go_wp2_with fail
    go_quiet (fail)
    go_wp2_with fail
    refine (HGR.out _ (H.out.below (below_drewN _ _ _))).mono ?_
    rintro e w1 ⟨rfl, g1, S1, hg1, hr1, ho1⟩
    obtain ⟨N1, c1, f1, HR1, HNM, HLT, hN3⟩ : ∃ N1 c1 f1, Hid (RgAt KDS w1 R g1 N1 c1 f1 S1 L) ∧ Hid (N1 ≤ max N (moreS L.length)) ∧ Hid (L.length < N1) ∧ N1 ≤ 900000 := ⟨_, _, _, hr1, by unfold Hid; rw [HK.out, HF.out]; omega, by unfold Hid moreS; rw [HK.out, HF.out]; omega, by unfold moreS; omega⟩
    have HG1 : Hid (g1 = g ∧ 0 < N ∨ w.heap.size ≤ g1) := Or.inr hg1
    have HO1 : Hid (Only (· = R) w w1) := (Only.drewN _ _ _).trans ho1
    have e2 : w1.cell? ⟨R, 2, none⟩ = some (.int .i64 k) := by rw [← HK.out]; exact HR1.out.hd.cell (i := 2) (by omega)
    clear hg1 hr1 ho1
    by_cases hlt : (i : Int) < ((k - i : Nat) : Int)
    · have HNR := Lib.hid (fun X => nearerS_front R (i : Int) ((k - i : Nat) : Int) hlt X)
      have HINS := Lib.hid (fun X (hX : RgAt KDS X R g1 N1 c1 f1 S1 L) B hB h1 h2 => insFrontS (w := X) (B := B) hX HLT.out hN3 HI.out v hB h1 h2)
      obtain ⟨q, hq⟩ : ∃ q, k - i = q := ⟨_, rfl⟩
      rw [hq] at HNR hw2
      clear hq hlt
      go_wp2_with fail
      refine (HNR.out _).mono ?_
      rintro e w2 ⟨B, rfl, hBs, hB, hb⟩
      have HA := Lib.hid (Below.alloc (Below.refl w2.heap.size w2) (Nat.le_refl _) (.cells #[.func (.func 68) #[] #[.pointer (some ⟨B, 0, none⟩)], .func (.func 69) #[] #[.pointer (some ⟨B, 0, none⟩)]] 86))
      have HB2 := Lib.hid hb
      have HH2 := Lib.hid ((HR1.out.below hb).below HA.out)
      have HBC := Lib.hid ((HA.out.cell (p := ⟨B, 0, none⟩) (World.block_lt_of_cell? w2 _ hB)).trans hB)
      have HBR := Lib.hid (show B ≠ R from fun e => by subst e; have := HR1.out.hd.lt; omega)
      have HBG := Lib.hid (show B ≠ g1 from fun e => by subst e; have := (HR1.out.row (by have := HLT.out; omega)).lt; omega)
      clear hBs hB hb
      go_wp2_with fail
      refine (HINS.out _ HH2.out B HBC.out HBR.out HBG.out).mono ?_
      rintro e w4 ⟨rfl, f', S', h4, ho4⟩
      have HR4 := Lib.hid h4
      have HO4 := Lib.hid ((Only.of_below (p := fun k => k = R ∨ k = g1) HB2.out).trans ((Only.of_below HA.out).trans ho4))
      clear h4 ho4
      go_wp2
      go_end0
      exact ⟨rfl, g1, N1, c1, f', S', HG1.out, HNM.out, HR4.out, HO1.out.ring HO4.out HG1.out⟩
    · have HNR := Lib.hid (fun X => nearerS_back R (i : Int) ((k - i : Nat) : Int) hlt X)
      have HINS := Lib.hid (fun X (hX : RgAt KDS X R g1 N1 c1 f1 S1 L) B hB h1 h2 => insBackS (w := X) (B := B) hX HLT.out hN3 HI.out v hB h1 h2)
      rw [HK.out] at HINS
      obtain ⟨q, hq⟩ : ∃ q, k - i = q := ⟨_, rfl⟩
      rw [hq] at HNR hw2 HINS
      clear hq hlt
      go_wp2_with fail
      refine (HNR.out _).mono ?_
      rintro e w2 ⟨B, rfl, hBs, hB, hb⟩
      have HA := Lib.hid (Below.alloc (Below.refl w2.heap.size w2) (Nat.le_refl _) (.cells #[.func (.func 70) #[] #[.pointer (some ⟨B, 0, none⟩)], .func (.func 71) #[] #[.pointer (some ⟨B, 0, none⟩)]] 86))
      have HB2 := Lib.hid hb
      have HH2 := Lib.hid ((HR1.out.below hb).below HA.out)
      have HBC := Lib.hid ((HA.out.cell (p := ⟨B, 0, none⟩) (World.block_lt_of_cell? w2 _ hB)).trans hB)
      have HBR := Lib.hid (show B ≠ R from fun e => by subst e; have := HR1.out.hd.lt; omega)
      have HBG := Lib.hid (show B ≠ g1 from fun e => by subst e; have := (HR1.out.row (by have := HLT.out; omega)).lt; omega)
      clear hBs hB hb
      go_wp2_with fail
      refine (HINS.out _ HH2.out B HBC.out HBR.out HBG.out).mono ?_
      rintro e w4 ⟨rfl, f', S', h4, ho4⟩
      have HR4 := Lib.hid h4
      have HO4 := Lib.hid ((Only.of_below (p := fun k => k = R ∨ k = g1) HB2.out).trans ((Only.of_below HA.out).trans ho4))
      clear h4 ho4
      go_wp2
      go_end0
      exact ⟨rfl, g1, N1, c1, f', S', HG1.out, HNM.out, HR4.out, HO1.out.ring HO4.out HG1.out⟩
  · have hq : ((k : Int) == (N : Int)) = false := by simp; omega
    have hN0 : 0 < N := by omega
    have HF : Hid (L.length < N) := by unfold Hid; rw [HK.out]; omega
    have hfn : (k == N) = false := by simpa using hfull
    clear hfull
    go_enter Try.func45, Try.ntmps45
    go_wp2_with fail
    go_quiet (fail)
    obtain ⟨w1, hw1⟩ : ∃ w1, w.drewN nq = w1 := ⟨_, rfl⟩
    have hr1 := H.out.below (below_drewN w.heap.size w nq)
    have ho1 := Only.drewN (· = R) w nq
    rw [hw1] at hr1 ho1 ⊢
    obtain ⟨g1, N1, c1, f1, S1, HR1, HG1, HNM, HLT, hN3⟩ : ∃ g1 N1 c1 f1 S1, Hid (RgAt KDS w1 R g1 N1 c1 f1 S1 L) ∧ Hid (g1 = g ∧ 0 < N ∨ w.heap.size ≤ g1) ∧ Hid (N1 ≤ max N (moreS L.length)) ∧ Hid (L.length < N1) ∧ N1 ≤ 900000 := ⟨_, _, _, _, _, hr1, Or.inl ⟨rfl, hN0⟩, by unfold Hid; omega, HF, by omega⟩
    have HO1 : Hid (Only (· = R) w w1) := ho1
    have e2 : w1.cell? ⟨R, 2, none⟩ = some (.int .i64 k) := by rw [← HK.out]; exact HR1.out.hd.cell (i := 2) (by omega)
    clear hw1 hr1 ho1
    by_cases hlt : (i : Int) < ((k - i : Nat) : Int)
    · have HNR := Lib.hid (fun X => nearerS_front R (i : Int) ((k - i : Nat) : Int) hlt X)
      have HINS := Lib.hid (fun X (hX : RgAt KDS X R g1 N1 c1 f1 S1 L) B hB h1 h2 => insFrontS (w := X) (B := B) hX HLT.out hN3 HI.out v hB h1 h2)
      obtain ⟨q, hq⟩ : ∃ q, k - i = q := ⟨_, rfl⟩
      rw [hq] at HNR hw2
      clear hq hlt
      go_wp2_with fail
      refine (HNR.out _).mono ?_
      rintro e w2 ⟨B, rfl, hBs, hB, hb⟩
      have HA := Lib.hid (Below.alloc (Below.refl w2.heap.size w2) (Nat.le_refl _) (.cells #[.func (.func 68) #[] #[.pointer (some ⟨B, 0, none⟩)], .func (.func 69) #[] #[.pointer (some ⟨B, 0, none⟩)]] 86))
      have HB2 := Lib.hid hb
      have HH2 := Lib.hid ((HR1.out.below hb).below HA.out)
      have HBC := Lib.hid ((HA.out.cell (p := ⟨B, 0, none⟩) (World.block_lt_of_cell? w2 _ hB)).trans hB)
      have HBR := Lib.hid (show B ≠ R from fun e => by subst e; have := HR1.out.hd.lt; omega)
      have HBG := Lib.hid (show B ≠ g1 from fun e => by subst e; have := (HR1.out.row (by have := HLT.out; omega)).lt; omega)
      clear hBs hB hb
      go_wp2_with fail
      refine (HINS.out _ HH2.out B HBC.out HBR.out HBG.out).mono ?_
      rintro e w4 ⟨rfl, f', S', h4, ho4⟩
      have HR4 := Lib.hid h4
      have HO4 := Lib.hid ((Only.of_below (p := fun k => k = R ∨ k = g1) HB2.out).trans ((Only.of_below HA.out).trans ho4))
      clear h4 ho4
      go_wp2
      go_end0
      exact ⟨rfl, g1, N1, c1, f', S', HG1.out, HNM.out, HR4.out, HO1.out.ring HO4.out HG1.out⟩
    · have HNR := Lib.hid (fun X => nearerS_back R (i : Int) ((k - i : Nat) : Int) hlt X)
      have HINS := Lib.hid (fun X (hX : RgAt KDS X R g1 N1 c1 f1 S1 L) B hB h1 h2 => insBackS (w := X) (B := B) hX HLT.out hN3 HI.out v hB h1 h2)
      rw [HK.out] at HINS
      obtain ⟨q, hq⟩ : ∃ q, k - i = q := ⟨_, rfl⟩
      rw [hq] at HNR hw2 HINS
      clear hq hlt
      go_wp2_with fail
      refine (HNR.out _).mono ?_
      rintro e w2 ⟨B, rfl, hBs, hB, hb⟩
      have HA := Lib.hid (Below.alloc (Below.refl w2.heap.size w2) (Nat.le_refl _) (.cells #[.func (.func 70) #[] #[.pointer (some ⟨B, 0, none⟩)], .func (.func 71) #[] #[.pointer (some ⟨B, 0, none⟩)]] 86))
      have HB2 := Lib.hid hb
      have HH2 := Lib.hid ((HR1.out.below hb).below HA.out)
      have HBC := Lib.hid ((HA.out.cell (p := ⟨B, 0, none⟩) (World.block_lt_of_cell? w2 _ hB)).trans hB)
      have HBR := Lib.hid (show B ≠ R from fun e => by subst e; have := HR1.out.hd.lt; omega)
      have HBG := Lib.hid (show B ≠ g1 from fun e => by subst e; have := (HR1.out.row (by have := HLT.out; omega)).lt; omega)
      clear hBs hB hb
      go_wp2_with fail
      refine (HINS.out _ HH2.out B HBC.out HBR.out HBG.out).mono ?_
      rintro e w4 ⟨rfl, f', S', h4, ho4⟩
      have HR4 := Lib.hid h4
      have HO4 := Lib.hid ((Only.of_below (p := fun k => k = R ∨ k = g1) HB2.out).trans ((Only.of_below HA.out).trans ho4))
      clear h4 ho4
      go_wp2
      go_end0
      exact ⟨rfl, g1, N1, c1, f', S', HG1.out, HNM.out, HR4.out, HO1.out.ring HO4.out HG1.out⟩

end Go.Proofs.Ytkjcoengijedeab
