/-
  Package ring: the walks of Fork and Follow; a ring that nobody made. Conditions: the ring lies in memory as typed.
-/
import Derived.Test.YtbecjaamheibmaaRgH
namespace Go.Proofs.Ytbecjaamheibmaa
open Go.RowKit

section
variable {w w' : World} {base p s : Nat} {F : Nat → Prop} {h : Hst} {X : Tx}

theorem only4 (hF : F p) (w : World) (a b c d : Value) : Chg F F w ((((w.setCell ⟨p, 1, none⟩ a).setCell ⟨p, 2, none⟩ b).setCell ⟨p, 3, none⟩ c).setCell ⟨p, 4, none⟩ d) :=
  ⟨((((Only.refl F w).set (q := ⟨p, 1, none⟩) hF _).set (q := ⟨p, 2, none⟩) hF _).set (q := ⟨p, 3, none⟩) hF _).set (q := ⟨p, 4, none⟩) hF _, fun _ q => Or.inl q⟩
theorem only3 (hF : F p) (w : World) (a b c : Value) : Chg F F w (((w.setCell ⟨p, 5, none⟩ a).setCell ⟨p, 6, none⟩ b).setCell ⟨p, 7, none⟩ c) :=
  ⟨(((Only.refl F w).set (q := ⟨p, 5, none⟩) hF _).set (q := ⟨p, 6, none⟩) hF _).set (q := ⟨p, 7, none⟩) hF _, fun _ q => Or.inl q⟩

set_option maxRecDepth 100000 in
set_option maxHeartbeats 8000000 in
theorem fork_any (w : World) (H : RgOn w base F p s h X) (id : Int) (hi1 : 0 ≤ id) (hi2 : id ≤ 18446744073709551615) :
    Calls Try.prog 27 #[.pointer (some ⟨p, 0, none⟩), .int .u64 id] w fun e w' => e = .returned (.int .i64 (fkE h id)) ∧ RgTo w base F p s (fkH h id) X w' := by
  have HM := Lib.hid (made_any w H)
  have HH := Lib.hid H
  obtain ⟨c0, c1, c2, c3, c4, c5, c6⟩ := H.cells
  obtain ⟨wa, hwa⟩ : ∃ wa, w.alloc (.cells #[.int .u64 h.id, .int .i64 h.off, .int .u64 h.sec, .int .i64 h.frk] 43) = wa := ⟨_, rfl⟩
  have hba : Below w.heap.size w wa := by rw [← hwa]; exact (Below.refl _ _).alloc (Nat.le_refl _) _
  have Ha := H.below hba
  have HHA := Lib.hid Ha
  have hra : wa.rowIs w.heap.size 43 4 (fun i => if i = 0 then .int .u64 h.id else if i = 1 then .int .i64 h.off else if i = 2 then .int .u64 h.sec else .int .i64 h.frk) := by
    rw [← hwa]
    exact World.rowIs_alloc w _ _ _ (fun i hi => by
      have hi : i < 4 := hi
      rcases (by omega : i = 0 ∨ i = 1 ∨ i = 2 ∨ i = 3) with rfl | rfl | rfl | rfl <;> rfl)
  obtain ⟨M, hM⟩ : ∃ M, w.heap.size = M := ⟨_, rfl⟩
  have k0 : wa.cell? ⟨M, 0, none⟩ = some (.int .u64 h.id) := by rw [← hM]; exact hra.cell (i := 0) (by omega)
  have k1 : wa.cell? ⟨M, 1, none⟩ = some (.int .i64 h.off) := by rw [← hM]; exact hra.cell (i := 1) (by omega)
  have hpM : p < M := by rw [← hM]; exact H.lt
  have f1 := H.frozen 1
  have f2 := H.frozen 2
  have f3 := H.frozen 3
  have f4 := H.frozen 4
  have hoff := H.o2
  have hxo := H.xo
  have hi1' := H.i1
  have HW := Lib.hid hwa
  have HMM := Lib.hid hM
  have HB := Lib.hid hba
  have HNO : Hid (RgTo w base F p s h X wa) := ⟨F, Ha, Chg.of_below hba⟩
  unfold fkE fkH
  by_cases h0 : id = 0
  · subst h0
    rw [if_pos (Or.inl rfl), if_pos (Or.inl rfl)]
    obtain ⟨hi, off, sec, frk⟩ := h
    dsimp only at c1 c2 c3 c4 k0 k1 HW
    clear hwa hM hba hra H Ha c0 c5 c6 f1 f2 f3 f4 hoff hxo hi1'
    go_enter Try.func27, Try.ntmps27
    go_wp2_with fail
    refine HM.out.mono ?_
    rintro e w2 ⟨rfl, rfl⟩
    go_wp2
    go_ret
    exact ⟨rfl, by rw [HW.out]; exact HNO.out⟩
  · have h0b : (id == 0) = false := by simpa using h0
    by_cases hid : id = h.id
    · subst hid
      rw [if_pos (Or.inr rfl), if_pos (Or.inr rfl)]
      obtain ⟨hi, off, sec, frk⟩ := h
      dsimp only at c1 c2 c3 c4 k0 k1 HW h0 h0b ⊢
      clear hwa hM hba hra H Ha c0 c5 c6 f1 f2 f3 f4 hoff hxo hi1'
      go_enter Try.func27, Try.ntmps27
      go_wp2_with fail
      refine HM.out.mono ?_
      rintro e w2 ⟨rfl, rfl⟩
      go_wp2
      go_ret
      exact ⟨rfl, by rw [HW.out]; exact HNO.out⟩
    · have hidb : (id == h.id) = false := by simpa using hid
      have HEND : Hid (RgTo w base F p s ⟨id, h.off, h.id, h.off⟩ X (((((w.setCell ⟨p, 1, none⟩ (.int .u64 id)).setCell ⟨p, 2, none⟩ (.int .i64 h.off)).setCell ⟨p, 3, none⟩ (.int .u64 h.id)).setCell ⟨p, 4, none⟩ (.int .i64 h.off)).alloc (.cells #[.int .u64 h.id, .int .i64 h.off, .int .u64 h.sec, .int .i64 h.frk] 43))) := by
        have hb : Below ((((w.setCell ⟨p, 1, none⟩ (.int .u64 id)).setCell ⟨p, 2, none⟩ (.int .i64 h.off)).setCell ⟨p, 3, none⟩ (.int .u64 h.id)).setCell ⟨p, 4, none⟩ (.int .i64 h.off)).heap.size ((((w.setCell ⟨p, 1, none⟩ (.int .u64 id)).setCell ⟨p, 2, none⟩ (.int .i64 h.off)).setCell ⟨p, 3, none⟩ (.int .u64 h.id)).setCell ⟨p, 4, none⟩ (.int .i64 h.off)) (((((w.setCell ⟨p, 1, none⟩ (.int .u64 id)).setCell ⟨p, 2, none⟩ (.int .i64 h.off)).setCell ⟨p, 3, none⟩ (.int .u64 h.id)).setCell ⟨p, 4, none⟩ (.int .i64 h.off)).alloc (.cells #[.int .u64 h.id, .int .i64 h.off, .int .u64 h.sec, .int .i64 h.frk] 43)) := (Below.refl _ _).alloc (Nat.le_refl _) _
        exact ⟨F, ⟨(H.ls.hist ⟨id, h.off, h.id, h.off⟩).below hb, H.s1, H.s2, H.xo, H.o2, ⟨by show 0 < id; omega, hi2⟩, ⟨by have := H.i1; show 0 ≤ h.id; omega, H.i1.2⟩, ⟨by show 0 ≤ h.off; omega, H.o2⟩⟩, (only4 H.ls.2.1 w _ _ _ _).trans (Chg.of_below hb)⟩
      rw [if_neg (by simp [h0, hid]), if_neg (by simp [h0, hid])]
      have hpM2 : p < w.heap.size := by rw [hM]; exact hpM
      have hpM3 : ¬ p = w.heap.size := by omega
      obtain ⟨hi, off, sec, frk⟩ := h
      dsimp only at c1 c2 c3 c4 k0 k1 HW hid hidb HEND ⊢
      clear hwa hM hba hra H Ha c0 c5 c6 hoff hxo hi1'
      go_enter Try.func27, Try.ntmps27
      go_wp2_with fail
      refine HM.out.mono ?_
      rintro e w2 ⟨rfl, rfl⟩
      go_wp2
      go_ret
      exact ⟨rfl, HEND.out⟩

set_option maxRecDepth 100000 in
set_option maxHeartbeats 8000000 in
theorem follow_any (w : World) (H : RgOn w base F p s h X) (id o : Int) (hi1 : 0 ≤ id) (hi2 : id ≤ 18446744073709551615) :
    Calls Try.prog 28 #[.pointer (some ⟨p, 0, none⟩), .int .u64 id, .int .i64 o] w fun e w' => e = .returned (.int .i64 (flE id o)) ∧ RgTo w base F p s (flH h id o) (flX X id o) w' := by
  have HM := Lib.hid (made_any w H)
  have HNO : Hid (RgTo w base F p s h X w) := ⟨F, H, Chg.refl F w⟩
  unfold flE flH flX
  by_cases h0 : id = 0
  · subst h0
    rw [if_pos (Or.inl rfl), if_pos (Or.inl rfl), if_pos (Or.inl rfl)]
    clear H
    go_enter Try.func28, Try.ntmps28
    go_wp2_with fail
    refine HM.out.mono ?_
    rintro e w2 ⟨rfl, rfl⟩
    go_wp2
    go_ret
    exact ⟨rfl, HNO.out⟩
  · have h0b : (id == 0) = false := by simpa using h0
    by_cases h1 : o < 0
    · rw [if_pos (Or.inr (Or.inl h1)), if_pos (Or.inr (Or.inl h1)), if_pos (Or.inr (Or.inl h1))]
      clear H
      go_enter Try.func28, Try.ntmps28
      go_wp2_with fail
      refine HM.out.mono ?_
      rintro e w2 ⟨rfl, rfl⟩
      go_wp2
      go_ret
      exact ⟨rfl, HNO.out⟩
    · have h1b : decide (o < 0) = false := by simpa using h1
      by_cases h2 : 1125899906842624 < o
      · rw [if_pos (Or.inr (Or.inr h2)), if_pos (Or.inr (Or.inr h2)), if_pos (Or.inr (Or.inr h2))]
        clear H
        go_enter Try.func28, Try.ntmps28
        go_wp2_with fail
        refine HM.out.mono ?_
        rintro e w2 ⟨rfl, rfl⟩
        go_wp2
        go_ret
        exact ⟨rfl, HNO.out⟩
      · have h2b : decide (1125899906842624 < o) = false := by simpa using h2
        have hn : ¬ (id = 0 ∨ o < 0 ∨ 1125899906842624 < o) := by simp [h0, h1, h2]
        rw [if_neg hn, if_neg hn, if_neg hn]
        obtain ⟨sl, hp⟩ := H.row
        have c1 := hp.cell (i := 1) (by omega)
        have c2 := hp.cell (i := 2) (by omega)
        have c3 := hp.cell (i := 3) (by omega)
        have c4 := hp.cell (i := 4) (by omega)
        have c5 : w.cell? ⟨p, 5, none⟩ = some (.int .i64 s) := hp.cell (i := 5) (by omega)
        have c6 := hp.cell (i := 6) (by omega)
        have c7 := hp.cell (i := 7) (by omega)
        have f1 := hp.frozen 1
        have f2 := hp.frozen 2
        have f3 := hp.frozen 3
        have f4 := hp.frozen 4
        have f5 := hp.frozen 5
        have f6 := hp.frozen 6
        have f7 := hp.frozen 7
        obtain ⟨u1, hu1⟩ : ∃ u, rgV p h s X.length sl 1 = u := ⟨_, rfl⟩
        obtain ⟨u2, hu2⟩ : ∃ u, rgV p h s X.length sl 2 = u := ⟨_, rfl⟩
        obtain ⟨u3, hu3⟩ : ∃ u, rgV p h s X.length sl 3 = u := ⟨_, rfl⟩
        obtain ⟨u4, hu4⟩ : ∃ u, rgV p h s X.length sl 4 = u := ⟨_, rfl⟩
        obtain ⟨u6, hu6⟩ : ∃ u, rgV p h s X.length sl 6 = u := ⟨_, rfl⟩
        obtain ⟨u7, hu7⟩ : ∃ u, rgV p h s X.length sl 7 = u := ⟨_, rfl⟩
        rw [hu1] at c1
        rw [hu2] at c2
        rw [hu3] at c3
        rw [hu4] at c4
        rw [hu6] at c6
        rw [hu7] at c7
        have HEND : Hid (RgTo w base F p s ⟨id, o, 0, 0⟩ [] ((((((((w.setCell ⟨p, 1, none⟩ (.int .u64 id)).setCell ⟨p, 2, none⟩ (.int .i64 o)).setCell ⟨p, 3, none⟩ (.int .u64 0)).setCell ⟨p, 4, none⟩ (.int .i64 0)).setCell ⟨p, 5, none⟩ (.int .i64 s)).setCell ⟨p, 6, none⟩ (.int .i64 0)).setCell ⟨p, 7, none⟩ (.slice none 0 0)))) :=
          ⟨F, ⟨(H.ls.hist ⟨id, o, 0, 0⟩).fresh, H.s1, H.s2, by simp; omega, by simp; omega, ⟨by show 0 < id; omega, hi2⟩, by simp, by simp⟩, (only4 H.ls.2.1 w _ _ _ _).trans (only3 H.ls.2.1 _ _ _ _)⟩
        clear H hp hu1 hu2 hu3 hu4 hu6 hu7 hn
        go_enter Try.func28, Try.ntmps28
        go_wp2_with fail
        refine HM.out.mono ?_
        rintro e w2 ⟨rfl, rfl⟩
        go_wp2
        go_ret
        exact ⟨rfl, HEND.out⟩

end

end Go.Proofs.Ytbecjaamheibmaa
