/-
  The document's ring: the walks of Accepts, Feed, Fork, Follow. Conditions: the ring lies in memory as typed; what is fed lies elsewhere.
-/
import Derived.Test.YtbecjaamheibmaaRfB
namespace Go.Proofs.Ytbecjaamheibmaa
open Go.RowKit

section
variable {w w' : World} {base q s : Nat} {G : Nat → Prop} {h : Hst} {X : Tx}

/-- A ring that an act has led on. -/
def RfTo (w : World) (base : Nat) (G : Nat → Prop) (q s : Nat) (h : Hst) (X : Tx) (w' : World) : Prop := ∃ G', RfOn w' base G' q s h X ∧ Chg G G' w w'

set_option maxRecDepth 100000 in
set_option maxHeartbeats 16000000 in
theorem raccepts_any (w : World) (H : RfOn w base G q s h X) (id o : Int) : Calls Try.prog 19 #[.pointer (some ⟨q, 0, none⟩), .int .u64 id, .int .i64 o] w fun e w' => e = .returned (.bool (accB s h X id o)) ∧ w' = w ∨ e = .returned (.bool (accB s h X id o)) ∧ ∃ n, w' = w.drewN n := by
  obtain ⟨A, n, c, hn, hb, c0, c1, c2, c3, c4, c5, hf⟩ := H.cells
  have HF := Lib.hid (rfirst_any w H)
  rw [← acc_doc H.i1.1]
  unfold hasB
  obtain ⟨f, hff⟩ : ∃ f, frstO s h X = f := ⟨_, rfl⟩
  rw [hff] at HF ⊢
  obtain ⟨hi, off, sec, frk⟩ := h
  dsimp only at c0 c1 c2 c3 ⊢
  clear hf hb hn H hff c4 c5
  by_cases h0 : id = 0
  · subst h0
    rw [show decide ((0 : Int) ≠ 0 ∧ ((0 : Int) = hi ∨ (0 : Int) = sec ∧ o ≤ frk)) = false by simp, Bool.false_and]
    go_enter Try.func19, Try.ntmps19
    go_wp2
    go_ret
    exact Or.inl ⟨rfl, rfl⟩
  · have h0b : (id == 0) = false := by simpa using h0
    have h0n : (id != 0) = true := by simpa using h0
    by_cases hid : id = hi
    · subst hid
      rw [show decide (id ≠ 0 ∧ (id = id ∨ id = sec ∧ o ≤ frk)) = true by simp [h0], Bool.true_and]
      by_cases h1 : f ≤ o
      · by_cases h2 : o ≤ off
        · rw [show decide (f ≤ o ∧ o ≤ off) = true by simp [h1, h2]]
          go_enter Try.func19, Try.ntmps19
          go_wp2_with fail
          refine HF.out.mono ?_
          rintro e w2 ⟨rfl, n2, rfl⟩
          go_wp2
          go_ret
          exact Or.inr ⟨rfl, _, rfl⟩
        · have h2b : decide (o ≤ off) = false := by simpa using h2
          rw [show decide (f ≤ o ∧ o ≤ off) = false by simp [h2]]
          go_enter Try.func19, Try.ntmps19
          go_wp2_with fail
          refine HF.out.mono ?_
          rintro e w2 ⟨rfl, n2, rfl⟩
          go_wp2
          go_ret
          exact Or.inr ⟨rfl, _, rfl⟩
      · have h1b : decide (f ≤ o) = false := by simpa using h1
        rw [show decide (f ≤ o ∧ o ≤ off) = false by simp [h1]]
        go_enter Try.func19, Try.ntmps19
        go_wp2_with fail
        refine HF.out.mono ?_
        rintro e w2 ⟨rfl, n2, rfl⟩
        go_wp2
        go_ret
        exact Or.inr ⟨rfl, _, rfl⟩
    · have hidb : (id == hi) = false := by simpa using hid
      by_cases hs : id = sec
      · subst hs
        by_cases hk : o ≤ frk
        · rw [show decide (id ≠ 0 ∧ (id = hi ∨ id = id ∧ o ≤ frk)) = true by simp [h0, hk], Bool.true_and]
          by_cases h1 : f ≤ o
          · by_cases h2 : o ≤ off
            · rw [show decide (f ≤ o ∧ o ≤ off) = true by simp [h1, h2]]
              go_enter Try.func19, Try.ntmps19
              go_wp2_with fail
              refine HF.out.mono ?_
              rintro e w2 ⟨rfl, n2, rfl⟩
              go_wp2
              go_ret
              exact Or.inr ⟨rfl, _, rfl⟩
            · have h2b : decide (o ≤ off) = false := by simpa using h2
              rw [show decide (f ≤ o ∧ o ≤ off) = false by simp [h2]]
              go_enter Try.func19, Try.ntmps19
              go_wp2_with fail
              refine HF.out.mono ?_
              rintro e w2 ⟨rfl, n2, rfl⟩
              go_wp2
              go_ret
              exact Or.inr ⟨rfl, _, rfl⟩
          · have h1b : decide (f ≤ o) = false := by simpa using h1
            rw [show decide (f ≤ o ∧ o ≤ off) = false by simp [h1]]
            go_enter Try.func19, Try.ntmps19
            go_wp2_with fail
            refine HF.out.mono ?_
            rintro e w2 ⟨rfl, n2, rfl⟩
            go_wp2
            go_ret
            exact Or.inr ⟨rfl, _, rfl⟩
        · have hkb : decide (o ≤ frk) = false := by simpa using hk
          rw [show decide (id ≠ 0 ∧ (id = hi ∨ id = id ∧ o ≤ frk)) = false by simp [hid, hk], Bool.false_and]
          go_enter Try.func19, Try.ntmps19
          go_wp2
          go_ret
          exact Or.inl ⟨rfl, rfl⟩
      · have hsb : (id == sec) = false := by simpa using hs
        rw [show decide (id ≠ 0 ∧ (id = hi ∨ id = sec ∧ o ≤ frk)) = false by simp [hid, hs], Bool.false_and]
        go_enter Try.func19, Try.ntmps19
        go_wp2
        go_ret
        exact Or.inl ⟨rfl, rfl⟩

theorem RfOn.hist (H : RfOn w base G q s h X) (h' : Hst) {X' : Tx} (e : lastN s X' = lastN s X) (hx : (X'.length : Int) ≤ h'.off) (ho : h'.off ≤ 1125899906842624) (hi : 0 < h'.id ∧ h'.id ≤ 18446744073709551615) (hs : 0 ≤ h'.sec ∧ h'.sec ≤ 18446744073709551615) (hf : 0 ≤ h'.frk ∧ h'.frk ≤ 1125899906842624) {w' : World} (hr : ∀ sl, w.rowIs q 46 6 (rfV h s sl) → w'.rowIs q 46 6 (rfV h' s sl)) (hc : Only (· = q) w w') : RfTo w base G q s h' X' w' := by
  obtain ⟨A, n, c, hp, hb, hG⟩ := H.mem
  refine ⟨G, ⟨fun k hk => ⟨(H.own k hk).1, Nat.lt_of_lt_of_le (H.own k hk).2 hc.size⟩, H.me, ⟨A, n, c, hr _ hp, by rw [e]; exact hb.only hc (fun g o h0 e q => (hG g o h0 e).2 q), hG⟩, H.s1, H.s2, hx, ho, hi, hs, hf⟩, hc.mono (fun k e => e ▸ H.me), fun k hk => Or.inl hk⟩

set_option maxRecDepth 100000 in
set_option maxHeartbeats 8000000 in
theorem rfork_any (w : World) (H : RfOn w base G q s h X) (id : Int) (hi1 : 0 ≤ id) (hi2 : id ≤ 18446744073709551615) :
    Calls Try.prog 30 #[.pointer (some ⟨q, 0, none⟩), .int .u64 id] w fun e w' => e = .returned (.int .i64 (fkE h id)) ∧ RfTo w base G q s (fkH h id) X w' := by
  obtain ⟨A, n, c, hn, hb, c0, c1, c2, c3, c4, c5, hf⟩ := H.cells
  have f0 := hf 0
  have f2 := hf 2
  have f3 := hf 3
  have HNO : Hid (RfTo w base G q s h X w) := ⟨G, H, Chg.refl G w⟩
  unfold fkE fkH
  by_cases h0 : id = 0
  · subst h0
    rw [if_pos (Or.inl rfl), if_pos (Or.inl rfl)]
    clear H hf hn hb c4 c5
    go_enter Try.func30, Try.ntmps30
    go_wp2
    go_ret
    exact ⟨rfl, HNO.out⟩
  · have h0b : (id == 0) = false := by simpa using h0
    by_cases hid : id = h.id
    · subst hid
      rw [if_pos (Or.inr rfl), if_pos (Or.inr rfl)]
      obtain ⟨hi, off, sec, frk⟩ := h
      dsimp only at c0 c1 c2 c3 h0 h0b ⊢
      clear H hf hn hb c4 c5
      go_enter Try.func30, Try.ntmps30
      go_wp2
      go_ret
      exact ⟨rfl, HNO.out⟩
    · have hidb : (id == h.id) = false := by simpa using hid
      rw [if_neg (by simp [h0, hid]), if_neg (by simp [h0, hid])]
      have HEND : Hid (∀ nq w', w' = (((w.drewN nq).setCell ⟨q, 2, none⟩ (.int .u64 h.id)).setCell ⟨q, 3, none⟩ (.int .i64 h.off)).setCell ⟨q, 0, none⟩ (.int .u64 id) → RfTo w base G q s ⟨id, h.off, h.id, h.off⟩ X w') := fun nq w' hw' => by
        subst hw'
        refine H.hist ⟨id, h.off, h.id, h.off⟩ rfl H.xo H.o2 ⟨by show 0 < id; omega, hi2⟩ ⟨by have := H.i1; show 0 ≤ h.id; omega, H.i1.2⟩ ⟨by have := H.xo; show 0 ≤ h.off; omega, H.o2⟩ (fun sl hp => ((World.rowIs.set (World.rowIs.set (World.rowIs.set (w := w.drewN nq) hp 2 _) 3 _) 0 _)).congr (fun i hi => ?_)) (Only.trans (p := (· = q)) (Only.drewN _ w nq) ((((Only.refl (· = q) (w.drewN nq)).set (q := ⟨q, 2, none⟩) rfl _).set (q := ⟨q, 3, none⟩) rfl _).set (q := ⟨q, 0, none⟩) rfl _))
        unfold rfV
        rcases (by omega : i = 0 ∨ i = 1 ∨ i = 2 ∨ i = 3 ∨ i = 4 ∨ i = 5) with rfl | rfl | rfl | rfl | rfl | rfl <;> rfl
      obtain ⟨hi, off, sec, frk⟩ := h
      dsimp only at c0 c1 c2 c3 hid hidb HEND ⊢
      clear H hf hn hb c4 c5
      go_enter Try.func30, Try.ntmps30
      go_wp2_with fail
      go_region
      all_goals
        go_wp2
        go_ret
        exact ⟨rfl, HEND.out _ _ rfl⟩

set_option maxRecDepth 100000 in
set_option maxHeartbeats 8000000 in
theorem rfollow_any (w : World) (H : RfOn w base G q s h X) (id o : Int) (hi1 : 0 ≤ id) (hi2 : id ≤ 18446744073709551615) :
    Calls Try.prog 31 #[.pointer (some ⟨q, 0, none⟩), .int .u64 id, .int .i64 o] w fun e w' => e = .returned (.int .i64 (flE id o)) ∧ RfTo w base G q s (flH h id o) (flX X id o) w' := by
  have HNO : Hid (RfTo w base G q s h X w) := ⟨G, H, Chg.refl G w⟩
  unfold flE flH flX
  by_cases h0 : id = 0
  · subst h0
    rw [if_pos (Or.inl rfl), if_pos (Or.inl rfl), if_pos (Or.inl rfl)]
    clear H
    go_enter Try.func31, Try.ntmps31
    go_wp2
    go_ret
    exact ⟨rfl, HNO.out⟩
  · have h0b : (id == 0) = false := by simpa using h0
    by_cases h1 : o < 0
    · rw [if_pos (Or.inr (Or.inl h1)), if_pos (Or.inr (Or.inl h1)), if_pos (Or.inr (Or.inl h1))]
      clear H
      go_enter Try.func31, Try.ntmps31
      go_wp2
      go_ret
      exact ⟨rfl, HNO.out⟩
    · have h1b : decide (o < 0) = false := by simpa using h1
      by_cases h2 : 1125899906842624 < o
      · rw [if_pos (Or.inr (Or.inr h2)), if_pos (Or.inr (Or.inr h2)), if_pos (Or.inr (Or.inr h2))]
        clear H
        go_enter Try.func31, Try.ntmps31
        go_wp2
        go_ret
        exact ⟨rfl, HNO.out⟩
      · have h2b : decide (1125899906842624 < o) = false := by simpa using h2
        have hn : ¬ (id = 0 ∨ o < 0 ∨ 1125899906842624 < o) := by simp [h0, h1, h2]
        rw [if_neg hn, if_neg hn, if_neg hn]
        obtain ⟨A, n, c, hnn, hb, c0, c1, c2, c3, c4, c5, hf⟩ := H.cells
        have f0 := hf 0
        have f1 := hf 1
        have f2 := hf 2
        have f3 := hf 3
        have f5 := hf 5
        have HEND : Hid (RfTo w base G q s ⟨id, o, 0, 0⟩ [] (((((w.setCell ⟨q, 0, none⟩ (.int .u64 id)).setCell ⟨q, 1, none⟩ (.int .i64 o)).setCell ⟨q, 2, none⟩ (.int .u64 0)).setCell ⟨q, 3, none⟩ (.int .i64 0)).setCell ⟨q, 5, none⟩ (.slice none 0 0))) := by
          obtain ⟨A, n, c, hp, hb, hG⟩ := H.mem
          have ho : Only (· = q) w (((((w.setCell ⟨q, 0, none⟩ (.int .u64 id)).setCell ⟨q, 1, none⟩ (.int .i64 o)).setCell ⟨q, 2, none⟩ (.int .u64 0)).setCell ⟨q, 3, none⟩ (.int .i64 0)).setCell ⟨q, 5, none⟩ (.slice none 0 0)) := (((((Only.refl (· = q) w).set (q := ⟨q, 0, none⟩) rfl _).set (q := ⟨q, 1, none⟩) rfl _).set (q := ⟨q, 2, none⟩) rfl _).set (q := ⟨q, 3, none⟩) rfl _).set (q := ⟨q, 5, none⟩) rfl _
          refine ⟨G, ⟨fun k hk => ⟨(H.own k hk).1, Nat.lt_of_lt_of_le (H.own k hk).2 ho.size⟩, H.me, ⟨none, 0, 0, (((((hp.set 0 _).set 1 _).set 2 _).set 3 _).set 5 _).congr (fun i hi => ?_), by rw [lastN_nil]; exact ByAt.nil _, fun g o h0 => absurd h0 (Nat.lt_irrefl 0)⟩, H.s1, H.s2, by simp; omega, by simp; omega, ⟨by show 0 < id; omega, hi2⟩, by simp, by simp⟩, ho.mono (fun k e => e ▸ H.me), fun k hk => Or.inl hk⟩
          unfold rfV
          rcases (by omega : i = 0 ∨ i = 1 ∨ i = 2 ∨ i = 3 ∨ i = 4 ∨ i = 5) with rfl | rfl | rfl | rfl | rfl | rfl <;> rfl
        clear H hf hnn hb c4 hn
        go_enter Try.func31, Try.ntmps31
        go_wp2
        go_ret
        exact ⟨rfl, HEND.out⟩

end

end Go.Proofs.Ytbecjaamheibmaa
