/-
  More of a ring and a row with two ends in memory. No program's code.
-/
import Derived.Test.YtbecjaamheibmaaDqM
namespace Go.Proofs.Ytbecjaamheibmaa
open Go.RowKit

section
variable {α : Type} {K : Kq α} {w w' : World} {R g N c f : Nat} {S : Nat → Value} {L : List α}

theorem RgAt.below (h : RgAt K w R g N c f S L) (hb : Below w.heap.size w w') : RgAt K w' R g N c f S L :=
  h.keep (hb.block R h.hd.lt) (fun hp => hb.block g (h.row hp).lt)

/-- What a ring's insert may turn: its head, and its slots, if it has some. -/
theorem Only.ring {w1 w2 : World} {g1 : Nat} (h : Only (· = R) w w1) (k : Only (fun k => k = R ∨ k = g1) w1 w2) (hg : g1 = g ∧ 0 < N ∨ w.heap.size ≤ g1) : Only (fun k => k = R ∨ k = g ∧ 0 < N) w w2 :=
  ⟨k.os.trans h.os, k.tape.trans h.tape, k.output.trans h.output, Nat.le_trans h.size k.size, fun i hi hn => (k.block i (Nat.lt_of_lt_of_le hi h.size) (fun e => by
    rcases e with e | e
    · exact hn (Or.inl e)
    · rcases hg with ⟨q, q2⟩ | q
      · exact hn (Or.inr ⟨by rw [e, q], q2⟩)
      · omega)).trans (h.block i hi (fun e => hn (Or.inl e)))⟩

theorem rowIs_ne {a b n m : Nat} {t u : TypeId} {p q : Nat → Value} (h : w.rowIs a t n p) (k : w.rowIs b u m q) (hne : t ≠ u) : a ≠ b := fun e => by
  subst e
  obtain ⟨c1, h1, _⟩ := h
  obtain ⟨c2, h2, _⟩ := k
  rw [h1] at h2
  simp only [Option.some.injEq, Obj.cells.injEq] at h2
  exact hne h2.2.1

/-- Of what was there only the blocks of F have turned; those of F' are these and new ones. -/
def Chg (F F' : Nat → Prop) (w w' : World) : Prop := Only F w w' ∧ ∀ k, F' k → F k ∨ w.heap.size ≤ k
theorem Chg.refl (F : Nat → Prop) (w : World) : Chg F F w w := ⟨Only.refl F w, fun _ h => Or.inl h⟩
theorem Chg.of_below {F : Nat → Prop} (h : Below w.heap.size w w') : Chg F F w w' := ⟨Only.of_below h, fun _ h => Or.inl h⟩
theorem Chg.trans {F F' F'' : Nat → Prop} {w'' : World} (h : Chg F F' w w') (k : Chg F' F'' w' w'') : Chg F F'' w w'' :=
  ⟨⟨k.1.os.trans h.1.os, k.1.tape.trans h.1.tape, k.1.output.trans h.1.output, Nat.le_trans h.1.size k.1.size, fun i hi hn => (k.1.block i (Nat.lt_of_lt_of_le hi h.1.size) (fun e => by
      rcases h.2 i e with q | q
      · exact hn q
      · omega)).trans (h.1.block i hi hn)⟩,
   fun i hi => by
    rcases k.2 i hi with q | q
    · exact h.2 i q
    · exact Or.inr (Nat.le_trans h.1.size q)⟩
theorem Chg.below {F F' : Nat → Prop} {n : Nat} (h : Chg F F' w w') (hn : n ≤ w.heap.size) (hF : ∀ k, F k → n ≤ k) : Below n w w' := h.1.below hn (fun k hk hf => by have := hF k hf; omega)

/-- A row with two ends whose ring has been written. -/
theorem dq_of_ring {base D M g' N' c' f' : Nat} {F : Nat → Prop} {S' : Nat → Value} {L' : List α} (hne : K.tD ≠ K.tR) (hne2 : K.tD ≠ K.tE) (hF : ∀ k, F k → base ≤ k ∧ k < w.heap.size) (hFD : F D) (hd : w.rowIs D K.tD 1 (fun _ => .pointer (some ⟨R, 0, none⟩))) (hFR : F R) (hFg : 0 < N → F g)
    (hr : RgAt K w R g N c f S L) (hg' : g' = g ∧ 0 < N ∨ w.heap.size ≤ g') (hN' : N' ≤ M) (hN0 : 0 < N') (hr' : RgAt K w' R g' N' c' f' S' L') (ho : Only (fun k => k = R ∨ k = g ∧ 0 < N) w w') :
    ∃ F', DqOn K w' base F' D M L' ∧ Chg F F' w w' := by
  have hb : base ≤ w.heap.size := by have := hF D hFD; omega
  refine ⟨fun k => F k ∨ k = g', ⟨fun k hk => ?_, Or.inl hFD, Or.inr ⟨R, g', N', c', f', S', ?_, Or.inl hFR, fun _ => Or.inr rfl, hN', hr'⟩⟩, ho.mono (fun k hk => ?_), fun k hk => ?_⟩
  · rcases hk with hk | hk
    · exact ⟨(hF k hk).1, Nat.lt_of_lt_of_le (hF k hk).2 ho.size⟩
    · subst hk
      refine ⟨?_, (hr'.row hN0).lt⟩
      rcases hg' with ⟨q, q2⟩ | q
      · rw [q]
        exact (hF g (hFg q2)).1
      · omega
  · refine ho.row hd (fun e => ?_)
    rcases e with e | ⟨e, e2⟩
    · exact rowIs_ne hd hr.hd hne e
    · exact rowIs_ne hd (hr.row e2) hne2 e
  · rcases hk with hk | ⟨hk, h2⟩
    · rw [hk]; exact hFR
    · rw [hk]; exact hFg h2
  · rcases hk with hk | hk
    · exact Or.inl hk
    · rcases hg' with ⟨q, q2⟩ | q
      · rw [hk, q]; exact Or.inl (hFg q2)
      · rw [hk]; exact Or.inr q

end

end Go.Proofs.Ytbecjaamheibmaa
