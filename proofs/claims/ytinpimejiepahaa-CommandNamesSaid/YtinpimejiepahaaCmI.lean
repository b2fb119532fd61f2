/-
  Package command: Look, at any name. Condition: the name has at most 2^47 bytes.
-/
import Derived.Test.YtinpimejiepahaaCmH
namespace Go.Proofs.Ytinpimejiepahaa
open Go.RowKit Go.Shelf

attribute [local go_sem] Oper.semAt_some

/-- Only blocks of p have turned. -/
structure Onl (p : Nat → Prop) (w w' : World) : Prop where
  os : w'.os = w.os
  tape : w'.tape = w.tape
  output : w'.output = w.output
  size : w.heap.size ≤ w'.heap.size
  block : ∀ k, k < w.heap.size → ¬ p k → w'.heap[k]? = w.heap[k]?
theorem Onl.refl (p : Nat → Prop) (w : World) : Onl p w w := ⟨rfl, rfl, rfl, Nat.le_refl _, fun _ _ _ => rfl⟩
theorem Onl.trans {p : Nat → Prop} {a b c : World} (h : Onl p a b) (k : Onl p b c) : Onl p a c :=
  ⟨k.os.trans h.os, k.tape.trans h.tape, k.output.trans h.output, Nat.le_trans h.size k.size, fun i hi hn => (k.block i (Nat.lt_of_lt_of_le hi h.size) hn).trans (h.block i hi hn)⟩
theorem Onl.of_below {p : Nat → Prop} {a b : World} (h : Below a.heap.size a b) : Onl p a b := ⟨h.os, h.tape, h.output, h.size, fun k hk _ => h.block k hk⟩
theorem Onl.set {p : Nat → Prop} {a w : World} (h : Onl p a w) {q : Addr} (hp : p q.block) (v : Value) : Onl p a (w.setCell q v) :=
  h.trans ⟨rfl, rfl, rfl, by simp [World.setCell], fun k _ hn => Below.heap_setCell _ _ _ _ (fun e => hn (e ▸ hp))⟩
theorem Onl.grown {p : Nat → Prop} {a w w' : World} {row : Option Nat} (h : Onl p a w) (hg : w.grownBy w' row) (hr : ∀ k, row = some k → k < a.heap.size → p k) : Onl p a w' :=
  ⟨hg.os.trans h.os, hg.tape.trans h.tape, hg.output.trans h.output, Nat.le_trans h.size hg.size, fun k hk hn => (hg.block k (Nat.lt_of_lt_of_le hk h.size) (fun e => hn (hr k e.symm hk))).trans (h.block k hk hn)⟩
theorem Onl.below {p : Nat → Prop} {n : Nat} {a b : World} (h : Onl p a b) (hn : n ≤ a.heap.size) (hp : ∀ k, k < n → ¬ p k) : Below n a b := ⟨h.os, h.tape, h.output, h.size, fun k hk => h.block k (Nat.lt_of_lt_of_le hk hn) (hp k hk)⟩
theorem Onl.from {p : Nat → Prop} {a b : World} (h : Onl p a b) (B : Nat) (hp : ∀ k o, p k → a.heap[k]? = some o → o.isCells = true) : KeepsFrom B a b :=
  ⟨h.size, fun k o _ ho hc => (h.block k (Array.getElem?_eq_some_iff.1 ho).1 (fun q => by rw [hp k o q ho] at hc; cases hc)).trans ho⟩
theorem Onl.kp {p : Nat → Prop} {a b : World} (h : Onl p a b) (hp : ∀ k cs fr, p k → a.heap[k]? = some (.cells cs 71 fr) → False) : KpR a b :=
  fun k cs fr ho => h.block k (Array.getElem?_eq_some_iff.1 ho).1 (fun q => hp k cs fr q ho)

theorem row_grown {X Y : World} {row : Option Nat} {b n : Nat} {t : TypeId} {f : Nat → Value} (h : X.rowIs b t n f) (hg : X.grownBy Y row) (hr : ∀ r, row = some r → ∃ o : Obj, X.heap[r]? = some o ∧ o.isCells = false) : Y.rowIs b t n f :=
  h.of_block (hg.block b h.lt (fun e => by
    obtain ⟨o, ho, hc⟩ := hr b e.symm
    obtain ⟨cs, hcs, _⟩ := h
    rw [hcs] at ho
    injection ho with ho
    rw [← ho] at hc
    cases hc))
theorem row_cells {X : World} {b n : Nat} {t : TypeId} {f : Nat → Value} (h : X.rowIs b t n f) {o : Obj} (ho : X.heap[b]? = some o) : o.isCells = true := by
  obtain ⟨cs, hcs, _⟩ := h
  rw [hcs] at ho
  injection ho with ho
  rw [← ho]
  rfl
theorem row_type {X : World} {b n : Nat} {t u : TypeId} {f : Nat → Value} (h : X.rowIs b t n f) {cs : Array Value} {fr : Nat × Nat} (ho : X.heap[b]? = some (.cells cs u fr)) : u = t := by
  obtain ⟨c2, hcs, _⟩ := h
  rw [hcs] at ho
  injection ho with ho
  injection ho with _ e _
  exact e.symm
theorem row_putObj {X : World} {b n D : Nat} {t : TypeId} {f : Nat → Value} (h : X.rowIs b t n f) (hne : b ≠ D) (o : Obj) : (X.putObj D o).rowIs b t n f := h.of_block (World.putObj_heap_other hne)

/-- A command's cells as a row. -/
def sF (x : Sp) : Nat → Value := f7 (.string ⟨x.1.toArray⟩) (.int .i64 x.2.1) (.int .i64 x.2.2.1) (.bool x.2.2.2.1) (.int .i64 x.2.2.2.2.1) (.int .i64 x.2.2.2.2.2.1) (.int .i64 x.2.2.2.2.2.2)

theorem row_one (w : World) (t : TypeId) (v : Value) : (w.alloc (.cells #[v] t)).rowIs w.heap.size t 1 (fun _ => v) :=
  World.rowIs_alloc w #[v] t _ (fun i hi => by
    have hi : i < 1 := hi
    obtain rfl : i = 0 := by omega
    rfl)

/-- Seven stores into a row of seven. -/
theorem row_set7 {w : World} {b : Nat} {t : TypeId} {f : Nat → Value} (h : w.rowIs b t 7 f) (a0 a1 a2 a3 a4 a5 a6 : Value) :
    (((((((w.setCell ⟨b, 0, none⟩ a0).setCell ⟨b, 1, none⟩ a1).setCell ⟨b, 2, none⟩ a2).setCell ⟨b, 3, none⟩ a3).setCell ⟨b, 4, none⟩ a4).setCell ⟨b, 5, none⟩ a5).setCell ⟨b, 6, none⟩ a6).rowIs b t 7 (f7 a0 a1 a2 a3 a4 a5 a6) :=
  (((((((h.set 0 a0).set 1 a1).set 2 a2).set 3 a3).set 4 a4).set 5 a5).set 6 a6).congr (fun i hi => by
    rcases (by omega : i = 0 ∨ i = 1 ∨ i = 2 ∨ i = 3 ∨ i = 4 ∨ i = 5 ∨ i = 6) with rfl | rfl | rfl | rfl | rfl | rfl | rfl <;> rfl)

set_option maxRecDepth 100000 in
set_option maxHeartbeats 16000000 in
theorem look_any (x : Tx) (hx : x.length ≤ 140737488355328) (w : World) :
    Calls Try.prog 10 #[.string ⟨x.toArray⟩] w fun e w' => e = .returned (.tuple #[aggS (lkS x), .bool (lkB x)]) ∧ Below w.heap.size w w' := by
  have HFR := Lib.hid from_any
  obtain ⟨B, hB⟩ : ∃ B, w.heap.size = B := ⟨_, rfl⟩
  obtain ⟨w1, hw1⟩ : ∃ w1, w.alloc (.cells #[.string ⟨x.toArray⟩] 9) = w1 := ⟨_, rfl⟩
  obtain ⟨w2, hw2⟩ : ∃ w2, w1.alloc (.cells #[.string ⟨#[]⟩, .int .i64 0, .int .i64 0, .bool false, .int .i64 0, .int .i64 0, .int .i64 0] 27) = w2 := ⟨_, rfl⟩
  obtain ⟨w3, hw3⟩ : ∃ w3, w2.alloc (.cells #[.bool false] 4) = w3 := ⟨_, rfl⟩
  obtain ⟨w4, hw4⟩ : ∃ w4, w3.alloc (.cells #[.int .i64 1] 25) = w4 := ⟨_, rfl⟩
  have s1 : w1.heap.size = B + 1 := by rw [← hw1, World.size_alloc, hB]
  have s2 : w2.heap.size = B + 2 := by rw [← hw2, World.size_alloc, s1]
  have s3 : w3.heap.size = B + 3 := by rw [← hw3, World.size_alloc, s2]
  have s4 : w4.heap.size = B + 4 := by rw [← hw4, World.size_alloc, s3]
  have b1 : Below B w w1 := by rw [← hw1, ← hB]; exact (Below.refl _ _).alloc (Nat.le_refl _) _
  have b2 : Below w1.heap.size w1 w2 := by rw [← hw2]; exact (Below.refl _ _).alloc (Nat.le_refl _) _
  have b3 : Below w2.heap.size w2 w3 := by rw [← hw3]; exact (Below.refl _ _).alloc (Nat.le_refl _) _
  have b4 : Below w3.heap.size w3 w4 := by rw [← hw4]; exact (Below.refl _ _).alloc (Nat.le_refl _) _
  have r1 : w1.rowIs B 9 1 (fun _ => .string ⟨x.toArray⟩) := by rw [← hw1, ← hB]; exact row_one w _ _
  have r2 : w2.rowIs (B + 1) 27 7 (sF spZ) := by rw [← hw2, ← s1]; exact rows7 w1 _ _ _ _ _ _ _ _
  have r3 : w3.rowIs (B + 2) 4 1 (fun _ => .bool false) := by rw [← hw3, ← s2]; exact row_one w2 _ _
  have r4 : w4.rowIs (B + 3) 25 1 (fun _ => .int .i64 1) := by rw [← hw4, ← s3]; exact row_one w3 _ _
  have R1 : Hid (w4.rowIs B 9 1 (fun _ => .string ⟨x.toArray⟩)) := ((r1.of_block (b2.block B r1.lt)).of_block (b3.block B (by omega))).of_block (b4.block B (by omega))
  have R2 : Hid (w4.rowIs (B + 1) 27 7 (sF spZ)) := (r2.of_block (b3.block _ r2.lt)).of_block (b4.block _ (by omega))
  have R3 : Hid (w4.rowIs (B + 2) 4 1 (fun _ => .bool false)) := r3.of_block (b4.block _ r3.lt)
  have HBW : Hid (Below B w w4) := b1.trans ((b2.mono (by omega)).trans ((b3.mono (by omega)).trans (b4.mono (by omega))))
  have hg4 : w4.cell? ⟨B + 3, 0, none⟩ = some (.int .i64 1) := r4.cell (i := 0) (by omega)
  have HST := Lib.hid (from_stops 10 (by omega) (B + 3) w4 hg4)
  have HW3 : Hid (((w.alloc (.cells #[.string ⟨x.toArray⟩] 9)).alloc (.cells #[.string ⟨#[]⟩, .int .i64 0, .int .i64 0, .bool false, .int .i64 0, .int .i64 0, .int .i64 0] 27)).alloc (.cells #[.bool false] 4) = w3) := by unfold Hid; rw [hw1, hw2, hw3]
  have HW4 := Lib.hid hw4
  have HS3 := Lib.hid s3
  have HS4 := Lib.hid s4
  have HBS := Lib.hid hB
  clear hw1 hw2 hw3 hw4 s1 s2 s3 s4 b1 b2 b3 b4 r1 r2 r3 r4 hg4
  rw [hB]
  refine (callsIn_wide (n := 11)).1 ?_
  refine callsIn_of_wp_marks Try.func10 rfl trivial ?_ rfl
  simp only [Try.ntmps10, List.size_toArray, List.length_cons, List.length_nil, Nat.reduceAdd, Nat.reduceSub, Array.replicate_succ, Array.replicate_zero, List.push_toArray, List.append_toArray, List.nil_append, List.cons_append]
  gi_wp2_with (refine ⟨trivial, ?_⟩; gi_at_call 23; refine (callsIn_wide.2 (HFR.out _)).mono ?_; rintro e wq ⟨rfl, hwq⟩)
  rw [HW3.out, HW4.out, show B + 1 + 1 + 1 = B + 3 from rfl, show B + 1 + 1 = B + 2 from rfl]
  clear hwq HFR
  have HS4' := HS4.out
  refine wpIn_rangeFunc_ownH rfl (by omega) (gf := 43) (lb := #[.pointer (some ⟨B + 3, 0, none⟩)]) rfl trivial (enters_of Try.func43 (by kernel_rfl) rfl) HST.out (fun h k => h.t k)
    (fun W l o o' _ h ho _ => fun k cs fr hk => World.putObj_heap_other (fun e => by subst e; rw [h] at hk; injection hk with hk; subst hk; cases ho)) (Below.refl _ _) (fun _ => rfl)
    (fun pre W => (W.rowIs B 9 1 (fun _ => .string ⟨x.toArray⟩) ∧ W.rowIs (B + 1) 27 7 (sF spZ) ∧ W.rowIs (B + 2) 4 1 (fun _ => .bool false)) ∧ Below B w W ∧ (∀ y ∈ pre, ¬ y.1 = lowL x))
    (fun c pre W => c = .ret ∧ ∃ (q : List Sp) (y : Sp), pre = q ++ [y] ∧ y.1 = lowL x ∧ W.rowIs (B + 1) 27 7 (sF y) ∧ W.rowIs (B + 2) 4 1 (fun _ => .bool true) ∧ Below B w W)
    (fun s X Y row ⟨⟨h1, h2, h3⟩, h4, h5⟩ hg hr => ⟨⟨row_grown h1 hg (fun r e => (hr r e).2), row_grown h2 hg (fun r e => (hr r e).2), row_grown h3 hg (fun r e => (hr r e).2)⟩, h4.grown hg (by have := h1.lt; omega) (fun k e => by have := (hr k e).1; omega), h5⟩)
    (fun c s X Y row ⟨e, q, y, h1, h2, h3, h4, h5⟩ hg hr => ⟨e, q, y, h1, h2, row_grown h3 hg (fun r e => (hr r e).2), row_grown h4 hg (fun r e => (hr r e).2), h5.grown hg (by have := h3.lt; omega) (fun k e => by have := (hr k e).1; omega)⟩)
    ⟨⟨R1.out, R2.out, R3.out⟩, HBW.out, fun y hy => by cases hy⟩
    (fun y a' W => ∃ Bx, B + 3 ≤ Bx ∧ W.rowIs Bx 27 7 (sF y) ∧ a' = { tmps := #[.string ⟨x.toArray⟩, .pointer (some ⟨B, 0, none⟩), .pointer (some ⟨B + 1, 0, none⟩), .pointer (some ⟨B + 2, 0, none⟩), .pointer (some ⟨Bx, 0, none⟩), .func (.func 43) #[] #[.pointer (some ⟨B + 3, 0, none⟩)], aggS y, undef, undef, undef, undef, undef, undef], defers := [] })
    (fun y a' s X Y row ⟨Bx, h1, h2, h3⟩ hg hr => ⟨Bx, h1, row_grown h2 hg (fun r e => (hr r e).2), h3⟩) ?assign ?body ?done ?stop
  case assign =>
    rintro l pre ⟨nm, g, ar, wr_, f, la, st⟩ W K ⟨⟨h1, h2, h3⟩, h4, h5⟩ hK
    dsimp only [aggS, encS]
    gi_wp2
    exact hK _ _ ((KeepsOthers.alloc _ _).from _) (KpR.below ((Below.refl _ _).alloc (Nat.le_refl _) _)) ⟨⟨h1.alloc _, h2.alloc _, h3.alloc _⟩, h4.alloc (Nat.le_of_lt h1.lt) _, h5⟩ ⟨W.heap.size, h3.lt, rows7 W _ _ _ _ _ _ _ _, rfl⟩
  case body =>
    rintro l pre ⟨nm, g, ar, wr_, f, la, st⟩ a' W hl ⟨r, hr⟩ ⟨⟨h1, h2, h3⟩, h4, h5⟩ ⟨Bx, hBx, hbx, rfl⟩ hlt
    have n0 : W.cell? ⟨B, 0, none⟩ = some (.string ⟨x.toArray⟩) := h1.cell (i := 0) (by omega)
    obtain ⟨-, c0, c1, c2, c3, c4, c5, c6, -⟩ := box7_of_row hbx
    dsimp only at c0 c1 c2 c3 c4 c5 c6
    have H1 := Lib.hid h1
    have H2 := Lib.hid h2
    have H3 := Lib.hid h3
    have H4 := Lib.hid h4
    have H5 := Lib.hid h5
    have HBX := Lib.hid hbx
    have hOnl : ∀ W', Onl (fun k => k = B + 1 ∨ k = B + 2) W W' → KeepsFrom w4.heap.size W W' ∧ KpR W W' ∧ Below B w W' := fun W' h => ⟨h.from _ (fun k o hk ho => by
        rcases hk with rfl | rfl
        · exact row_cells h2 ho
        · exact row_cells h3 ho), h.kp (fun k cs fr hk ho => by
        rcases hk with rfl | rfl
        · have q := row_type h2 ho
          exact absurd q (by decide)
        · have q := row_type h3 ho
          exact absurd q (by decide)), h4.trans (h.below (Nat.le_of_lt h1.lt) (fun k hk e => by omega))⟩
    have HON := Lib.hid hOnl
    have hWl : B + 3 ≤ W.heap.size := h3.lt
    by_cases hq : lowL x = nm
    · have HNM := names_any x nm (by omega) g ar f la st wr_ W
      rw [decide_eq_true hq] at HNM
      have HNM := Lib.hid HNM
      obtain ⟨T, hT⟩ : ∃ T : ByteArray, (⟨nm.toArray⟩ : ByteArray) = T := ⟨_, rfl⟩
      have hTs : T.size ≤ 140737488355328 := by
        rw [← hT, ← hq]
        show (lowL x).toArray.size ≤ _
        rw [List.size_toArray, lowL_length]
        exact hx
      rw [hT] at c0 HNM
      have HCP := Lib.hid (fun W => copied_any T hTs g ar f la st wr_ W)
      have HT := Lib.hid hT
      have HQ := Lib.hid hq
      clear h1 h2 h3 h4 h5 hbx hOnl hq hT
      unfold aggS encS
      dsimp only
      rw [HT.out]
      gi_wp2_with (first
        | (refine ⟨trivial, ?_⟩; gi_at_call 35; refine (CallsIn.inRound l (callsIn_wide.2 HNM.out)).mono ?_; rintro e w5 ⟨rfl, hb5⟩; have HB5 := Lib.hid hb5; obtain ⟨-, d0, d1, d2, d3, d4, d5, d6, -⟩ := box7_of_row (HBX.out.of_block (hb5.block Bx HBX.out.lt)); dsimp only at d0 d1 d2 d3 d4 d5 d6; rw [HT.out] at d0; clear hb5)
        | (refine ⟨trivial, ?_⟩; gi_at_call 24; refine (CallsIn.inRound l (callsIn_wide.2 (HCP.out _))).mono ?_; rintro e w6 ⟨rfl, hb6⟩; have HB6 := Lib.hid (bup HB5.out hb6); obtain ⟨-, z0, z1, z2, z3, z4, z5, z6, zf⟩ := box7_of_row (H2.out.of_block (HB6.out.block _ H2.out.lt)); have zf0 := zf 0; have zf1 := zf 1; have zf2 := zf 2; have zf3 := zf 3; have zf4 := zf 4; have zf5 := zf 5; have zf6 := zf 6; have y0 := (H3.out.of_block (HB6.out.block _ H3.out.lt)).cell (i := 0) (by omega); have yf := (H3.out.of_block (HB6.out.block _ H3.out.lt)).frozen 0; clear hb6 zf))
      refine ⟨(HON.out _ ?onl).1, rfl, pre, (nm, g, ar, wr_, f, la, st), rfl, HQ.out.symm, ?_, ?_, (HON.out _ ?onl).2.2⟩
      case onl =>
        refine Onl.set (q := ⟨B + 2, 0, none⟩) ?_ (Or.inr rfl) _
        refine Onl.set (q := ⟨B + 1, 6, none⟩) ?_ (Or.inl rfl) _
        refine Onl.set (q := ⟨B + 1, 5, none⟩) ?_ (Or.inl rfl) _
        refine Onl.set (q := ⟨B + 1, 4, none⟩) ?_ (Or.inl rfl) _
        refine Onl.set (q := ⟨B + 1, 3, none⟩) ?_ (Or.inl rfl) _
        refine Onl.set (q := ⟨B + 1, 2, none⟩) ?_ (Or.inl rfl) _
        refine Onl.set (q := ⟨B + 1, 1, none⟩) ?_ (Or.inl rfl) _
        refine Onl.set (q := ⟨B + 1, 0, none⟩) ?_ (Or.inl rfl) _
        exact Onl.of_below HB6.out
      · unfold sF
        dsimp only
        rw [HT.out]
        exact (row_set7 (H2.out.of_block (HB6.out.block _ H2.out.lt)) _ _ _ _ _ _ _).of_block (Below.heap_setCell _ _ _ _ (show B + 1 ≠ B + 2 by omega))
      · refine (World.rowIs.set (f := fun _ => .bool false) ?_ 0 (.bool true)).congr (fun i hi => by rw [if_pos (by omega)])
        refine World.rowIs.of_block ?_ (w := w6) ?_
        · exact H3.out.of_block (HB6.out.block _ H3.out.lt)
        · have q : ∀ (X : World) (i : Nat) (v : Value), (X.setCell ⟨B + 1, i, none⟩ v).heap[B + 2]? = X.heap[B + 2]? := fun X i v => Below.heap_setCell _ _ _ _ (show B + 2 ≠ B + 1 by omega)
          rw [q, q, q, q, q, q, q]
    · have HNM := names_any x nm (by omega) g ar f la st wr_ W
      rw [decide_eq_false hq] at HNM
      have HNM := Lib.hid HNM
      have HQ := Lib.hid hq
      obtain ⟨T, hT⟩ : ∃ T : ByteArray, (⟨nm.toArray⟩ : ByteArray) = T := ⟨_, rfl⟩
      rw [hT] at c0 HNM
      have HT := Lib.hid hT
      clear h1 h2 h3 h4 h5 hbx hOnl hq hT
      unfold aggS encS
      dsimp only
      rw [HT.out]
      gi_wp2_with (refine ⟨trivial, ?_⟩; gi_at_call 35; refine (CallsIn.inRound l (callsIn_wide.2 HNM.out)).mono ?_; rintro e w5 ⟨rfl, hb5⟩; have HB5 := Lib.hid hb5; clear hb5)
      obtain ⟨q1, q2, q3⟩ := HON.out _ (Onl.of_below HB5.out)
      refine ⟨q1, q2, ⟨H1.out.of_block (HB5.out.block _ H1.out.lt), H2.out.of_block (HB5.out.block _ H2.out.lt), H3.out.of_block (HB5.out.block _ H3.out.lt)⟩, q3, fun y hy => ?_⟩
      rcases List.mem_append.1 hy with hy | hy
      · exact H5.out y hy
      · rw [List.mem_singleton] at hy
        rw [hy]
        exact fun e => HQ.out e.symm
  case done =>
    rintro D ys W hD rfl ⟨⟨h1, h2, h3⟩, h4, h5⟩ hK
    have HE : Hid (lookT x = none) := by
      unfold Hid
      cases hq : lookT x with
      | none => rfl
      | some y =>
        obtain ⟨q1, q2⟩ := lookT_iff.1 hq
        exact absurd q2 (h5 y q1)
    have h2' : W.rowIs (B + 1) 27 7 (f7 (.string ⟨#[]⟩) (.int .i64 0) (.int .i64 0) (.bool false) (.int .i64 0) (.int .i64 0) (.int .i64 0)) := h2
    obtain ⟨-, z0, z1, z2, z3, z4, z5, z6, zf⟩ := box7_of_row h2'
    have zf0 := zf 0
    have zf1 := zf 1
    have zf2 := zf 2
    have zf3 := zf 3
    have zf4 := zf 4
    have zf5 := zf 5
    have zf6 := zf 6
    have y0 := h3.cell (i := 0) (by omega)
    have yf := h3.frozen 0
    have HK := Lib.hid hK
    have H2 := Lib.hid h2
    have H3 := Lib.hid h3
    have H4 := Lib.hid h4
    have hDB : B + 4 ≤ D := by omega
    have hDl : D < W.heap.size := (Array.getElem?_eq_some_iff.1 hK).1
    have HBl : Hid (B ≤ W.heap.size) := Nat.le_of_lt h1.lt
    obtain ⟨Wf, hWf⟩ : ∃ Wf, (((((((((W.setCell ⟨B + 1, 0, none⟩ (.string ⟨#[]⟩)).setCell ⟨B + 1, 1, none⟩ (.int .i64 0)).setCell ⟨B + 1, 2, none⟩ (.int .i64 0)).setCell ⟨B + 1, 3, none⟩ (.bool false)).setCell ⟨B + 1, 4, none⟩ (.int .i64 0)).setCell ⟨B + 1, 5, none⟩ (.int .i64 0)).setCell ⟨B + 1, 6, none⟩ (.int .i64 0)).setCell ⟨B + 2, 0, none⟩ (.bool false))) = Wf := ⟨_, rfl⟩
    have q1 : ∀ (X : World) (i k : Nat) (v : Value), k ≠ B + 1 → (X.setCell ⟨B + 1, i, none⟩ v).heap[k]? = X.heap[k]? := fun X i k v hk => Below.heap_setCell _ _ _ _ hk
    have q2 : ∀ (X : World) (i k : Nat) (v : Value), k ≠ B + 2 → (X.setCell ⟨B + 2, i, none⟩ v).heap[k]? = X.heap[k]? := fun X i k v hk => Below.heap_setCell _ _ _ _ hk
    have HG2 : Hid (Wf.rowIs (B + 1) 27 7 (sF spZ)) := by
      unfold Hid
      rw [← hWf]
      exact (row_set7 h2' _ _ _ _ _ _ _).of_block (q2 _ _ _ _ (by omega))
    have HG3 : Hid (Wf.rowIs (B + 2) 4 1 (fun _ => .bool false)) := by
      unfold Hid
      rw [← hWf]
      refine (World.rowIs.set (f := fun _ => .bool false) ?_ 0 (.bool false)).congr (fun i hi => by rw [if_pos (by omega)])
      refine h3.of_block ?_
      rw [q1 _ _ _ _ (by omega), q1 _ _ _ _ (by omega), q1 _ _ _ _ (by omega), q1 _ _ _ _ (by omega), q1 _ _ _ _ (by omega), q1 _ _ _ _ (by omega), q1 _ _ _ _ (by omega)]
    have HGK : Hid (Wf.heap[D]? = some (.deferred (some []))) := by
      unfold Hid
      rw [← hWf, q2 _ _ _ _ (by omega), q1 _ _ _ _ (by omega), q1 _ _ _ _ (by omega), q1 _ _ _ _ (by omega), q1 _ _ _ _ (by omega), q1 _ _ _ _ (by omega), q1 _ _ _ _ (by omega), q1 _ _ _ _ (by omega)]
      exact hK
    have HGB : Hid (Below B w Wf) := by
      unfold Hid
      rw [← hWf]
      iterate 8 (refine Below.setCell ?_ (by dsimp only; omega) _)
      exact h4
    have HWF := Lib.hid hWf
    clear h1 h2 h2' h3 h4 h5 hK zf hWf q1 q2
    gi_wp2
    rw [HWF.out]
    refine ⟨by simp, .inl ⟨_, _, rfl, run_takeDeferred HGK.out, ?_⟩⟩
    have g2 := row_putObj HG2.out (show B + 1 ≠ D by omega) (.deferred none)
    have g3 := row_putObj HG3.out (show B + 2 ≠ D by omega) (.deferred none)
    have hWD : D < Wf.heap.size := (Array.getElem?_eq_some_iff.1 HGK.out).1
    have g5 : Below B w (Wf.putObj D (.deferred none)) := HGB.out.grown (grownBy_putObj' Wf D _) (by omega) (fun k e => by cases e; omega)
    obtain ⟨X, hX⟩ : ∃ X, Wf.putObj D (.deferred none) = X := ⟨_, rfl⟩
    rw [hX] at g2 g3 g5 ⊢
    obtain ⟨-, x0, x1, x2, x3, x4, x5, x6, -⟩ := box7_of_row g2
    have x7 := g3.cell (i := 0) (by omega)
    unfold lkS lkB
    rw [HE.out]
    refine ⟨.tuple #[aggS spZ, .bool false], ?_, rfl, g5⟩
    simp [results, Try.results10, go_sem, x0, x1, x2, x3, x4, x5, x6, x7]
    rfl
  case stop =>
    rintro D c pre W hD hS ⟨rfl, q, y, h1, h2, h3, h4, h5⟩ hK
    have HE : Hid (lookT x = some y) := by
      unfold Hid
      rw [lookT_iff]
      refine ⟨?_, h2⟩
      obtain ⟨t, ht⟩ := hS
      rw [← ht, h1]
      simp
    gi_wp2
    refine ⟨by simp, .inl ⟨_, _, rfl, run_takeDeferred hK, ?_⟩⟩
    have hDl : D < W.heap.size := (Array.getElem?_eq_some_iff.1 hK).1
    have g2 := row_putObj h3 (show B + 1 ≠ D by omega) (.deferred none)
    have g3 := row_putObj h4 (show B + 2 ≠ D by omega) (.deferred none)
    have g5 : Below B w (W.putObj D (.deferred none)) := h5.grown (grownBy_putObj' W D _) (by omega) (fun k e => by cases e; omega)
    obtain ⟨X, hX⟩ : ∃ X, W.putObj D (.deferred none) = X := ⟨_, rfl⟩
    rw [hX] at g2 g3 g5 ⊢
    obtain ⟨-, z0, z1, z2, z3, z4, z5, z6, -⟩ := box7_of_row g2
    have y0 := g3.cell (i := 0) (by omega)
    unfold lkS lkB
    rw [HE.out]
    refine ⟨.tuple #[aggS y, .bool true], ?_, rfl, g5⟩
    simp [results, Try.results10, go_sem, z0, z1, z2, z3, z4, z5, z6, y0]
    rfl

end Go.Proofs.Ytinpimejiepahaa
