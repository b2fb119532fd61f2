/-
  The statement's step: a call of both, a row with two ends and the document's list. Conditions: both hold alike, in blocks of their own.
-/
import Derived.Test.YtkjcoengijedeabDrC
import Derived.Test.YtkjcoengijedeabDlT
namespace Go.Proofs.Ytkjcoengijedeab
open Go.RowKit

section
variable {w w' w1 w4 : World} {base D Q M : Nat} {F F' G G' : Nat → Prop} {L L' L1 L2 : List ByteArray}

theorem own_set {n c j : Nat} {xs : List Value} {A : Option Addr} (h : w.ownsRow base 9 1 (.slice A n c) n xs) (hj : j < n) : ∃ g u, A = some ⟨g, 0, none⟩ ∧ w.cell? ⟨g, j, none⟩ = some u ∧ w.frozen? ⟨g, j, none⟩ = false := by
  rcases h.2 with ⟨q, q2⟩ | ⟨g, cap, cur, q, _, hg, q4, _, q6, _⟩
  · omega
  · injection q with q
    subst q
    have hl : j < cur.size := by omega
    exact ⟨g, cur[j], rfl, by simp [World.cell?, hg, hl], by simp [World.frozen?, hg]⟩

theorem PrOn.setRow {g n c j : Nat} {v : ByteArray} (h : PrOn w base F D G Q M L1 L2) (hQ : G Q) (hx : Boxed w Q 29 (.slice (some ⟨g, 0, none⟩) n c)) (hown : w.ownsRow base 9 1 (.slice (some ⟨g, 0, none⟩) n c) n (L2.map Value.string)) (hn : L2.length = n) (hg : G g) : PrOn (w.setCell ⟨g, j, none⟩ (.string v)) base F D G Q M L1 (L2.set j v) ∧ Chg G G w (w.setCell ⟨g, j, none⟩ (.string v)) := by
  have hc : Chg G G w (w.setCell ⟨g, j, none⟩ (.string v)) := ⟨(Only.refl G w).set (q := ⟨g, j, none⟩) hg _, fun _ q => Or.inl q⟩
  have hne : some Q ≠ (Value.slice (some ⟨g, 0, none⟩) n c).ownBlock := hx.not_row (by decide) hown
  have hQg : Q ≠ g := fun e => hne (by rw [e]; rfl)
  have hst := (World.ownsRow.stored hown j (.string v)).1
  rw [← List.map_set] at hst
  have hl : (L2.set j v).length = n := by rw [List.length_set, hn]
  refine ⟨h.rw' ⟨fun k hk => ?_, hQ, some ⟨g, 0, none⟩, c, ?_, ?_, ?_⟩ hc, hc⟩
  · have := h.r.1 k hk
    simpa using this
  · rw [hl]
    exact (Below.heap_setCell w ⟨g, j, none⟩ (.string v) Q hQg).trans hx
  · rw [hl]
    exact hst
  · intro k hk
    injection hk with hk
    rw [← hk]
    exact hg

/-- Two calls that do alike to both, in either order. -/
theorem both_any {fD fR : FuncId} {aD aR : Array Value} {res : Value} {N : Nat} {wd : World} (hP : PrOn wd base F D G Q M L L) (hFN : ∀ k, F k → k ≠ N) (hGN : ∀ k, G k → k ≠ N) (hN : N < wd.heap.size)
    (hD : ∀ X F1, DqOn KDS X base F1 D M L → Calls Try.prog fD aD X fun e w' => e = .returned res ∧ ∃ F', DqOn KDS w' base F' D M L' ∧ Chg F1 F' X w') (hR : ∀ X G1, RwOn X base G1 Q L → Calls Try.prog fR aR X fun e w' => e = .returned res ∧ ∃ G', RwOn w' base G' Q L' ∧ Chg G1 G' X w') :
    (∀ X, Below wd.heap.size wd X → Calls Try.prog fD aD X fun e w' => e = .returned res ∧ ∃ F1, PrOn w' base F1 D G Q M L' L ∧ Below base wd w' ∧ w'.heap[N]? = wd.heap[N]?) ∧
    (∀ X F1, PrOn X base F1 D G Q M L' L → Below base wd X → X.heap[N]? = wd.heap[N]? → Calls Try.prog fR aR X fun e w' => e = .returned res ∧ PrTo wd base D Q M L'.length w' ∧ w'.heap[N]? = wd.heap[N]?) ∧
    (∀ X, Below wd.heap.size wd X → Calls Try.prog fR aR X fun e w' => e = .returned res ∧ ∃ G1, PrOn w' base F D G1 Q M L L' ∧ Below base wd w' ∧ w'.heap[N]? = wd.heap[N]?) ∧
    (∀ X G1, PrOn X base F D G1 Q M L L' → Below base wd X → X.heap[N]? = wd.heap[N]? → Calls Try.prog fD aD X fun e w' => e = .returned res ∧ PrTo wd base D Q M L'.length w' ∧ w'.heap[N]? = wd.heap[N]?) := by
  refine ⟨fun X hX => ?_, fun X F1 h1 hb hNX => ?_, fun X hX => ?_, fun X G1 h1 hb hNX => ?_⟩
  · have hPX := hP.below hX
    refine (hD X F hPX.d).mono ?_
    rintro e w' ⟨rfl, F1, q1, q2⟩
    exact ⟨rfl, F1, hPX.dq q1 q2, (hX.mono hP.le).trans (hPX.dqB q2), (q2.1.block N (Nat.lt_of_lt_of_le hN hX.size) (fun q => hFN N q rfl)).trans (hX.block N hN)⟩
  · refine (hR X G h1.r).mono ?_
    rintro e w' ⟨rfl, G1, q1, q2⟩
    exact ⟨rfl, ⟨F1, G1, L', h1.rw' q1 q2, Nat.le_refl _, hb.trans (h1.rwB q2)⟩, (q2.1.block N (lt_of_same hNX hN) (fun q => hGN N q rfl)).trans hNX⟩
  · have hPX := hP.below hX
    refine (hR X G hPX.r).mono ?_
    rintro e w' ⟨rfl, G1, q1, q2⟩
    exact ⟨rfl, G1, hPX.rw' q1 q2, (hX.mono hP.le).trans (hPX.rwB q2), (q2.1.block N (Nat.lt_of_lt_of_le hN hX.size) (fun q => hGN N q rfl)).trans (hX.block N hN)⟩
  · refine (hD X F h1.d).mono ?_
    rintro e w' ⟨rfl, F1, q1, q2⟩
    exact ⟨rfl, ⟨F1, G1, L', h1.dq q1 q2, Nat.le_refl _, hb.trans (h1.dqB q2)⟩, (q2.1.block N (lt_of_same hNX hN) (fun q => hFN N q rfl)).trans hNX⟩

set_option maxRecDepth 100000 in
set_option maxHeartbeats 16000000 in
theorem step_any (w : World) (h : PrOn w base F D G Q M L L) (hM : M ≤ 400000) (hmore : moreS L.length ≤ M) (hL : L.length ≤ 1000) (kd i k : Int) (v : ByteArray) :
    Calls Try.prog 10 #[.pointer (some ⟨D, 0, none⟩), .pointer (some ⟨Q, 0, none⟩), .agg #[.int .i64 kd, .int .i64 i, .int .i64 k, .string v]] w fun e w' => e = .returned (.bool true) ∧ PrTo w base D Q M (L.length + 1) w' := by
  obtain ⟨w0, hw0⟩ : ∃ w0, w.alloc (.cells #[.int .i64 kd, .int .i64 i, .int .i64 k, .string v] 32) = w0 := ⟨_, rfl⟩
  have hb0 : Below w.heap.size w w0 := by rw [← hw0]; exact (Below.refl _ _).alloc (Nat.le_refl _) _
  have ho : OpAt w0 w.heap.size kd i k v := ⟨by rw [← hw0]; exact heap_alloc_new w _⟩
  have hz0 : w0.heap.size = w.heap.size + 1 := by rw [← hw0]; simp
  obtain ⟨wd, hwd⟩ : ∃ wd, w0.drew = wd := ⟨_, rfl⟩
  have hbd : Below w0.heap.size w0 wd := by rw [← hwd]; exact (Below.refl _ _).drew
  have HP := Lib.hid ((h.below hb0).below hbd)
  have HBB := Lib.hid ((hb0.mono h.le).trans (hbd.mono (Nat.le_trans h.le hb0.size)))
  have HTO : Hid (∀ X, PrTo wd base D Q M (L.length + 1) X → PrTo w base D Q M (L.length + 1) X) := fun X ⟨F', G', L', q1, q2, q3⟩ => ⟨F', G', L', q1, q2, HBB.out.trans q3⟩
  have HSELF : Hid (PrTo wd base D Q M (L.length + 1) wd) := ⟨F, G, L, HP.out, by omega, Below.refl _ _⟩
  have HFN : Hid (∀ k, F k → k ≠ w.heap.size) := fun k hk e => by have := (h.d.1 k hk).2; omega
  have HGN : Hid (∀ k, G k → k ≠ w.heap.size) := fun k hk e => by have := (h.r.1 k hk).2; omega
  obtain ⟨hf, hQ, A, c, hx, hown, hG⟩ := (h.below hb0).r
  have c1 := hx.cell
  obtain ⟨o0, o1, o2, o3⟩ := ho.cells
  have ho' := ho.keep (hbd.block w.heap.size (by omega))
  have hnl : w.heap.size < wd.heap.size := by have := hbd.size; omega
  have HOP := Lib.hid ho'
  have HX := Lib.hid ((hbd.block Q (hf Q hQ).2).trans hx)
  have HOWN := Lib.hid (ownsRow_of_block1 hown (fun b hb => hbd.block b (hown.lt b hb).2))
  have HGG := Lib.hid hG
  have HQG := Lib.hid hQ
  have HEN := Lib.hid (ends_any wd HP.out hM hmore hL kd i k v)
  obtain ⟨bi, hIN, hbi⟩ : ∃ b : Bool, Hid (∀ X : World, Calls Try.prog 33 #[.int .i64 i, .int .i64 L.length] X fun e w' => e = .returned (.bool b) ∧ w' = X) ∧ ((b = true ∧ 0 ≤ i ∧ i < L.length) ∨ (b = false ∧ ¬ (0 ≤ i ∧ i < L.length))) := by
    by_cases q : 0 ≤ i ∧ i < (L.length : Int)
    · exact ⟨true, fun X => in_yes i L.length X q.1 q.2, Or.inl ⟨rfl, q⟩⟩
    · exact ⟨false, fun X => in_no i L.length X q, Or.inr ⟨rfl, q⟩⟩
  have HW0 := Lib.hid hw0
  have HWD := Lib.hid hwd
  obtain ⟨n, hn⟩ : ∃ n, L.length = n := ⟨_, rfl⟩
  have HNL := Lib.hid hn
  rw [hn] at c1 hIN hbi HX HOWN HGG
  have HBI := Lib.hid hbi
  clear hw0 hb0 ho ho' h hz0 hf hQ hx hown hG hwd hbd hbi hn
  obtain ⟨N, hN⟩ : ∃ N, w.heap.size = N := ⟨_, rfl⟩
  rw [hN] at HFN HGN HOP o0 o1 o2 o3 hnl
  have HN := Lib.hid hN
  clear hN
  go_enter Try.func10, Try.ntmps10
  go_wp2_with (first | rw [HW0.out] | rw [HN.out])
  go_region_held3 (fun X => X.cell? ⟨N, 1, none⟩ = some (.int .i64 i) ∧ X.cell? ⟨Q, 0, none⟩ = some (.slice A n c)) (exact ⟨o1, c1⟩)
    (first | (go_at_call 33; refine Calls.mono (hIN.out _) ?_; rintro en w8 ⟨rfl, rfl⟩))
  rw [HWD.out]
  have d1 : wd.cell? ⟨Q, 0, none⟩ = some (.slice A n c) := Boxed.cell (B := Q) HX.out
  obtain ⟨p0, p1, p2, p3⟩ := HOP.out.cells
  have HKN : Hid (∀ X : World, X.heap[N]? = wd.heap[N]? → X.cell? ⟨N, 0, none⟩ = some (.int .i64 kd) ∧ X.cell? ⟨N, 1, none⟩ = some (.int .i64 i) ∧ X.cell? ⟨N, 2, none⟩ = some (.int .i64 k) ∧ X.cell? ⟨N, 3, none⟩ = some (.string v)) := fun X hX => (HOP.out.keep hX).cells
  have hQl := (HP.out.r.1 Q HQG.out).2
  have HB0 := Lib.hid (Below.refl wd.heap.size wd)
  clear o0 o1 o2 o3 c1
  by_cases k5 : kd = 5
  · subst k5
    rcases HBI.out with ⟨rfl, hi0, hin⟩ | ⟨rfl, hno⟩
    · obtain ⟨j, rfl⟩ : ∃ j : Nat, i = j := ⟨i.toNat, by omega⟩
      have hjn : j < n := by omega
      obtain ⟨x, hx⟩ : ∃ x, L[j]? = some x := ⟨_, List.getElem?_eq_getElem (by rw [HNL.out]; omega)⟩
      obtain ⟨b, o, u, rfl, hbl, hu, ec⟩ := (SlAt.own HOWN.out).cell hjn
      rw [List.getElem?_map, hx] at hu
      simp only [Option.map_some, Option.some.injEq] at hu
      subst hu
      have HAT := Lib.hid (atS_yes wd HP.out.d hM hx)
      clear hx
      go_wp2_with fail
      refine HAT.out.mono ?_
      rintro e w2 ⟨rfl, hb2⟩
      have ec2 := (hb2.cell (p := ⟨b, o + j, none⟩) hbl).trans ec
      have d2 := (hb2.cell (p := ⟨Q, 0, none⟩) hQl).trans d1
      obtain ⟨q0, q1, q2, q3⟩ := HKN.out w2 (hb2.block N hnl)
      have HE : Hid (∀ m, PrTo w base D Q M (L.length + 1) (w2.drewN m)) := fun m => HTO.out _ ⟨F, G, L, HP.out.below (hb2.trans ((below_drewN _ _ _).mono (Nat.le_refl _))), by omega, (hb2.mono HP.out.le).trans (below_drewN _ _ _)⟩
      clear hb2 ec d1 p0 p1 p2 p3
      go_wp2_with fail
      go_quiet (fail)
      go_wp2
      go_ret
      exact ⟨rfl, HE.out _⟩
    · have HAT := Lib.hid (atS_no wd HP.out.d i (by rw [HNL.out]; exact hno))
      clear hno
      go_wp2_with fail
      refine HAT.out.mono ?_
      rintro e w2 ⟨rfl, hw2⟩
      rw [hw2]
      go_wp2
      go_ret
      exact ⟨rfl, HTO.out _ HSELF.out⟩
  by_cases k6 : kd = 6
  · subst k6
    rcases HBI.out with ⟨rfl, hi0, hin⟩ | ⟨rfl, hno⟩
    · obtain ⟨j, rfl⟩ : ∃ j : Nat, i = j := ⟨i.toNat, by omega⟩
      have hjn : j < n := by omega
      have HAT := Lib.hid (setS_yes wd HP.out.d hM v (i := j) (by rw [HNL.out]; exact hjn))
      go_wp2_with fail
      refine HAT.out.mono ?_
      rintro e w2 ⟨rfl, hd2, hc2⟩
      have hP2 := HP.out.dq hd2 hc2
      have hx2 : Boxed w2 Q 29 (.slice A n c) := (hc2.1.block Q hQl (fun q => HP.out.no Q q HQG.out)).trans HX.out
      have hown2 := ownsRow_of_block1 HOWN.out (fun b hb => hc2.1.block b (HOWN.out.lt b hb).2 (fun q => HP.out.no b q (HGG.out b hb)))
      have hn2 : w2.heap[N]? = wd.heap[N]? := hc2.1.block N hnl (fun q => HFN.out N q rfl)
      have hB2 := HP.out.dqB hc2
      obtain ⟨g, u, rfl, ec, fc⟩ := own_set hown2 hjn
      have hgG : G g := HGG.out g rfl
      have hP3 := (hP2.below (Below.refl w2.heap.size w2).drew).setRow (g := g) (n := n) (c := c) (j := j) (v := v) HQG.out hx2 hown2 HNL.out hgG
      have HE : Hid (PrTo w base D Q M (L.length + 1) (w2.drew.setCell ⟨g, j, none⟩ (.string v))) := HTO.out _ ⟨F, G, _, hP3.1, by rw [List.length_set]; omega, (hB2.trans (Below.refl base w2).drew).trans ((hP2.below (Below.refl w2.heap.size w2).drew).rwB hP3.2)⟩
      have hQg : Q ≠ g := fun e => hx2.not_row (by decide) hown2 (by rw [e]; rfl)
      have hNg : N ≠ g := fun e => HGN.out g hgG e.symm
      have HS0 : Hid (w2.cell? ⟨Q, 0, none⟩ = some (.slice (some ⟨g, 0, none⟩) n c) ∧ w2.cell? ⟨N, 1, none⟩ = some (.int .i64 j) ∧ w2.cell? ⟨N, 3, none⟩ = some (.string v)) := by
        obtain ⟨q0, q1, q2, q3⟩ := HKN.out w2 hn2
        exact ⟨hx2.cell, q1, q3⟩
      have HS1 : Hid ((w2.drew.setCell ⟨g, j, none⟩ (.string v)).cell? ⟨Q, 0, none⟩ = some (.slice (some ⟨g, 0, none⟩) n c) ∧ (w2.drew.setCell ⟨g, j, none⟩ (.string v)).cell? ⟨N, 1, none⟩ = some (.int .i64 j) ∧ (w2.drew.setCell ⟨g, j, none⟩ (.string v)).cell? ⟨N, 3, none⟩ = some (.string v)) :=
        ⟨(World.cell?_of_block (a := ⟨Q, 0, none⟩) (Below.heap_setCell w2.drew ⟨g, j, none⟩ (.string v) Q hQg)).trans HS0.out.1, (World.cell?_of_block (a := ⟨N, 1, none⟩) (Below.heap_setCell w2.drew ⟨g, j, none⟩ (.string v) N hNg)).trans HS0.out.2.1, (World.cell?_of_block (a := ⟨N, 3, none⟩) (Below.heap_setCell w2.drew ⟨g, j, none⟩ (.string v) N hNg)).trans HS0.out.2.2⟩
      have ec2 : w2.drew.cell? ⟨g, j, none⟩ = some u := ec
      have fc2 : w2.drew.frozen? ⟨g, j, none⟩ = false := fc
      clear hd2 hc2 hP2 hx2 hown2 hn2 hB2 hP3 hQg hNg hgG d1 p0 p1 p2 p3 ec fc
      go_wp2_with fail
      go_region_held3 (fun X => X.cell? ⟨Q, 0, none⟩ = some (.slice (some ⟨g, 0, none⟩) n c) ∧ X.cell? ⟨N, 1, none⟩ = some (.int .i64 j) ∧ X.cell? ⟨N, 3, none⟩ = some (.string v)) (first | exact HS0.out | exact HS1.out) (fail)
      all_goals
        go_wp2
        go_ret
        exact ⟨rfl, HE.out⟩
    · have HAT := Lib.hid (setS_no wd HP.out.d i v (by rw [HNL.out]; exact hno))
      clear hno
      go_wp2_with fail
      refine HAT.out.mono ?_
      rintro e w2 ⟨rfl, hw2⟩
      rw [hw2]
      go_wp2
      go_ret
      exact ⟨rfl, HTO.out _ HSELF.out⟩
  by_cases k7 : kd = 7
  · subst k7
    obtain ⟨r, L', hl', hD, hR⟩ : ∃ (r : Int) (L' : List ByteArray), L'.length ≤ L.length + 1 ∧ (∀ X F1, DqOn KDS X base F1 D M L → Calls Try.prog 28 #[.pointer (some ⟨D, 0, none⟩), .int .i64 i, .string v] X fun e w' => e = .returned (.int .i64 r) ∧ ∃ F', DqOn KDS w' base F' D M L' ∧ Chg F1 F' X w') ∧ (∀ X G1, RwOn X base G1 Q L → Calls Try.prog 34 #[.pointer (some ⟨Q, 0, none⟩), .int .i64 i, .string v] X fun e w' => e = .returned (.int .i64 r) ∧ ∃ G', RwOn w' base G' Q L' ∧ Chg G1 G' X w') := by
      by_cases q : 0 ≤ i ∧ i ≤ L.length
      · obtain ⟨j, rfl⟩ : ∃ j : Nat, i = j := ⟨i.toNat, by omega⟩
        have hj : j ≤ L.length := by omega
        exact ⟨0, insAt L j v, by rw [insAt_length hj]; omega, fun X F1 h1 => insS_yes X h1 v hM hmore hj, fun X G1 h1 => rins_yes X h1 v (by omega) hj⟩
      · refine ⟨5, L, by omega, fun X F1 h1 => (insS_no X h1 i v (by omega)).mono ?_, fun X G1 h1 => (rins_no X h1 i v (by omega)).mono ?_⟩
        · rintro e w' ⟨rfl, rfl⟩
          exact ⟨rfl, F1, h1, Chg.refl _ _⟩
        · rintro e w' ⟨rfl, rfl⟩
          exact ⟨rfl, G1, h1, Chg.refl _ _⟩
    obtain ⟨hb1, hb2, hb3, hb4⟩ := both_any HP.out HFN.out HGN.out hnl hD hR
    clear hD hR
    · have HB1 := Lib.hid (fun X hX => hb1 X hX)
      have HB2 := Lib.hid (fun X F1 h1 hb hNX => hb2 X F1 h1 hb hNX)
      have HB3 := Lib.hid (fun X hX => hb3 X hX)
      have HB4 := Lib.hid (fun X G1 h1 hb hNX => hb4 X G1 h1 hb hNX)
      have HS0 : Hid (wd.cell? ⟨N, 1, none⟩ = some (.int .i64 i) ∧ wd.cell? ⟨N, 3, none⟩ = some (.string v)) := ⟨p1, p3⟩
      have HSN : Hid (∀ X : World, X.heap[N]? = wd.heap[N]? → X.cell? ⟨N, 1, none⟩ = some (.int .i64 i) ∧ X.cell? ⟨N, 3, none⟩ = some (.string v)) := fun X hX => by
        obtain ⟨q0, q1, q2, q3⟩ := HKN.out X hX
        exact ⟨q1, q3⟩
      have HEND : Hid (∀ X, PrTo wd base D Q M L'.length X → PrTo w base D Q M (L.length + 1) X) := fun X ⟨F', G', L'', e1, e2, e3⟩ => HTO.out X ⟨F', G', L'', e1, Nat.le_trans e2 hl', e3⟩
      clear hb1 hb2 hb3 hb4 hl'
      go_wp2_with fail
      go_region_held3 (fun X => X.cell? ⟨N, 1, none⟩ = some (.int .i64 i) ∧ X.cell? ⟨N, 3, none⟩ = some (.string v)) (first | exact HS0.out | exact HSZ1.out | exact HSZ2.out | assumption)
        (first
        | (have qq := HPr1; clear qq; go_at_call 28; refine Calls.mono (HB4.out _ _ HPr1.out HBr1.out HNr1.out) ?_; rintro en w6 ⟨rfl, hto, hnn⟩; have HT6 := Lib.hid (HEND.out _ hto); have HSZ2 := Lib.hid (HSN.out _ hnn); clear hto hnn)
        | (have qq := HPd1; clear qq; go_at_call 34; refine Calls.mono (HB2.out _ _ HPd1.out HBd1.out HNd1.out) ?_; rintro en w6 ⟨rfl, hto, hnn⟩; have HT6 := Lib.hid (HEND.out _ hto); have HSZ2 := Lib.hid (HSN.out _ hnn); clear hto hnn)
        | (go_at_call 28; refine Calls.mono (HB1.out _ (by first | exact (Below.refl _ _).drew | exact Below.refl _ _)) ?_; rintro en w5 ⟨rfl, F1, h1, hb, hnn⟩; have HPd1 := Lib.hid h1; have HBd1 := Lib.hid hb; have HNd1 := Lib.hid hnn; have HSZ1 := Lib.hid (HSN.out _ hnn); clear h1 hb hnn)
        | (go_at_call 34; refine Calls.mono (HB3.out _ (by first | exact (Below.refl _ _).drew | exact Below.refl _ _)) ?_; rintro en w5 ⟨rfl, G1, h1, hb, hnn⟩; have HPr1 := Lib.hid h1; have HBr1 := Lib.hid hb; have HNr1 := Lib.hid hnn; have HSZ1 := Lib.hid (HSN.out _ hnn); clear h1 hb hnn))
      all_goals
        go_wp2
        go_ret
        exact ⟨rfl, HT6.out⟩
  by_cases k8 : kd = 8
  · subst k8
    obtain ⟨x, r, L', hl', hD, hR⟩ : ∃ (x : ByteArray) (r : Int) (L' : List ByteArray), L'.length ≤ L.length + 1 ∧ (∀ X F1, DqOn KDS X base F1 D M L → Calls Try.prog 24 #[.pointer (some ⟨D, 0, none⟩), .int .i64 i] X fun e w' => e = .returned (.tuple #[.string x, .int .i64 r]) ∧ ∃ F', DqOn KDS w' base F' D M L' ∧ Chg F1 F' X w') ∧ (∀ X G1, RwOn X base G1 Q L → Calls Try.prog 35 #[.pointer (some ⟨Q, 0, none⟩), .int .i64 i] X fun e w' => e = .returned (.tuple #[.string x, .int .i64 r]) ∧ ∃ G', RwOn w' base G' Q L' ∧ Chg G1 G' X w') := by
      by_cases q : 0 ≤ i ∧ i < L.length
      · obtain ⟨j, rfl⟩ : ∃ j : Nat, i = j := ⟨i.toNat, by omega⟩
        have hj : j < L.length := by omega
        obtain ⟨x, hx⟩ : ∃ x, L[j]? = some x := ⟨_, List.getElem?_eq_getElem hj⟩
        exact ⟨x, 0, delAt L j, by rw [delAt_length hj]; omega, fun X F1 h1 => delS_yes X h1 hM hx, fun X G1 h1 => rdel_yes X h1 (by omega) hx⟩
      · refine ⟨ByteArray.empty, 5, L, by omega, fun X F1 h1 => (delS_no X h1 i q).mono ?_, fun X G1 h1 => (rdel_no X h1 i q).mono ?_⟩
        · rintro e w' ⟨rfl, rfl⟩
          exact ⟨rfl, F1, h1, Chg.refl _ _⟩
        · rintro e w' ⟨rfl, rfl⟩
          exact ⟨rfl, G1, h1, Chg.refl _ _⟩
    obtain ⟨hb1, hb2, hb3, hb4⟩ := both_any HP.out HFN.out HGN.out hnl hD hR
    have HB1 := Lib.hid (hb1 wd HB0.out)
    have HB2 := Lib.hid (fun X F1 h1 hb hNX => hb2 X F1 h1 hb hNX)
    have HEND : Hid (∀ X, PrTo wd base D Q M L'.length X → PrTo w base D Q M (L.length + 1) X) := fun X ⟨F', G', L'', e1, e2, e3⟩ => HTO.out X ⟨F', G', L'', e1, Nat.le_trans e2 hl', e3⟩
    clear hb1 hb2 hb3 hb4 hl' hD hR
    go_wp2_with fail
    refine HB1.out.mono ?_
    rintro e w5 ⟨rfl, F1, h1, hb, hnn⟩
    have HB2' := Lib.hid (HB2.out w5 F1 h1 hb hnn)
    obtain ⟨q0, q1, q2, q3⟩ := HKN.out w5 hnn
    clear h1 hb hnn d1 p0 p1 p2 p3
    go_wp2_with fail
    refine HB2'.out.mono ?_
    rintro e w6 ⟨rfl, hto, hnn⟩
    have HT6 := Lib.hid (HEND.out _ hto)
    clear hto hnn
    go_wp2
    go_ret
    exact ⟨rfl, HT6.out⟩
  by_cases k9 : kd = 9
  · subst k9
    obtain ⟨r, L', hl', hD, hR⟩ : ∃ (r : Int) (L' : List ByteArray), L'.length ≤ L.length + 1 ∧ (∀ X F1, DqOn KDS X base F1 D M L → Calls Try.prog 29 #[.pointer (some ⟨D, 0, none⟩), .int .i64 i, .int .i64 k] X fun e w' => e = .returned (.int .i64 r) ∧ ∃ F', DqOn KDS w' base F' D M L' ∧ Chg F1 F' X w') ∧ (∀ X G1, RwOn X base G1 Q L → Calls Try.prog 36 #[.pointer (some ⟨Q, 0, none⟩), .int .i64 i, .int .i64 k] X fun e w' => e = .returned (.int .i64 r) ∧ ∃ G', RwOn w' base G' Q L' ∧ Chg G1 G' X w') := by
      by_cases q : 0 ≤ i ∧ i ≤ k ∧ k ≤ L.length
      · obtain ⟨j, rfl⟩ : ∃ j : Nat, i = j := ⟨i.toNat, by omega⟩
        obtain ⟨m, rfl⟩ : ∃ m : Nat, k = m := ⟨k.toNat, by omega⟩
        have hjm : j ≤ m := by omega
        have hm : m ≤ L.length := by omega
        exact ⟨0, (L.take m).drop j, by rw [List.length_drop, List.length_take]; omega, fun X F1 h1 => trimS_yes X h1 hM (by omega) hjm hm, fun X G1 h1 => rtrim_yes X h1 (by omega) hjm hm⟩
      · refine ⟨5, L, by omega, fun X F1 h1 => (trimS_no X h1 i k (by omega)).mono ?_, fun X G1 h1 => (rtrim_no X h1 i k (by omega)).mono ?_⟩
        · rintro e w' ⟨rfl, rfl⟩
          exact ⟨rfl, F1, h1, Chg.refl _ _⟩
        · rintro e w' ⟨rfl, rfl⟩
          exact ⟨rfl, G1, h1, Chg.refl _ _⟩
    obtain ⟨hb1, hb2, hb3, hb4⟩ := both_any HP.out HFN.out HGN.out hnl hD hR
    clear hD hR
    · have HB1 := Lib.hid (fun X hX => hb1 X hX)
      have HB2 := Lib.hid (fun X F1 h1 hb hNX => hb2 X F1 h1 hb hNX)
      have HB3 := Lib.hid (fun X hX => hb3 X hX)
      have HB4 := Lib.hid (fun X G1 h1 hb hNX => hb4 X G1 h1 hb hNX)
      have HS0 : Hid (wd.cell? ⟨N, 1, none⟩ = some (.int .i64 i) ∧ wd.cell? ⟨N, 2, none⟩ = some (.int .i64 k)) := ⟨p1, p2⟩
      have HSN : Hid (∀ X : World, X.heap[N]? = wd.heap[N]? → X.cell? ⟨N, 1, none⟩ = some (.int .i64 i) ∧ X.cell? ⟨N, 2, none⟩ = some (.int .i64 k)) := fun X hX => by
        obtain ⟨q0, q1, q2, q3⟩ := HKN.out X hX
        exact ⟨q1, q2⟩
      have HEND : Hid (∀ X, PrTo wd base D Q M L'.length X → PrTo w base D Q M (L.length + 1) X) := fun X ⟨F', G', L'', e1, e2, e3⟩ => HTO.out X ⟨F', G', L'', e1, Nat.le_trans e2 hl', e3⟩
      clear hb1 hb2 hb3 hb4 hl'
      go_wp2_with fail
      go_region_held3 (fun X => X.cell? ⟨N, 1, none⟩ = some (.int .i64 i) ∧ X.cell? ⟨N, 2, none⟩ = some (.int .i64 k)) (first | exact HS0.out | exact HSZ1.out | exact HSZ2.out | assumption)
        (first
        | (have qq := HPr1; clear qq; go_at_call 29; refine Calls.mono (HB4.out _ _ HPr1.out HBr1.out HNr1.out) ?_; rintro en w6 ⟨rfl, hto, hnn⟩; have HT6 := Lib.hid (HEND.out _ hto); have HSZ2 := Lib.hid (HSN.out _ hnn); clear hto hnn)
        | (have qq := HPd1; clear qq; go_at_call 36; refine Calls.mono (HB2.out _ _ HPd1.out HBd1.out HNd1.out) ?_; rintro en w6 ⟨rfl, hto, hnn⟩; have HT6 := Lib.hid (HEND.out _ hto); have HSZ2 := Lib.hid (HSN.out _ hnn); clear hto hnn)
        | (go_at_call 29; refine Calls.mono (HB1.out _ (by first | exact (Below.refl _ _).drew | exact Below.refl _ _)) ?_; rintro en w5 ⟨rfl, F1, h1, hb, hnn⟩; have HPd1 := Lib.hid h1; have HBd1 := Lib.hid hb; have HNd1 := Lib.hid hnn; have HSZ1 := Lib.hid (HSN.out _ hnn); clear h1 hb hnn)
        | (go_at_call 36; refine Calls.mono (HB3.out _ (by first | exact (Below.refl _ _).drew | exact Below.refl _ _)) ?_; rintro en w5 ⟨rfl, G1, h1, hb, hnn⟩; have HPr1 := Lib.hid h1; have HBr1 := Lib.hid hb; have HNr1 := Lib.hid hnn; have HSZ1 := Lib.hid (HSN.out _ hnn); clear h1 hb hnn))
      all_goals
        go_wp2
        go_ret
        exact ⟨rfl, HT6.out⟩
  go_wp2_with fail
  refine HEN.out.mono ?_
  rintro e w2 ⟨rfl, hto⟩
  have HT := Lib.hid (HTO.out _ hto)
  clear hto
  go_wp2
  go_ret
  exact ⟨rfl, HT.out⟩
end

end Go.Proofs.Ytkjcoengijedeab
