/-
  Package deque (values: string): the walks of Insert, Remove, Push, Unshift, Pop and Shift. Conditions: the row lies in memory as it reads.
-/
import Derived.Test.YtkjcoengijedeabGQiS
namespace Go.Proofs.Ytkjcoengijedeab
open Go.RowKit

set_option maxRecDepth 100000 in
set_option maxHeartbeats 8000000 in
theorem insS_nil (i : Int) (v : ByteArray) (w : World) : Calls Try.prog 28 #[.pointer none, .int .i64 i, (Value.string) v] w fun e w' => e = .returned (.int .i64 4) ∧ w' = w := by
  go_enter Try.func28, Try.ntmps28
  go_wp2
  go_ret
  exact ⟨rfl, rfl⟩

set_option maxRecDepth 100000 in
set_option maxHeartbeats 8000000 in
theorem insS_no {base D M : Nat} {F : Nat → Prop} {L : List ByteArray} (w : World) (h : DqOn KDS w base F D M L) (i : Int) (v : ByteArray) (hi : i < 0 ∨ L.length < i) :
    Calls Try.prog 28 #[.pointer (some ⟨D, 0, none⟩), .int .i64 i, (Value.string) v] w fun e w' => e = .returned (.int .i64 5) ∧ w' = w := by
  have HL := Lib.hid (lenS_any w h)
  obtain ⟨k, hk⟩ : ∃ k, L.length = k := ⟨_, rfl⟩
  rw [hk] at HL hi
  clear h hk
  by_cases h0 : i < 0
  · clear hi
    go_enter Try.func28, Try.ntmps28
    go_wp2
    go_ret
    exact ⟨rfl, rfl⟩
  · have h1 : (k : Int) < i := by omega
    have h2 : decide (i < 0) = false := decide_eq_false h0
    clear hi h0
    go_enter Try.func28, Try.ntmps28
    go_wp2_with fail
    refine HL.out.mono ?_
    rintro e w2 ⟨rfl, rfl⟩
    go_wp2
    go_ret
    exact ⟨rfl, rfl⟩

set_option maxRecDepth 100000 in
set_option maxHeartbeats 8000000 in
theorem insS_yes {base D M i : Nat} {F : Nat → Prop} {L : List ByteArray} (w : World) (h : DqOn KDS w base F D M L) (v : ByteArray) (hM : M ≤ 400000) (hmore : moreS L.length ≤ M) (hi : i ≤ L.length) :
    Calls Try.prog 28 #[.pointer (some ⟨D, 0, none⟩), .int .i64 i, (Value.string) v] w fun e w' => e = .returned (.int .i64 0) ∧ ∃ F', DqOn KDS w' base F' D M (insAt L i v) ∧ Chg F F' w w' := by
  have HL := Lib.hid (lenS_any w h)
  have HI := Lib.hid hi
  have hlen := insAt_length hi v
  have HMORE := Lib.hid hmore
  obtain ⟨k, hk⟩ : ∃ k, L.length = k := ⟨_, rfl⟩
  have HK := Lib.hid hk
  rw [hk] at HL hi hmore hlen
  have h1 : ¬ (k : Int) < (i : Int) := by omega
  have HLN := Lib.hid hlen
  have hdl : D < w.heap.size := (h.1 D h.2.1).2
  have hbs : base ≤ w.heap.size := by have := h.1 D h.2.1; omega
  clear hk hlen
  obtain ⟨hF, hFD, ⟨hd, rfl⟩ | ⟨R, g, N, c, f, S, hd, hFR, hFg, hNM, hr⟩⟩ := h
  · have c0 := hd.cell (i := 0) (by omega)
    have f0 := hd.frozen 0
    have HD := Lib.hid hd
    obtain ⟨R0, hR0⟩ : ∃ R, w.heap.size = R := ⟨_, rfl⟩
    have hdl0 : D < w.heap.size := hdl
    rw [hR0] at hdl hbs
    obtain ⟨wa, hwa⟩ : ∃ wa, w.setCell ⟨D, 0, none⟩ (.pointer (some ⟨R0, 0, none⟩)) = wa := ⟨_, rfl⟩
    obtain ⟨w1, hw1⟩ : ∃ w1, wa.alloc (.cells #[.slice none 0 0, .int .i64 0, .int .i64 0] 64) = w1 := ⟨_, rfl⟩
    have HSA : wa.heap.size = R0 := by rw [← hwa, ← hR0]; simp [World.setCell]
    have HSZ : w1.heap.size = R0 + 1 := by rw [← hw1, ← HSA]; simp
    have HDA : wa.rowIs D 66 1 (fun _ => .pointer (some ⟨R0, 0, none⟩)) := by
      rw [← hwa]
      exact (hd.set 0 _).congr (fun j hj => by
        obtain rfl : j = 0 := by omega
        rfl)
    have HW1D : Hid (w1.rowIs D 66 1 (fun _ => .pointer (some ⟨R0, 0, none⟩))) := by unfold Hid; rw [← hw1]; exact HDA.alloc _
    have HW1R : Hid (RgAt KDS w1 R0 0 0 0 0 (fun _ => .pointer none) ([] : List ByteArray)) := by
      refine ⟨?_, fun e => absurd e (Nat.lt_irrefl 0), Nat.le_refl _, Or.inr ⟨rfl, rfl⟩, Nat.le_refl _, fun j x hx => by simp at hx⟩
      rw [← hw1, ← HSA]
      exact World.rowIs_alloc wa #[.slice none 0 0, .int .i64 0, .int .i64 0] _ _ (fun i hi => by
        have hi : i < 3 := hi
        rcases (by omega : i = 0 ∨ i = 1 ∨ i = 2) with rfl | rfl | rfl <;> rfl)
    have HCH : Hid (Chg F (fun k => F k ∨ k = R0) w w1) := by
      refine ⟨?_, fun k hk => ?_⟩
      · rw [← hw1, ← hwa]
        exact ((Only.refl F w).set (q := ⟨D, 0, none⟩) hFD _).trans (Only.of_below ((Below.refl _ _).alloc (Nat.le_refl _) _))
      · rcases hk with hk | hk
        · exact Or.inl hk
        · exact Or.inr (by rw [hk, hR0]; exact Nat.le_refl _)
    have HFF : ∀ k, (F k ∨ k = R0) → base ≤ k ∧ k < w1.heap.size := fun k hk => by
      rw [HSZ]
      rcases hk with hk | hk
      · exact ⟨(hF k hk).1, by have := (hF k hk).2; omega⟩
      · exact ⟨by rw [hk]; omega, by omega⟩
    have HRI := Lib.hid (ringInsS_any w1 HW1R.out (by omega) HI.out v)
    have HFIN := Lib.hid (fun w' g' N' c' f' S' (h1 : g' = 0 ∧ 0 < 0 ∨ w1.heap.size ≤ g') (h2 : N' ≤ max 0 (moreS ([] : List ByteArray).length)) (h3 : RgAt KDS w' R0 g' N' c' f' S' (insAt [] i v)) h4 => dq_of_ring (F := fun k => F k ∨ k = R0) (by decide) (by decide) HFF (Or.inl hFD) HW1D.out (Or.inr rfl) (fun e => absurd e (Nat.lt_irrefl 0)) HW1R.out h1 (by have := HMORE.out; omega : N' ≤ M) (by have q := h3.len; rw [HLN.out] at q; omega) h3 h4)
    have e0 := HW1D.out.cell (i := 0) (by omega)
    rw [← hw1, ← hwa, ← hR0] at e0
    have HWA := Lib.hid hwa
    have HR0 := Lib.hid hR0
    have HW1 := Lib.hid hw1
    clear hF hd hwa hR0 hw1 HSA HSZ HDA HFF
    go_enter Try.func28, Try.ntmps28
    go_wp2_with fail
    refine HL.out.mono ?_
    rintro e w2 ⟨rfl, rfl⟩
    go_wp2_with fail
    rw [HR0.out, HWA.out, HW1.out]
    refine HRI.out.mono ?_
    rintro e w3 ⟨rfl, g', N', c', f', S', q1, q2, q3, q4⟩
    have HQ := Lib.hid (HFIN.out w3 g' N' c' f' S' q1 q2 q3 q4)
    clear q1 q2 q3 q4
    go_wp2
    go_ret
    obtain ⟨F', z1, z2⟩ := HQ.out
    exact ⟨rfl, F', z1, HCH.out.trans z2⟩
  · have c0 := hd.cell (i := 0) (by omega)
    have HRI := Lib.hid (ringInsS_any w hr (by omega) HI.out v)
    have HFIN := Lib.hid (fun w' g' N' c' f' S' (h1 : g' = g ∧ 0 < N ∨ w.heap.size ≤ g') (h2 : N' ≤ max N (moreS L.length)) (h3 : RgAt KDS w' R g' N' c' f' S' (insAt L i v)) h4 => dq_of_ring (by decide) (by decide) hF hFD hd hFR hFg hr h1 (by have := HMORE.out; omega : N' ≤ M) (by have q := h3.len; rw [HLN.out] at q; omega) h3 h4)
    clear hd hr hF
    go_enter Try.func28, Try.ntmps28
    go_wp2_with fail
    refine HL.out.mono ?_
    rintro e w2 ⟨rfl, rfl⟩
    go_wp2_with fail
    refine HRI.out.mono ?_
    rintro e w3 ⟨rfl, g', N', c', f', S', q1, q2, q3, q4⟩
    have HQ := Lib.hid (HFIN.out w3 g' N' c' f' S' q1 q2 q3 q4)
    clear q1 q2 q3 q4
    go_wp2
    go_ret
    exact ⟨rfl, HQ.out⟩

set_option maxRecDepth 100000 in
set_option maxHeartbeats 8000000 in
theorem delS_nil (i : Int) (w : World) : Calls Try.prog 24 #[.pointer none, .int .i64 i] w fun e w' => e = .returned (.tuple #[.string ByteArray.empty, .int .i64 4]) ∧ w' = w := by
  go_enter Try.func24, Try.ntmps24
  go_wp2
  go_ret2
  exact ⟨rfl, rfl⟩

set_option maxRecDepth 100000 in
set_option maxHeartbeats 8000000 in
theorem delS_no {base D M : Nat} {F : Nat → Prop} {L : List ByteArray} (w : World) (h : DqOn KDS w base F D M L) (i : Int) (hi : ¬ (0 ≤ i ∧ i < L.length)) :
    Calls Try.prog 24 #[.pointer (some ⟨D, 0, none⟩), .int .i64 i] w fun e w' => e = .returned (.tuple #[.string ByteArray.empty, .int .i64 5]) ∧ w' = w := by
  have HL := Lib.hid (hasS_no w h i hi)
  clear h hi
  go_enter Try.func24, Try.ntmps24
  go_wp2_with fail
  refine HL.out.mono ?_
  rintro e w2 ⟨rfl, rfl⟩
  go_wp2
  go_ret2
  exact ⟨rfl, rfl⟩

set_option maxRecDepth 100000 in
set_option maxHeartbeats 8000000 in
theorem delS_yes {base D M i : Nat} {F : Nat → Prop} {L : List ByteArray} {v : ByteArray} (w : World) (h : DqOn KDS w base F D M L) (hM : M ≤ 400000) (hv : L[i]? = some v) :
    Calls Try.prog 24 #[.pointer (some ⟨D, 0, none⟩), .int .i64 i] w fun e w' => e = .returned (.tuple #[(Value.string) v, .int .i64 0]) ∧ ∃ F', DqOn KDS w' base F' D M (delAt L i) ∧ Chg F F' w w' := by
  have hi := lt_of_some hv
  have HL := Lib.hid (hasS_yes w h (i : Int) (by omega) (by omega))
  obtain ⟨hF, hFD, ⟨hd, rfl⟩ | ⟨R, g, N, c, f, S, hd, hFR, hFg, hNM, hr⟩⟩ := h
  · simp at hi
  · have c0 := hd.cell (i := 0) (by omega)
    have hl := hr.len
    have HRI := Lib.hid (ringDelS_any w hr (by omega) hi hv)
    have HFIN := Lib.hid (fun w' f' S' (h3 : RgAt KDS w' R g N c f' S' (delAt L i)) (h4 : Only (fun k => k = R ∨ k = g) w w') => dq_of_ring (by decide) (by decide) hF hFD hd hFR hFg hr (Or.inl ⟨rfl, by omega⟩) hNM (by omega) h3 (h4.mono (fun k hk => hk.imp id (fun e => ⟨e, by omega⟩))))
    clear hd hr hF hv
    go_enter Try.func24, Try.ntmps24
    go_wp2_with fail
    refine HL.out.mono ?_
    rintro e w2 ⟨rfl, rfl⟩
    go_wp2_with fail
    refine HRI.out.mono ?_
    rintro e w3 ⟨rfl, f', S', q3, q4⟩
    have HQ := Lib.hid (HFIN.out w3 f' S' q3 q4)
    clear q3 q4
    go_wp2
    go_ret2
    exact ⟨rfl, HQ.out⟩

/-! The ends. -/

set_option maxRecDepth 100000 in
set_option maxHeartbeats 8000000 in
theorem pushS_nil (v : ByteArray) (w : World) : Calls Try.prog 25 #[.pointer none, (Value.string) v] w fun e w' => e = .returned (.int .i64 4) ∧ w' = w := by
  have HL := Lib.hid (lenS_nil w)
  have HI := Lib.hid (insS_nil 0 v w)
  go_enter Try.func25, Try.ntmps25
  go_wp2_with fail
  refine HL.out.mono ?_
  rintro e w2 ⟨rfl, rfl⟩
  go_wp2_with fail
  refine HI.out.mono ?_
  rintro e w2 ⟨rfl, rfl⟩
  go_wp2
  go_ret
  exact ⟨rfl, rfl⟩

set_option maxRecDepth 100000 in
set_option maxHeartbeats 8000000 in
theorem unshiftS_nil (v : ByteArray) (w : World) : Calls Try.prog 26 #[.pointer none, (Value.string) v] w fun e w' => e = .returned (.int .i64 4) ∧ w' = w := by
  have HI := Lib.hid (insS_nil 0 v w)
  go_enter Try.func26, Try.ntmps26
  go_wp2_with fail
  refine HI.out.mono ?_
  rintro e w2 ⟨rfl, rfl⟩
  go_wp2
  go_ret
  exact ⟨rfl, rfl⟩

set_option maxRecDepth 100000 in
set_option maxHeartbeats 8000000 in
theorem popS_nil (w : World) : Calls Try.prog 21 #[.pointer none] w fun e w' => e = .returned (.tuple #[.string ByteArray.empty, .bool false]) ∧ w' = w := by
  have HL := Lib.hid (lenS_nil w)
  have HI := Lib.hid (delS_nil (-1) w)
  go_enter Try.func21, Try.ntmps21
  go_wp2_with fail
  refine HL.out.mono ?_
  rintro e w2 ⟨rfl, rfl⟩
  go_wp2_with fail
  refine HI.out.mono ?_
  rintro e w2 ⟨rfl, rfl⟩
  go_wp2
  go_ret2
  exact ⟨rfl, rfl⟩

set_option maxRecDepth 100000 in
set_option maxHeartbeats 8000000 in
theorem shiftS_nil (w : World) : Calls Try.prog 22 #[.pointer none] w fun e w' => e = .returned (.tuple #[.string ByteArray.empty, .bool false]) ∧ w' = w := by
  have HI := Lib.hid (delS_nil 0 w)
  go_enter Try.func22, Try.ntmps22
  go_wp2_with fail
  refine HI.out.mono ?_
  rintro e w2 ⟨rfl, rfl⟩
  go_wp2
  go_ret2
  exact ⟨rfl, rfl⟩

section
variable {base D M : Nat} {F : Nat → Prop} {L : List ByteArray}

set_option maxRecDepth 100000 in
set_option maxHeartbeats 8000000 in
theorem pushS_any (w : World) (h : DqOn KDS w base F D M L) (v : ByteArray) (hM : M ≤ 400000) (hmore : moreS L.length ≤ M) :
    Calls Try.prog 25 #[.pointer (some ⟨D, 0, none⟩), (Value.string) v] w fun e w' => e = .returned (.int .i64 0) ∧ ∃ F', DqOn KDS w' base F' D M (insAt L L.length v) ∧ Chg F F' w w' := by
  have HL := Lib.hid (lenS_any w h)
  have HI := Lib.hid (insS_yes w h v hM hmore (Nat.le_refl _))
  clear h
  go_enter Try.func25, Try.ntmps25
  go_wp2_with fail
  refine HL.out.mono ?_
  rintro e w2 ⟨rfl, rfl⟩
  go_wp2_with fail
  refine HI.out.mono ?_
  rintro e w3 ⟨rfl, hq⟩
  have HQ := Lib.hid hq
  clear hq
  go_wp2
  go_ret
  exact ⟨rfl, HQ.out⟩

set_option maxRecDepth 100000 in
set_option maxHeartbeats 8000000 in
theorem unshiftS_any (w : World) (h : DqOn KDS w base F D M L) (v : ByteArray) (hM : M ≤ 400000) (hmore : moreS L.length ≤ M) :
    Calls Try.prog 26 #[.pointer (some ⟨D, 0, none⟩), (Value.string) v] w fun e w' => e = .returned (.int .i64 0) ∧ ∃ F', DqOn KDS w' base F' D M (insAt L 0 v) ∧ Chg F F' w w' := by
  have HI := Lib.hid (insS_yes w h v hM hmore (Nat.zero_le _))
  clear h
  go_enter Try.func26, Try.ntmps26
  go_wp2_with fail
  refine HI.out.mono ?_
  rintro e w3 ⟨rfl, hq⟩
  have HQ := Lib.hid hq
  clear hq
  go_wp2
  go_ret
  exact ⟨rfl, HQ.out⟩

set_option maxRecDepth 100000 in
set_option maxHeartbeats 8000000 in
theorem shiftS_none (w : World) (h : DqOn KDS w base F D M []) :
    Calls Try.prog 22 #[.pointer (some ⟨D, 0, none⟩)] w fun e w' => e = .returned (.tuple #[.string ByteArray.empty, .bool false]) ∧ w' = w := by
  have HI := Lib.hid (delS_no w h 0 (by simp))
  clear h
  go_enter Try.func22, Try.ntmps22
  go_wp2_with fail
  refine HI.out.mono ?_
  rintro e w2 ⟨rfl, rfl⟩
  go_wp2
  go_ret2
  exact ⟨rfl, rfl⟩

set_option maxRecDepth 100000 in
set_option maxHeartbeats 8000000 in
theorem popS_none (w : World) (h : DqOn KDS w base F D M []) :
    Calls Try.prog 21 #[.pointer (some ⟨D, 0, none⟩)] w fun e w' => e = .returned (.tuple #[.string ByteArray.empty, .bool false]) ∧ w' = w := by
  have HL := Lib.hid (lenS_any w h)
  have HI := Lib.hid (delS_no w h (-1) (by simp))
  clear h
  go_enter Try.func21, Try.ntmps21
  go_wp2_with fail
  refine HL.out.mono ?_
  rintro e w2 ⟨rfl, rfl⟩
  go_wp2_with fail
  refine HI.out.mono ?_
  rintro e w2 ⟨rfl, rfl⟩
  go_wp2
  go_ret2
  exact ⟨rfl, rfl⟩

set_option maxRecDepth 100000 in
set_option maxHeartbeats 8000000 in
theorem shiftS_any {v : ByteArray} (w : World) (h : DqOn KDS w base F D M (v :: L)) (hM : M ≤ 400000) :
    Calls Try.prog 22 #[.pointer (some ⟨D, 0, none⟩)] w fun e w' => e = .returned (.tuple #[(Value.string) v, .bool true]) ∧ ∃ F', DqOn KDS w' base F' D M L ∧ Chg F F' w w' := by
  have HI := Lib.hid (delS_yes (i := 0) (v := v) w h hM rfl)
  clear h
  go_enter Try.func22, Try.ntmps22
  go_wp2_with fail
  refine HI.out.mono ?_
  rintro e w2 ⟨rfl, hq⟩
  have HQ := Lib.hid hq
  clear hq
  go_wp2
  go_ret2
  exact ⟨rfl, HQ.out⟩

set_option maxRecDepth 100000 in
set_option maxHeartbeats 8000000 in
theorem popS_any {v : ByteArray} (w : World) (h : DqOn KDS w base F D M (L ++ [v])) (hM : M ≤ 400000) (hl : L.length ≤ 400000) :
    Calls Try.prog 21 #[.pointer (some ⟨D, 0, none⟩)] w fun e w' => e = .returned (.tuple #[(Value.string) v, .bool true]) ∧ ∃ F', DqOn KDS w' base F' D M L ∧ Chg F F' w w' := by
  have HL := Lib.hid (lenS_any w h)
  have HI := Lib.hid (delS_yes (i := L.length) (v := v) w h hM (by rw [List.getElem?_append_right (Nat.le_refl _), Nat.sub_self]; rfl))
  have hdel : delAt (L ++ [v]) L.length = L := by
    unfold delAt
    rw [List.take_left' rfl, List.drop_of_length_le (by rw [List.length_append]; exact Nat.le_refl _), List.append_nil]
  rw [hdel] at HI
  rw [List.length_append, List.length_singleton] at HL
  obtain ⟨k, hk⟩ : ∃ k, L.length = k := ⟨_, rfl⟩
  rw [hk] at HI HL hl
  rw [show ((k + 1 : Nat) : Int) = (k : Int) + 1 from by omega] at HL
  clear h hdel hk
  go_enter Try.func21, Try.ntmps21
  go_wp2_with fail
  refine HL.out.mono ?_
  rintro e w2 ⟨rfl, rfl⟩
  go_wp2_with fail
  refine HI.out.mono ?_
  rintro e w2 ⟨rfl, hq⟩
  have HQ := Lib.hid hq
  clear hq
  go_wp2
  go_ret2
  exact ⟨rfl, HQ.out⟩
end

end Go.Proofs.Ytkjcoengijedeab
