/-
  Package ring: a ring in memory; the walks of isMade, Window, has, follows, From, Accepts, State. Condition: the ring lies in memory as typed.
-/
import Derived.Test.YtbecjaamheibmaaRgE
import Derived.LaidEqlPtr
namespace Go.Proofs.Ytbecjaamheibmaa
open Go.RowKit

/-- A ring that New made: of size s, with history h, fed X since it began. -/
structure RgOn (w : World) (base : Nat) (F : Nat → Prop) (p s : Nat) (h : Hst) (X : Tx) : Prop where
  ls : LsOn w base F p s h X.length X.length X
  s1 : 0 < s
  s2 : s ≤ 16777216
  xo : (X.length : Int) ≤ h.off
  o2 : h.off ≤ 1125899906842624
  i1 : 0 < h.id ∧ h.id ≤ 18446744073709551615
  i2 : 0 ≤ h.sec ∧ h.sec ≤ 18446744073709551615
  fk : 0 ≤ h.frk ∧ h.frk ≤ 1125899906842624

section
variable {w w' : World} {base p s : Nat} {F : Nat → Prop} {h : Hst} {X : Tx}
theorem RgOn.below (H : RgOn w base F p s h X) (hb : Below w.heap.size w w') : RgOn w' base F p s h X := { H with ls := H.ls.below hb }
theorem RgOn.only {q : Nat → Prop} (H : RgOn w base F p s h X) (hb : Only q w w') (hp : ∀ k, F k → ¬ q k) : RgOn w' base F p s h X := { H with ls := H.ls.only hb hp }
theorem RgOn.lt (H : RgOn w base F p s h X) : p < w.heap.size := (H.ls.1 p H.ls.2.1).2
theorem RgOn.le (H : RgOn w base F p s h X) : base ≤ p := (H.ls.1 p H.ls.2.1).1
theorem RgOn.row (H : RgOn w base F p s h X) : ∃ sl, w.rowIs p 67 8 (rgV p h s X.length sl) := by
  obtain ⟨_, _, _, g, m, S, hp, _⟩ := H.ls
  exact ⟨_, hp⟩
theorem RgOn.cells (H : RgOn w base F p s h X) : w.cell? ⟨p, 0, none⟩ = some (.pointer (some ⟨p, 0, none⟩)) ∧ w.cell? ⟨p, 1, none⟩ = some (.int .u64 h.id) ∧ w.cell? ⟨p, 2, none⟩ = some (.int .i64 h.off) ∧ w.cell? ⟨p, 3, none⟩ = some (.int .u64 h.sec) ∧ w.cell? ⟨p, 4, none⟩ = some (.int .i64 h.frk) ∧ w.cell? ⟨p, 5, none⟩ = some (.int .i64 s) ∧ w.cell? ⟨p, 6, none⟩ = some (.int .i64 X.length) := by
  obtain ⟨sl, hp⟩ := H.row
  exact ⟨hp.cell (i := 0) (by omega), hp.cell (i := 1) (by omega), hp.cell (i := 2) (by omega), hp.cell (i := 3) (by omega), hp.cell (i := 4) (by omega), hp.cell (i := 5) (by omega), hp.cell (i := 6) (by omega)⟩
theorem RgOn.frozen (H : RgOn w base F p s h X) (i : Nat) : w.frozen? ⟨p, i, none⟩ = false := by
  obtain ⟨sl, hp⟩ := H.row
  exact hp.frozen i

/-- The first offset. -/
def frstO (s : Nat) (h : Hst) (X : Tx) : Int := h.off - (min X.length s : Nat)
theorem frst_bd (H : RgOn w base F p s h X) : 0 ≤ frstO s h X ∧ frstO s h X ≤ h.off ∧ 0 ≤ h.off := by
  have := H.xo
  unfold frstO
  omega

set_option maxRecDepth 100000 in
set_option maxHeartbeats 4000000 in
theorem made_any (w : World) (H : RgOn w base F p s h X) : Calls Try.prog 32 #[.pointer (some ⟨p, 0, none⟩)] w fun e w' => e = .returned (.bool true) ∧ w = w' := by
  obtain ⟨c0, _⟩ := H.cells
  have hi : (Try.prog.info? 67).isSome = true := by kernel_rfl
  obtain ⟨i, hi⟩ := Option.isSome_iff_exists.1 hi
  have he : (binOp .eql 24 (.pointer (some ⟨p, 0, none⟩)) (.pointer (some ⟨p, 0, none⟩))).run Try.prog w = .ok (.bool true) w := run_eql_ptr_same w _ (te := 67) Try.underlying24 hi
  clear H hi
  go_enter Try.func32, Try.ntmps32
  go_wp2
  go_ret
  exact ⟨rfl, rfl⟩

set_option maxRecDepth 100000 in
set_option maxHeartbeats 4000000 in
theorem window_any (w : World) (H : RgOn w base F p s h X) : Calls Try.prog 13 #[.pointer (some ⟨p, 0, none⟩)] w fun e w' => e = .returned (.tuple #[.int .i64 (frstO s h X), .int .i64 h.off]) ∧ ∃ n, w' = w.drewN n := by
  have HM := Lib.hid (made_any w H)
  obtain ⟨c0, c1, c2, c3, c4, c5, c6⟩ := H.cells
  have HC := Lib.hid (fun nq => count_any p s X.length (w.drewN nq) c5 c6)
  have hb := frst_bd H
  have hw : IntKind.i64.wrap (h.off - ((min X.length s : Nat) : Int)) = frstO s h X := by
    have := H.o2
    have := H.xo
    rw [IntWalk.i64_in _ (by omega)]
    rfl
  obtain ⟨m, hm⟩ : ∃ m, min X.length s = m := ⟨_, rfl⟩
  obtain ⟨f, hf⟩ : ∃ f, frstO s h X = f := ⟨_, rfl⟩
  rw [hm] at HC hw
  rw [hf] at hw ⊢
  obtain ⟨off, ho⟩ : ∃ o, h.off = o := ⟨_, rfl⟩
  rw [ho] at c2 hw ⊢
  clear hm hf H hb c0 c1 c3 c4 c5 c6 ho
  go_enter Try.func13, Try.ntmps13
  go_wp2_with fail
  refine HM.out.mono ?_
  rintro e w2 ⟨rfl, rfl⟩
  go_wp2_with fail
  go_quiet ((go_at_call 33; exact Calls.quiet_of (HC.out _)))
  go_wp2
  go_ret2
  exact ⟨rfl, _, rfl⟩

/-- Are the bytes from an offset on there? -/
def hasB (s : Nat) (h : Hst) (X : Tx) (o : Int) : Bool := decide (frstO s h X ≤ o ∧ o ≤ h.off)

set_option maxRecDepth 100000 in
set_option maxHeartbeats 4000000 in
theorem has_any (w : World) (H : RgOn w base F p s h X) (o : Int) : Calls Try.prog 34 #[.pointer (some ⟨p, 0, none⟩), .int .i64 o] w fun e w' => e = .returned (.bool (hasB s h X o)) ∧ ∃ n, w' = w.drewN n := by
  have HW := Lib.hid (window_any w H)
  obtain ⟨f, hf⟩ : ∃ f, frstO s h X = f := ⟨_, rfl⟩
  obtain ⟨off, ho⟩ : ∃ o, h.off = o := ⟨_, rfl⟩
  unfold hasB
  rw [hf, ho] at HW ⊢
  clear hf ho H
  by_cases h1 : f ≤ o
  · by_cases h2 : o ≤ off
    · have e : decide (f ≤ o ∧ o ≤ off) = true := by simp [h1, h2]
      rw [e]
      clear e
      go_enter Try.func34, Try.ntmps34
      go_wp2_with fail
      refine HW.out.mono ?_
      rintro e w2 ⟨rfl, n, rfl⟩
      go_wp2
      go_ret
      exact ⟨rfl, n, rfl⟩
    · have e : decide (f ≤ o ∧ o ≤ off) = false := by simp [h2]
      have h2b : decide (o ≤ off) = false := by simpa using h2
      rw [e]
      clear e
      go_enter Try.func34, Try.ntmps34
      go_wp2_with fail
      refine HW.out.mono ?_
      rintro e w2 ⟨rfl, n, rfl⟩
      go_wp2
      go_ret
      exact ⟨rfl, n, rfl⟩
  · have e : decide (f ≤ o ∧ o ≤ off) = false := by simp [h1]
    have h1b : decide (f ≤ o) = false := by simpa using h1
    rw [e]
    clear e
    go_enter Try.func34, Try.ntmps34
    go_wp2_with fail
    refine HW.out.mono ?_
    rintro e w2 ⟨rfl, n, rfl⟩
    go_wp2
    go_ret
    exact ⟨rfl, n, rfl⟩

end

end Go.Proofs.Ytbecjaamheibmaa
