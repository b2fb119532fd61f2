/-
  Package skip: lists that no call made: First, Count; From, and what it tells. Condition: the table of math/bits lies where the program laid it.
-/
import Derived.Test.YtcbiiioglklpoaaDoorSkU1
import Derived.Test.YtcbiiioglklpoaaDoorSkE
namespace Go.Proofs.YtcbiiioglklpoaaDoor
open Go.RowKit

theorem no_range (lo hi : Bd) : fromM lo [] = 0 ∧ toM lo hi [] = 0 := by
  have h1 := fromM_le lo hi []
  have h2 := toM_le lo hi []
  simp only [List.length_nil] at h2
  omega

section
variable {w : World} {V : Value}

theorem Emp.reach {X : World} {c : Nat} (lo hi : Bd) (k : Emp X c) : Calls Tryd.prog 59 #[.pointer (some ⟨c, 0, none⟩), bdV lo, bdV hi] X fun e w' => e = .returned (.tuple #[.int .i64 0, .int .i64 0]) ∧ Below X.heap.size X w' := by
  obtain ⟨h, mb, S, h1, h2, _, _⟩ := k
  have q := reach_any lo hi X (lvS_pos 0) (by simp) (h1.cell (i := 1) (by omega)) h2 (L := []) rfl (by unfold InOrd; exact List.Pairwise.nil)
  rw [(no_range lo hi).1, (no_range lo hi).2] at q
  exact q

/-- Two bounds in boxes. -/
theorem two_bounds (w : World) (lo hi : Bd) {wa : World} {M : Nat} (hM : w.heap.size = M) (hwa : (w.alloc (.cells #[.int .i64 lo.n, .bool lo.open_, .int .i64 lo.inf] 23)).alloc (.cells #[.int .i64 hi.n, .bool hi.open_, .int .i64 hi.inf] 23) = wa) :
    BdAt wa M lo ∧ BdAt wa (M + 1) hi ∧ Below M w wa ∧ wa.heap.size = M + 2 := by
  subst hwa
  subst hM
  refine ⟨(bd_alloc w lo).below (M := w.heap.size + 1) (by omega) ((Below.refl _ _).alloc (by simp) _), ?_, ((Below.refl _ _).alloc (Nat.le_refl _) _).alloc (by simp) _, by simp⟩
  have q := bd_alloc (w.alloc (.cells #[.int .i64 lo.n, .bool lo.open_, .int .i64 lo.inf] 23)) hi
  have e : (w.alloc (.cells #[.int .i64 lo.n, .bool lo.open_, .int .i64 lo.inf] 23)).heap.size = w.heap.size + 1 := by simp
  rw [e] at q
  exact q

set_option maxRecDepth 100000 in
set_option maxHeartbeats 8000000 in
theorem ncount_any (hV : NoL w V) (hz : TzB w) (lo hi : Bd) : Calls Tryd.prog 33 #[V, bdV lo, bdV hi] w fun e w' => e = .returned (.int .i64 0) ∧ Below w.heap.size w w' := by
  obtain ⟨M, hM⟩ : ∃ M, w.heap.size = M := ⟨_, rfl⟩
  obtain ⟨wa, hwa⟩ : ∃ wa, (w.alloc (.cells #[.int .i64 lo.n, .bool lo.open_, .int .i64 lo.inf] 23)).alloc (.cells #[.int .i64 hi.n, .bool hi.open_, .int .i64 hi.inf] 23) = wa := ⟨_, rfl⟩
  obtain ⟨l1, l2, ba, sa⟩ := two_bounds w lo hi hM hwa
  have hba : Below w.heap.size w wa := by rw [hM]; exact ba
  have HR := Lib.hid (fun (X : World) (hX : Below wa.heap.size wa X) => nread_any ((hV.below hba).below hX) ((hz.below hba).below hX))
  have HRE := Lib.hid (fun (X : World) (c : Nat) (k : Emp X c) => k.reach lo hi)
  unfold bdV at HRE ⊢
  have HK : Hid (∀ X, Below wa.heap.size wa X → Below wa.heap.size wa X ∧ X.cell? ⟨M, 0, none⟩ = some (.int .i64 lo.n) ∧ X.cell? ⟨M, 1, none⟩ = some (.bool lo.open_) ∧ X.cell? ⟨M, 2, none⟩ = some (.int .i64 lo.inf) ∧ X.cell? ⟨M + 1, 0, none⟩ = some (.int .i64 hi.n) ∧ X.cell? ⟨M + 1, 1, none⟩ = some (.bool hi.open_) ∧ X.cell? ⟨M + 1, 2, none⟩ = some (.int .i64 hi.inf)) := fun X hX => by
    obtain ⟨a1, a2, a3⟩ := l1.below (by omega) hX
    obtain ⟨a4, a5, a6⟩ := l2.below (by omega) hX
    exact ⟨hX, a1, a2, a3, a4, a5, a6⟩
  have H0 : Hid (Below wa.heap.size wa wa) := Below.refl _ _
  have HBM : Hid (∀ X, Below wa.heap.size wa X → Below M w X) := fun X hX => ba.trans (hX.mono (by omega))
  have HWA := Lib.hid hwa
  have HMh := Lib.hid hM
  rw [hM]
  clear hwa l1 l2 ba sa hba hV hz
  go_enter Tryd.func33, Tryd.ntmps33
  go_wp2_with fail
  rw [HWA.out]
  go_region_held3 (fun X => Below wa.heap.size wa X ∧ X.cell? ⟨M, 0, none⟩ = some (.int .i64 lo.n) ∧ X.cell? ⟨M, 1, none⟩ = some (.bool lo.open_) ∧ X.cell? ⟨M, 2, none⟩ = some (.int .i64 lo.inf) ∧ X.cell? ⟨M + 1, 0, none⟩ = some (.int .i64 hi.n) ∧ X.cell? ⟨M + 1, 1, none⟩ = some (.bool hi.open_) ∧ X.cell? ⟨M + 1, 2, none⟩ = some (.int .i64 hi.inf))
    (first | exact HK.out _ HC2.out | exact HK.out _ HC1.out | exact HK.out _ H0.out.drew | exact HK.out _ H0.out)
    (first
    | (have qq := HC1; clear qq; go_at_call 59; refine Calls.mono (HRE.out _ _ HE1.out) ?_; rintro en x2 ⟨rfl, hb⟩; have HC2 : Hid (Below wa.heap.size wa x2) := bup HC1.out hb; clear hb)
    | (go_at_call 50; refine Calls.mono (HR.out _ (by first | exact H0.out | exact H0.out.drew)) ?_; rintro en x1 ⟨c, rfl, hE, _, hb⟩; have HE1 := Lib.hid hE; have HC1 : Hid (Below wa.heap.size wa x1) := (by first | exact bup H0.out hb | exact bup H0.out.drew hb); clear hb hE))
  all_goals
    go_wp2
    go_ret
    exact ⟨rfl, HBM.out _ HC2.out⟩

set_option maxRecDepth 100000 in
set_option maxHeartbeats 8000000 in
theorem nfirst_any (hV : NoL w V) (hz : TzB w) (lo hi : Bd) : Calls Tryd.prog 32 #[V, bdV lo, bdV hi] w fun e w' => e = .returned (.tuple #[.int .i64 0, .bool false]) ∧ Below w.heap.size w w' := by
  obtain ⟨M, hM⟩ : ∃ M, w.heap.size = M := ⟨_, rfl⟩
  obtain ⟨wa, hwa⟩ : ∃ wa, (w.alloc (.cells #[.int .i64 lo.n, .bool lo.open_, .int .i64 lo.inf] 23)).alloc (.cells #[.int .i64 hi.n, .bool hi.open_, .int .i64 hi.inf] 23) = wa := ⟨_, rfl⟩
  obtain ⟨l1, l2, ba, sa⟩ := two_bounds w lo hi hM hwa
  have hba : Below w.heap.size w wa := by rw [hM]; exact ba
  have HR := Lib.hid (fun (X : World) (hX : Below wa.heap.size wa X) => nread_any ((hV.below hba).below hX) ((hz.below hba).below hX))
  have HRE := Lib.hid (fun (X : World) (c : Nat) (k : Emp X c) => k.reach lo hi)
  unfold bdV at HRE ⊢
  have HK : Hid (∀ X, Below wa.heap.size wa X → Below wa.heap.size wa X ∧ X.cell? ⟨M, 0, none⟩ = some (.int .i64 lo.n) ∧ X.cell? ⟨M, 1, none⟩ = some (.bool lo.open_) ∧ X.cell? ⟨M, 2, none⟩ = some (.int .i64 lo.inf) ∧ X.cell? ⟨M + 1, 0, none⟩ = some (.int .i64 hi.n) ∧ X.cell? ⟨M + 1, 1, none⟩ = some (.bool hi.open_) ∧ X.cell? ⟨M + 1, 2, none⟩ = some (.int .i64 hi.inf)) := fun X hX => by
    obtain ⟨a1, a2, a3⟩ := l1.below (by omega) hX
    obtain ⟨a4, a5, a6⟩ := l2.below (by omega) hX
    exact ⟨hX, a1, a2, a3, a4, a5, a6⟩
  have H0 : Hid (Below wa.heap.size wa wa) := Below.refl _ _
  have HBM : Hid (∀ X, Below wa.heap.size wa X → Below M w X) := fun X hX => ba.trans (hX.mono (by omega))
  have HWA := Lib.hid hwa
  have HMh := Lib.hid hM
  rw [hM]
  clear hwa l1 l2 ba sa hba hV hz
  go_enter Tryd.func32, Tryd.ntmps32
  go_wp2_with fail
  rw [HWA.out]
  go_region_held3 (fun X => Below wa.heap.size wa X ∧ X.cell? ⟨M, 0, none⟩ = some (.int .i64 lo.n) ∧ X.cell? ⟨M, 1, none⟩ = some (.bool lo.open_) ∧ X.cell? ⟨M, 2, none⟩ = some (.int .i64 lo.inf) ∧ X.cell? ⟨M + 1, 0, none⟩ = some (.int .i64 hi.n) ∧ X.cell? ⟨M + 1, 1, none⟩ = some (.bool hi.open_) ∧ X.cell? ⟨M + 1, 2, none⟩ = some (.int .i64 hi.inf))
    (first | exact HK.out _ HC2.out | exact HK.out _ HC1.out | exact HK.out _ H0.out.drew | exact HK.out _ H0.out)
    (first
    | (have qq := HC1; clear qq; go_at_call 59; refine Calls.mono (HRE.out _ _ HE1.out) ?_; rintro en x2 ⟨rfl, hb⟩; have HC2 : Hid (Below wa.heap.size wa x2) := bup HC1.out hb; clear hb)
    | (go_at_call 50; refine Calls.mono (HR.out _ (by first | exact H0.out | exact H0.out.drew)) ?_; rintro en x1 ⟨c, rfl, hE, _, hb⟩; have HE1 := Lib.hid hE; have HC1 : Hid (Below wa.heap.size wa x1) := (by first | exact bup H0.out hb | exact bup H0.out.drew hb); clear hb hE))
  all_goals
    go_wp2
    go_ret2
    exact ⟨rfl, HBM.out _ HC2.out⟩

end

end Go.Proofs.YtcbiiioglklpoaaDoor
