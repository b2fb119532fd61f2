/-
  Plain theory of what is told from a rank on, and of a row's members in order. No program's code.
-/
import Derived.Test.YtcbiiioglklpoaaDoorSkC
namespace Go.Proofs.YtcbiiioglklpoaaDoor

/-- How many are told from a rank on. -/
def cntV (n : Nat) (r : Int) (back : Bool) : Nat := if 0 ≤ r ∧ r < n then (if back then r.toNat + 1 else n - r.toNat) else 0
/-- The place that is told k-th. -/
def plV (r : Int) (back : Bool) (k : Nat) : Int := if back then r - k else r + k

theorem plV_zero (r : Int) (back : Bool) : plV r back 0 = r := by unfold plV; cases back <;> simp
theorem plV_succ (r : Int) (back : Bool) (k : Nat) : plV r back (k + 1) = plV r back k + (if back then -1 else 1) := by
  unfold plV; cases back <;> simp <;> omega
theorem plV_iff {n : Nat} {r : Int} {back : Bool} {k : Nat} (hk : k ≤ cntV n r back) : (0 ≤ plV r back k ∧ plV r back k < n) ↔ k < cntV n r back := by
  unfold cntV at *
  unfold plV
  split at hk
  · rename_i h
    rw [if_pos h]
    cases back <;> simp at hk ⊢ <;> omega
  · rename_i h
    rw [if_neg h]
    obtain rfl : k = 0 := by omega
    cases back <;> simp <;> omega
theorem cntV_le {n : Nat} {r : Int} {back : Bool} : cntV n r back ≤ n := by
  unfold cntV
  split
  · cases back <;> simp <;> omega
  · omega

def visL (L : List Mb) (r : Int) (back : Bool) (k : Nat) : List Mb := (List.range k).map fun j => (L[(plV r back j).toNat]?).getD ([], 0)
def visP (r : Int) (back : Bool) (k : Nat) : List Int := (List.range k).map fun j => plV r back j
theorem visL_length (L : List Mb) (r : Int) (back : Bool) (k : Nat) : (visL L r back k).length = k := by simp [visL]
theorem visP_length (r : Int) (back : Bool) (k : Nat) : (visP r back k).length = k := by simp [visP]
theorem visL_step {L : List Mb} {r : Int} {back : Bool} {k : Nat} {x : Mb} (h : L[(plV r back k).toNat]? = some x) : visL L r back (k + 1) = visL L r back k ++ [x] := by
  unfold visL
  rw [List.range_succ, List.map_append]
  simp [h]
theorem visP_step (r : Int) (back : Bool) (k : Nat) : visP r back (k + 1) = visP r back k ++ [plV r back k] := by
  unfold visP
  rw [List.range_succ, List.map_append]
  rfl
theorem visP_get {r : Int} {back : Bool} {k j : Nat} (h : j < k) : (visP r back k)[j]? = some (plV r back j) := by
  unfold visP
  rw [List.getElem?_map, List.getElem?_range h]
  rfl

theorem Each.take {L : List Mb} (h : Each L) (k : Nat) : Each (L.take k) := ((List.take_sublist k L).map _).nodup h

/-- What has been put in order of the first ones, with one more. -/
theorem load_step {l O : List Mb} {i : Nat} {x : Mb} (hO : Ord O) (hp : O.Perm (l.take i)) (hx : l[i]? = some x) (hf : fndM O x.1 = none) :
    Ord (putM O x.1 x.2) ∧ (putM O x.1 x.2).Perm (l.take (i + 1)) ∧ putM O x.1 x.2 = insAt O (rkM x O) x := by
  have e : putM O x.1 x.2 = insAt O (rkM x O) x := by unfold putM; rw [hf]
  refine ⟨hO.put _ _, ?_, e⟩
  rw [e, List.take_add_one, hx]
  refine (insAt_perm x).trans ?_
  refine (hp.cons x).trans ?_
  exact (List.perm_append_singleton x (l.take i)).symm
theorem load_stop {l O : List Mb} {i j : Nat} {x : Mb} (hp : O.Perm (l.take i)) (hx : l[i]? = some x) (hf : fndM O x.1 = some j) : ¬ Each l := fun h => by
  obtain ⟨n, hn, _⟩ := fndM_some hf
  have hm := hp.mem_iff.1 (List.mem_of_getElem? hn)
  obtain ⟨a, ha⟩ := List.mem_iff_getElem?.1 hm
  rw [List.getElem?_take] at ha
  split at ha
  · have := h.one ha hx rfl
    omega
  · cases ha

end Go.Proofs.YtcbiiioglklpoaaDoor
