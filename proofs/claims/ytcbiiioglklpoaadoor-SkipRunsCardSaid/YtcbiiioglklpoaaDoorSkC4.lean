/-
  Package skip: New, Load. Conditions: the members lie in memory; the table of math/bits lies where the program laid it.
-/
import Derived.Test.YtcbiiioglklpoaaDoorSkC3
import Derived.Shelf.SlSortCmp.WholeK
import Derived.Test.YtcbiiioglklpoaaDoorShelfB
namespace Go.Proofs.YtcbiiioglklpoaaDoor
open Go.RowKit

def encM (x : Mb) : List Value := [.string ⟨x.1.toArray⟩, .int .i64 x.2]

theorem sort_below {w : World} {B n : Nat} {d : Array Mb} {os : Array Obj} {base : Nat} (hb : base ≤ B) (hs : base ≤ w.heap.size) : Below base w (sortWorldK encM 2 w B 0 n d os) := by
  refine ⟨rfl, rfl, rfl, ?_, fun k hk => ?_⟩
  · show w.heap.size ≤ ((w.heap.modify B _) ++ os).size
    rw [Array.size_append, Array.size_modify]
    omega
  · show ((w.heap.modify B _) ++ os)[k]? = w.heap[k]?
    rw [Array.getElem?_append_left (by rw [Array.size_modify]; omega), Array.getElem?_modify, if_neg (by omega)]

theorem sort_holds {w : World} {B n : Nat} {d d0 : Array Mb} {os : Array Obj} (h0 : Sort.HoldsK encM 2 w B 0 d0) (hs : d.size = d0.size) (hB : B < w.heap.size) : Sort.HoldsK encM 2 (sortWorldK encM 2 w B 0 n d os) B 0 d :=
  (Sort.AtK.holds (wr := sortWorldK encM 2 w B 0 n d os) ⟨n, os, rfl⟩ h0 hs hB).1

theorem holds_of_row {w : World} {B n : Nat} {d : Array Mb} {f : Nat → Value} (hr : w.rowIs B 47 (n * 2) f) (hd : d.size = n) (hf : ∀ j x, d[j]? = some x → f (j * 2) = .string ⟨x.1.toArray⟩ ∧ f (j * 2 + 1) = .int .i64 x.2) : Sort.HoldsK encM 2 w B 0 d := by
  intro t ht
  rw [Sort.size_flatK] at ht
  rw [Sort.get_flatK encM 2 d t ht, Nat.zero_add]
  refine ⟨?_, hr.frozen t⟩
  rw [hr.cell (by omega)]
  have hj : t / 2 < d.size := by omega
  obtain ⟨q0, q1⟩ := hf (t / 2) d[t / 2] (Array.getElem?_eq_getElem hj)
  rw [getElem!_pos d (t / 2) hj]
  rcases (by omega : t = t / 2 * 2 ∨ t = t / 2 * 2 + 1) with e | e
  · have e2 : t % 2 = 0 := by omega
    rw [e2]
    conv => lhs; rw [e]
    rw [q0]
    rfl
  · have e2 : t % 2 = 1 := by omega
    rw [e2]
    conv => lhs; rw [e]
    rw [q1]
    rfl

theorem scAt_of_holds {w : World} {B n : Nat} {d : Array Mb} (h : Sort.HoldsK encM 2 w B 0 d) (hd : d.size = n) (hB : B < w.heap.size) (hn : n ≤ 9223372036854775807) : ScAt w (some ⟨B, 0, none⟩) n n d.toList :=
  ⟨by rw [Array.length_toList, hd], Nat.le_refl _, hn, fun _ => ⟨B, 0, rfl, hB, fun j x hx => by
    have hj : j < d.size := by
      have := (List.getElem?_eq_some_iff.1 hx).1
      rwa [Array.length_toList] at this
    have e : d[j]! = x := by
      rw [getElem!_pos d j hj]
      have := (List.getElem?_eq_some_iff.1 hx).2
      simpa using this
    have c0 := (h.cell (i := j) (c := 0) hj (by omega)).1
    have c1 := (h.cell (i := j) (c := 1) hj (by omega)).1
    rw [e] at c0 c1
    exact ⟨c0, c1⟩⟩⟩

theorem swoM : Sort.SWO (ltOf cmpM) where
  irrefl x := by unfold ltOf; rw [cmpM_ahd]; exact ahd_irrefl x
  trans x y z h1 h2 := by
    unfold ltOf at *
    rw [cmpM_ahd] at *
    exact ahd_trans h1 h2
  ntrans x y z h1 h2 := by
    unfold ltOf at *
    rw [cmpM_ahd] at *
    cases hq : ahd x z with
    | false => rfl
    | true =>
      rcases ahd_or x y with e | e | e
      · rw [e] at h1; cases h1
      · subst e; rw [hq] at h2; cases h2
      · have := ahd_trans e hq
        rw [this] at h2
        cases h2

theorem cmpLays (B n : Nat) (w : World) : CmpLays Tryd.prog 47 #[] encM 2 cmpM B 0 n w := fun m os dk _ x y => by
  have q := compare_any ⟨x.1.toArray⟩ ⟨y.1.toArray⟩ x.2 y.2 (sortWorldK encM 2 w B 0 m dk os)
  refine q.mono ?_
  rintro e w' ⟨rfl, os', rfl⟩
  exact ⟨by simp, 0, os', rfl⟩

theorem enter_cmp (args : Array Value) (w : World) : (callFunc 47 args).run Tryd.prog w = .ok (.enter 47 args) w := by simp [callFunc, go_sem, Tryd.func47, Tryd.f47]

/-- What the sort leaves: the same members, in order where no text stands twice. -/
theorem sorted_ord {d d' : Array Mb} (hp : Sort.PermIn 0 d.size d d') (hs : Sort.SortedIn (ltOf cmpM) 0 d.size d') : d'.toList.Perm d.toList ∧ (Each d.toList → Ord d'.toList) := by
  obtain ⟨p1, _, p3⟩ := hp
  have hpm : d'.toList.Perm d.toList := by
    have e1 : (d'.extract 0 d.size) = d' := by rw [← p1]; simp
    have e2 : (d.extract 0 d.size) = d := by simp
    rw [e1, e2] at p3
    exact p3
  refine ⟨hpm, fun he => ?_⟩
  have he' : Each d'.toList := ((hpm.map (·.1)).nodup_iff).2 he
  refine ⟨List.pairwise_iff_getElem.2 fun i j hi hj hij => ?_, he'⟩
  rw [Array.length_toList] at hi hj
  have q := hs i j (Nat.zero_le _) hij (by rw [← p1]; exact hj)
  unfold ltOf at q
  rw [cmpM_ahd, getElem!_pos d' j hj, getElem!_pos d' i hi] at q
  rw [Array.getElem_toList, Array.getElem_toList]
  rcases ahd_or d'[i] d'[j] with e | e | e
  · exact e
  · have h1 : d'.toList[i]? = some d'[i] := by simp [hi]
    have h2 : d'.toList[j]? = some d'[j] := by simp [hj]
    have := he'.one h1 h2 (by rw [e])
    omega
  · rw [e] at q
    cases q

end Go.Proofs.YtcbiiioglklpoaaDoor
