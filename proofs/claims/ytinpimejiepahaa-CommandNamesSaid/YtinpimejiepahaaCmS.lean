/-
  The sort of commands by name: what slices.SortFunc leaves of a row of them. Condition: the row lies in memory.
-/
import Derived.Test.YtinpimejiepahaaCmI
import Derived.Shelf.SlSortCmp.WholeK
import Derived.Test.YtinpimejiepahaaShelfB
namespace Go.Proofs.Ytinpimejiepahaa
open Go.RowKit

theorem sort_below {w : World} {B n : Nat} {d : Array Sp} {os : Array Obj} {base : Nat} (hb : base ≤ B) (hs : base ≤ w.heap.size) : Below base w (sortWorldK encS 7 w B 0 n d os) := by
  refine ⟨rfl, rfl, rfl, ?_, fun k hk => ?_⟩
  · show w.heap.size ≤ ((w.heap.modify B _) ++ os).size
    rw [Array.size_append, Array.size_modify]
    omega
  · show ((w.heap.modify B _) ++ os)[k]? = w.heap[k]?
    rw [Array.getElem?_append_left (by rw [Array.size_modify]; omega), Array.getElem?_modify, if_neg (by omega)]
theorem sort_other {w : World} {B n k : Nat} {d : Array Sp} {os : Array Obj} (hk : k < w.heap.size) (hne : k ≠ B) : (sortWorldK encS 7 w B 0 n d os).heap[k]? = w.heap[k]? := by
  show ((w.heap.modify B _) ++ os)[k]? = w.heap[k]?
  rw [Array.getElem?_append_left (by rw [Array.size_modify]; omega), Array.getElem?_modify, if_neg (fun e => hne e.symm)]
theorem sort_holds {w : World} {B n : Nat} {d d0 : Array Sp} {os : Array Obj} (h0 : Sort.HoldsK encS 7 w B 0 d0) (hs : d.size = d0.size) (hB : B < w.heap.size) : Sort.HoldsK encS 7 (sortWorldK encS 7 w B 0 n d os) B 0 d :=
  (Sort.AtK.holds (wr := sortWorldK encS 7 w B 0 n d os) ⟨n, os, rfl⟩ h0 hs hB).1

theorem encS_at (x : Sp) {i : Nat} (hi : i < 7) : (encS x)[i]? = some (encS x)[i]! := by
  have h : i < (encS x).length := hi
  rw [List.getElem?_eq_getElem h, getElem!_pos (encS x) i h]

theorem holds_of_own {w : World} {base n g c : Nat} {l : List Sp} (h : w.ownsRow base 27 7 (.slice (some ⟨g, 0, none⟩) n c) n (scells l)) : Sort.HoldsK encS 7 w g 0 l.toArray := by
  have h1 := h.1
  rw [scells_length] at h1
  intro t ht
  rw [Sort.size_flatK] at ht
  rw [Sort.get_flatK encS 7 l.toArray t ht, Nat.zero_add]
  rw [List.size_toArray] at ht
  have hj : t / 7 < l.length := by omega
  have hx : l[t / 7]? = some l[t / 7] := List.getElem?_eq_getElem hj
  have e7 : t / 7 * 7 + t % 7 = t := by omega
  have q := scells_at hx (encS_at l[t / 7] (Nat.mod_lt t (by omega)))
  rw [e7] at q
  have ej : l.toArray[t / 7]! = l[t / 7] := by
    rw [getElem!_pos l.toArray (t / 7) (by rw [List.size_toArray]; exact hj)]
    simp
  rw [ej]
  refine ⟨(World.ownsRow.cellAt h t (by omega)).trans q, ?_⟩
  rcases h.2 with ⟨q1, _⟩ | ⟨g', cap, cur, q1, _, q3, _⟩
  · cases q1
  · injection q1 with q1
    injection q1 with q1
    injection q1 with q1 _
    subst q1
    simp [World.frozen?, q3]

theorem spAt_of_holds {w : World} {B n c : Nat} {d : Array Sp} (h : Sort.HoldsK encS 7 w B 0 d) (hd : d.size = n) (hB : B < w.heap.size) (hn : n ≤ c) (hc : c ≤ 9223372036854775807) : SpAt w (some ⟨B, 0, none⟩) n c d.toList :=
  ⟨by rw [Array.length_toList, hd], hn, hc, fun e => (by cases e), fun _ => ⟨B, 0, rfl, hB, fun j x hx i v hv => by
    have hj : j < d.size := by
      have := (List.getElem?_eq_some_iff.1 hx).1
      rwa [Array.length_toList] at this
    have e : d[j]! = x := by
      rw [getElem!_pos d j hj]
      have := (List.getElem?_eq_some_iff.1 hx).2
      simpa using this
    have hi : i < 7 := (List.getElem?_eq_some_iff.1 hv).1
    have c0 := (h.cell (i := j) (c := i) hj hi).1
    rw [e] at c0
    rw [c0, ← encS_at x hi, hv]⟩⟩

theorem cmpB_is : ∀ (x y : Tx), Lib.compareBytes x y = if x < y then -1 else if y < x then 1 else 0
  | [], [] => by simp [Lib.compareBytes]
  | [], b :: y => by simp [Lib.compareBytes]
  | a :: x, [] => by simp [Lib.compareBytes]
  | a :: x, b :: y => by
    unfold Lib.compareBytes
    rw [cmpB_is x y]
    simp only [List.cons_lt_cons_iff]
    by_cases h1 : a < b
    · simp [h1]
    · by_cases h2 : b < a
      · have h3 : ¬ a = b := fun e => by rw [e] at h2; exact (UInt8.lt_irrefl b) h2
        have h4 : ¬ b = a := fun e => h3 e.symm
        simp [h1, h2, h3]
      · have h3 : a = b := by
          rcases Classical.em (a = b) with e | e
          · exact e
          · rcases UInt8.lt_or_lt_of_ne e with q | q
            · exact absurd q h1
            · exact absurd q h2
        subst h3
        simp [h1]

def cmpS (x y : Sp) : Int := Lib.compareBytes x.1 y.1

set_option maxRecDepth 100000 in
set_option maxHeartbeats 4000000 in
theorem cmp_any (x y : Sp) (w : World) :
    Calls Try.prog 26 #[.agg (encS x).toArray, .agg (encS y).toArray] w fun e w' => e = .returned (.int .i64 (cmpS x y)) ∧ ∃ os, w' = Sort.grow w os := by
  obtain ⟨n1, g1, a1, b1, f1, l1, s1⟩ := x
  obtain ⟨n2, g2, a2, b2, f2, l2, s2⟩ := y
  unfold cmpS encS
  dsimp only
  have HS := Lib.hid (fun W => Try.strings_Compare ⟨n1.toArray⟩ ⟨n2.toArray⟩ W)
  have e1 : (⟨n1.toArray⟩ : ByteArray).data.toList = n1 := by simp
  have e2 : (⟨n2.toArray⟩ : ByteArray).data.toList = n2 := by simp
  rw [e1, e2] at HS
  obtain ⟨S1, hS1⟩ : ∃ S : ByteArray, (⟨n1.toArray⟩ : ByteArray) = S := ⟨_, rfl⟩
  obtain ⟨S2, hS2⟩ : ∃ S : ByteArray, (⟨n2.toArray⟩ : ByteArray) = S := ⟨_, rfl⟩
  obtain ⟨R, hR⟩ : ∃ R, Lib.compareBytes n1 n2 = R := ⟨_, rfl⟩
  rw [hS1, hS2, hR] at HS
  rw [hS1, hS2, hR]
  clear hS1 hS2 hR e1 e2
  go_enter Try.func26, Try.ntmps26
  go_wp2_with fail
  refine (HS.out _).mono ?_
  rintro e w1 ⟨rfl, rfl⟩
  go_wp2
  go_ret
  exact ⟨rfl, _, by rw [Sort.alloc_eq_grow, Sort.alloc_eq_grow, Sort.grow_grow]⟩

theorem ltS_is (x y : Sp) : ltOf cmpS x y = decide (x.1 < y.1) := by
  unfold ltOf cmpS
  rw [cmpB_is]
  by_cases h : x.1 < y.1
  · rw [if_pos h, decide_eq_true h]
    rfl
  · rw [if_neg h, decide_eq_false h]
    split <;> rfl
theorem swoS : Sort.SWO (ltOf cmpS) where
  irrefl x := by rw [ltS_is]; exact decide_eq_false (tx_irrefl _)
  trans x y z h1 h2 := by
    rw [ltS_is] at *
    exact decide_eq_true (u8lex_trans (of_decide_eq_true h1) (of_decide_eq_true h2))
  ntrans x y z h1 h2 := by
    rw [ltS_is] at *
    refine decide_eq_false fun h => ?_
    rcases tx_ge (of_decide_eq_false h1) with e | e
    · rw [← e] at h2
      exact (of_decide_eq_false h2) h
    · exact (of_decide_eq_false h2) (u8lex_trans e h)
theorem cmpLays (B n : Nat) (w : World) : CmpLays Try.prog 26 #[] encS 7 cmpS B 0 n w := fun m os dk _ x y => by
  refine (cmp_any x y (sortWorldK encS 7 w B 0 m dk os)).mono ?_
  rintro e w' ⟨rfl, os', rfl⟩
  exact ⟨rfl, 0, os', rfl⟩
theorem enter_cmp (args : Array Value) (w : World) : (callFunc 26 args).run Try.prog w = .ok (.enter 26 args) w := by simp [callFunc, go_sem, Try.func26, Try.f26]

/-- What the sort leaves of the table: it by name. -/
theorem sorted_byN {d' : Array Sp} (hp : Sort.PermIn 0 99 rowsT.toArray d') (hs : Sort.SortedIn (ltOf cmpS) 0 99 d') : d'.size = 99 ∧ d'.toList = byN := by
  obtain ⟨p1, _, p3⟩ := hp
  have hz : rowsT.toArray.size = 99 := by rw [List.size_toArray, rows_len]
  rw [hz] at p1
  have hpm : d'.toList.Perm rowsT := by
    have e1 : (d'.extract 0 99) = d' := by rw [← p1]; simp
    have e2 : (rowsT.toArray.extract 0 99) = rowsT.toArray := by rw [← hz]; simp
    rw [e1, e2] at p3
    simpa using p3
  refine ⟨p1, ris_one (List.pairwise_iff_getElem.2 fun i j hi hj hij => ?_) byN_ris (hpm.trans byN_perm.symm)⟩
  rw [Array.length_toList] at hi hj
  have q := hs i j (Nat.zero_le _) hij (by rw [← p1]; exact hj)
  rw [ltS_is, getElem!_pos d' j hj, getElem!_pos d' i hi] at q
  rw [Array.getElem_toList, Array.getElem_toList]
  rcases tx_ge (of_decide_eq_false q) with e | e
  · have hn : (d'.toList.map (·.1)).Nodup := ((hpm.map (·.1)).nodup_iff).2 names_nodup
    have r := List.pairwise_iff_getElem.1 (List.pairwise_map.1 hn) i j (by rw [Array.length_toList]; exact hi) (by rw [Array.length_toList]; exact hj) hij
    rw [Array.getElem_toList, Array.getElem_toList] at r
    exact absurd e.symm r
  · exact e

end Go.Proofs.Ytinpimejiepahaa
