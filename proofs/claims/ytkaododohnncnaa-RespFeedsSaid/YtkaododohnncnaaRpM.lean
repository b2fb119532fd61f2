/-
  What the statements of layer 2 share: cut, two rows of requests compared, the document's own Split at no bytes. Conditions: as typed.
-/
import Derived.Test.YtkaododohnncnaaRpK
import Derived.Test.YtkaododohnncnaaRspS
import Derived.Test.YtkaododohnncnaaRspE
namespace Go.Proofs.Ytkaododohnncnaa
open Go.RowKit


theorem splitGo_rows (l : List UInt8) : ∀ (f n : Nat) (acc : List (List (List UInt8))), n ≤ l.length → acc.length ≤ n → (∀ r ∈ acc, r ≠ [] ∧ r.length ≤ 1024) →
    (splitGo f l n acc).1.length ≤ l.length ∧ ∀ r ∈ (splitGo f l n acc).1, r ≠ [] ∧ r.length ≤ 1024
  | 0, n, acc, h1, h2, h3 => ⟨Nat.le_trans h2 h1, h3⟩
  | f + 1, n, acc, h1, h2, h3 => by
    cases hR : firstS (l.drop n) with
    | none => rw [splitGo_none f l n acc hR]; exact ⟨Nat.le_trans h2 h1, h3⟩
    | some x =>
      rcases x with e | ⟨ws, k⟩
      · rw [splitGo_inl f l n acc e hR]; exact ⟨Nat.le_trans h2 h1, h3⟩
      · rw [splitGo_inr f l n acc ws k hR]
        obtain ⟨k1, k2⟩ := firstS_inr hR
        rw [List.length_drop] at k2
        refine splitGo_rows l f (n + k) _ (by omega) ?_ ?_
        · split
          · omega
          · rw [List.length_append, List.length_singleton]; omega
        · split
          · exact h3
          · rename_i hne
            intro r hr
            rcases List.mem_append.1 hr with h | h
            · exact h3 r h
            · simp only [List.mem_singleton] at h
              subst h
              exact ⟨hne, firstS_len hR⟩
theorem splitS_rows (l : List UInt8) : (splitS l).1.length ≤ l.length ∧ ∀ r ∈ (splitS l).1, r ≠ [] ∧ r.length ≤ 1024 :=
  splitGo_rows l (l.length + 1) 0 [] (Nat.zero_le _) (Nat.le_refl _) (fun r h => by cases h)

/-- Two rows of the same requests are the same. -/
theorem rsame_own (w : World) (base base' : Nat) (v v' : Value) (L : List (List (List UInt8))) (h : OwnsReqs w base v L) (h' : OwnsReqs w base' v' L) (hb : L.length ≤ 1099511627776) (hr : ∀ r ∈ L, r.length ≤ 1024) :
    Calls Try.prog 8 #[v, v'] w fun e w' => e = .returned (.bool true) ∧ ∃ q, w' = w.drewN q := by
  obtain ⟨vs, h1, h2, h3⟩ := h
  obtain ⟨vs', h1', h2', h3'⟩ := h'
  obtain ⟨A, c, rfl⟩ := ownsRow_form h2
  obtain ⟨A', c', rfl⟩ := ownsRow_form h2'
  by_cases h0 : L = []
  · subst h0
    exact rsame_nil A A' c c' w
  · rcases h2.2 with ⟨_, h4⟩ | ⟨g, cap, cur, h4, _⟩
    · exact absurd (List.length_eq_zero_iff.1 h4) h0
    rcases h2'.2 with ⟨_, h4'⟩ | ⟨g', cap', cur', h4', _⟩
    · exact absurd (List.length_eq_zero_iff.1 h4') h0
    simp only [Value.slice.injEq, true_and] at h4 h4'
    obtain ⟨rfl, rfl⟩ := h4
    obtain ⟨rfl, rfl⟩ := h4'
    refine rsame_eq g 0 g' 0 c c' vs vs' L w h1 h1' hb (fun i r hi => by have := hr r (List.mem_of_getElem? hi); omega) ?_ ?_ ?_ ?_
    · intro j u hu
      have := h2.cells (g := g) rfl j u hu
      rwa [Go.WideShapes.add_plain] at this
    · intro j u hu
      have := h2'.cells (g := g') rfl j u hu
      rwa [Go.WideShapes.add_plain] at this
    · intro i u r hu hr
      have := h3 i u r hu hr
      exact SliceAt.of_own (by rw [List.length_map]; exact this)
    · intro i u r hu hr
      have := h3' i u r hu hr
      exact SliceAt.of_own (by rw [List.length_map]; exact this)

set_option maxHeartbeats 2000000 in
theorem rsplit_empty (A : Option Addr) (cap : Nat) (w : World) :
    Calls Try.prog 13 #[.slice A 0 cap] w (SplitPost w ([], 0, [])) := by
  go_enter Try.func13, Try.ntmps13
  go_wp2
  go_loopw [5, 6, 7] (fun v i _ wr => i = .int .i64 0 ∧ v = .slice none 0 0 ∧ wr = w) (fun _ _ _ _ => 0)
  case atStart => exact ⟨rfl, rfl, rfl⟩
  case round =>
    obtain ⟨rfl, rfl, rfl⟩ := hrel
    by_cases hcl : cap = 0
    all_goals
      go_wp2_with fail
      refine (rfirst_empty _ _ _).mono ?_
      rintro e w2 ⟨hb2, rfl⟩
      have hz2 := hb2.size
      simp only [fndV]
      go_wp2
      go_region
      all_goals go_wp2
      all_goals go_ret3
      all_goals
        have hfin : Below w2.heap.size w2 (w2.alloc (.cells #[.int .i64 0, .int .i64 0, .slice none 0 0, .string ⟨#[]⟩] 51)).drew := ((Below.refl _ _).alloc (Nat.le_refl _) _).drew
        exact ⟨hb2.trans (hfin.mono (by omega)), _, rfl, [], rfl, ⟨rfl, .inl ⟨rfl, rfl⟩⟩, fun i u r h => by cases h⟩

end Go.Proofs.Ytkaododohnncnaa
