/-
  What the statements of layer 2 share: cut, two rows of requests compared, the document's own Split at no bytes. Conditions: as typed.
-/
import Derived.Test.YtkaododohnncnaaDoorRpK
import Derived.Test.YtkaododohnncnaaDoorRspE
namespace Go.Proofs.YtkaododohnncnaaDoor
open Go.RowKit

set_option maxRecDepth 100000 in
set_option maxHeartbeats 1000000 in
theorem cut_short (A : Option Addr) (n c : Nat) (w : World) (h : n ≤ 300000) :
    Calls Tryd.prog 14 #[.slice A n c] w fun e w' => e = .returned (.slice A n c) ∧ w = w' := by
  go_enter Tryd.func14, Tryd.ntmps14
  go_wp2
  go_ret
  exact ⟨rfl, rfl⟩
set_option maxRecDepth 100000 in
set_option maxHeartbeats 1000000 in
theorem cut_long (a : Addr) (n c : Nat) (w : World) (h : 300000 < n) (hc : n ≤ c) (hm : c ≤ 9223372036854775807) :
    Calls Tryd.prog 14 #[.slice (some a) n c] w fun e w' => e = .returned (.slice (some a) 300000 c) ∧ w = w' := by
  go_enter Tryd.func14, Tryd.ntmps14
  go_wp2
  go_ret
  exact ⟨rfl, rfl⟩

/-- cut, at bytes: the first 300000 of them. -/
theorem cut_any (b o cap : Nat) (l : List UInt8) (w : World) (hl : l.length ≤ cap) (hcap : cap ≤ 9223372036854775807) :
    Calls Tryd.prog 14 #[.slice (some ⟨b, o, none⟩) l.length cap] w fun e w' => e = .returned (.slice (some ⟨b, o, none⟩) (l.take 300000).length cap) ∧ w = w' := by
  have hl2 : (l.take 300000).length = min 300000 l.length := List.length_take
  rcases Nat.lt_or_ge 300000 l.length with h | h
  · rw [hl2, show min 300000 l.length = 300000 from by omega]
    exact cut_long ⟨b, o, none⟩ l.length cap w h hl hcap
  · rw [hl2, show min 300000 l.length = l.length from by omega]
    exact cut_short _ _ _ w h

theorem splitGo_rows (l : List UInt8) : ∀ (f n : Nat) (acc : List (List (List UInt8))), n ≤ l.length → acc.length ≤ n → (∀ r ∈ acc, r ≠ [] ∧ r.length ≤ 1024) →
    (splitGo f l n acc).1.length ≤ l.length ∧ ∀ r ∈ (splitGo f l n acc).1, r ≠ [] ∧ r.length ≤ 1024
  | 0, n, acc, h1, h2, h3 => ⟨Nat.le_trans h2 h1, h3⟩
  | f + 1, n, acc, h1, h2, h3 => by
    cases hR : firstS (l.drop n) with
    | none => rw [splitGo_none f l n acc hR]; exact ⟨Nat.le_trans h2 h1, h3⟩
    | some x =>
      rcases x with e | ⟨ws, k⟩
      · rw [splitGo_inl f l n acc e hR]; exact ⟨Nat.le_trans h2 h1, h3⟩
      · rw [splitGo_inr f l n acc ws k hR]
        obtain ⟨k1, k2⟩ := firstS_inr hR
        rw [List.length_drop] at k2
        refine splitGo_rows l f (n + k) _ (by omega) ?_ ?_
        · split
          · omega
          · rw [List.length_append, List.length_singleton]; omega
        · split
          · exact h3
          · rename_i hne
            intro r hr
            rcases List.mem_append.1 hr with h | h
            · exact h3 r h
            · simp only [List.mem_singleton] at h
              subst h
              exact ⟨hne, firstS_len hR⟩
theorem splitS_rows (l : List UInt8) : (splitS l).1.length ≤ l.length ∧ ∀ r ∈ (splitS l).1, r ≠ [] ∧ r.length ≤ 1024 :=
  splitGo_rows l (l.length + 1) 0 [] (Nat.zero_le _) (Nat.le_refl _) (fun r h => by cases h)

/-- Two rows of the same requests are the same. -/
theorem rsame_own (w : World) (base base' : Nat) (v v' : Value) (L : List (List (List UInt8))) (h : OwnsReqs w base v L) (h' : OwnsReqs w base' v' L) (hb : L.length ≤ 1099511627776) (hr : ∀ r ∈ L, r.length ≤ 1024) :
    Calls Tryd.prog 15 #[v, v'] w fun e w' => e = .returned (.bool true) ∧ ∃ q, w' = w.drewN q := by
  obtain ⟨vs, h1, h2, h3⟩ := h
  obtain ⟨vs', h1', h2', h3'⟩ := h'
  obtain ⟨A, c, rfl⟩ := ownsRow_form h2
  obtain ⟨A', c', rfl⟩ := ownsRow_form h2'
  by_cases h0 : L = []
  · subst h0
    exact rsame_nil A A' c c' w
  · rcases h2.2 with ⟨_, h4⟩ | ⟨g, cap, cur, h4, _⟩
    · exact absurd (List.length_eq_zero_iff.1 h4) h0
    rcases h2'.2 with ⟨_, h4'⟩ | ⟨g', cap', cur', h4', _⟩
    · exact absurd (List.length_eq_zero_iff.1 h4') h0
    simp only [Value.slice.injEq, true_and] at h4 h4'
    obtain ⟨rfl, rfl⟩ := h4
    obtain ⟨rfl, rfl⟩ := h4'
    refine rsame_eq g 0 g' 0 c c' vs vs' L w h1 h1' hb (fun i r hi => by have := hr r (List.mem_of_getElem? hi); omega) ?_ ?_ ?_ ?_
    · intro j u hu
      have := h2.cells (g := g) rfl j u hu
      rwa [Go.WideShapes.add_plain] at this
    · intro j u hu
      have := h2'.cells (g := g') rfl j u hu
      rwa [Go.WideShapes.add_plain] at this
    · intro i u r hu hr
      have := h3 i u r hu hr
      exact SliceAt.of_own (by rw [List.length_map]; exact this)
    · intro i u r hu hr
      have := h3' i u r hu hr
      exact SliceAt.of_own (by rw [List.length_map]; exact this)


end Go.Proofs.YtkaododohnncnaaDoor
