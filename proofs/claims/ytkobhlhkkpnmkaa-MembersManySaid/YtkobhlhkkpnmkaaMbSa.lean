/-
  Rows of rows of texts, as a row hands them on. Conditions: as typed.
-/
import Derived.Test.YtkobhlhkkpnmkaaMbS
import Derived.Test.YtkobhlhkkpnmkaaMbW
namespace Go.Proofs.Ytkobhlhkkpnmkaa
open Go.ChangeShapes Go.WideShapes Go.ChangeAt Go.RowKit

theorem cells_row : Try.prog.cellsOf 22 = 1 := by kernel_rfl

/-- What lies side by side, one cell each. -/
theorem tt_of {W : World} {a : Addr} {len cap : Nat} {S : List Rw} (hL : S.length = len) (hlc : len ≤ cap) (hcm : cap ≤ 9223372036854775807) (hp : ∀ (i : Nat) (r : Rw), S[i]? = some r → W.cell? (a.add i) = some (.slice r.A r.n r.c) ∧ TxAt W r.A r.n r.c r.L) : TtAt W (some a) len cap S := by
  obtain ⟨g, o, spot⟩ := a
  refine ⟨hL, hlc, hcm, (fun e => by cases e), fun x hx => ?_, fun h0 => ?_⟩
  · obtain ⟨i, hi⟩ := List.mem_iff_getElem?.1 hx
    exact (hp i x hi).2
  · have hspot : spot = none := by
      obtain ⟨x, hx⟩ : ∃ x, S[0]? = some x := ⟨_, List.getElem?_eq_getElem (by rw [hL]; exact h0)⟩
      have h6 := World.cell?_spot (hp 0 x hx).1
      cases spot with
      | none => rfl
      | some s => simp [Addr.add] at h6
    subst hspot
    have hc : ∀ (j : Nat) (x : Rw), S[j]? = some x → W.cell? ⟨g, o + j, none⟩ = some (.slice x.A x.n x.c) := fun j x hx => by
      have := (hp j x hx).1
      rw [Go.WideShapes.add_plain] at this
      exact this
    refine ⟨g, o, rfl, ?_, hc⟩
    obtain ⟨x, hx⟩ : ∃ x, S[0]? = some x := ⟨_, List.getElem?_eq_getElem (by rw [hL]; exact h0)⟩
    exact World.block_lt_of_cell? W _ (hc 0 x hx)

set_option maxRecDepth 100000 in
theorem open_txx {H : Type} {enc : TypeId × Value → H} {W : World} {base : Nat} {sp : Nat → Bool} {held : Bool} {fuel : Nat} {cs : List Value} {y : DataW H × List MemPlace} (h : DataW.trod enc Try.prog W base sp held fuel 35 cs = some y) (hw : (y.1.weights Try.prog 35).all (· ≤ reachBytes) = true) :
    ∃ A len cap, ∃ S : List Rw, cs = [.slice A len cap] ∧ TtAt W A len cap S := by
  rcases DataW.trod_slice Try.underlying35 h with ⟨hc, _⟩ | ⟨a, len, cap, elems, rest, m, _, hc, hy, _, hlc, hcm, hel, hall, _, _⟩
  · exact ⟨none, 0, 0, [], hc, TtAt.nil W⟩
  · have hex : ∀ i, i < len → ∃ r : Rw, W.cell? (a.add i) = some (.slice r.A r.n r.c) ∧ TxAt W r.A r.n r.c r.L := by
      intro i hi
      have hq := hall i hi
      rw [cells_row, Nat.mul_one] at hq
      obtain ⟨e, he⟩ : ∃ e, elems[i]? = some e := ⟨_, List.getElem?_eq_getElem (by rw [hel]; exact hi)⟩
      rw [he] at hq
      obtain ⟨cs', hcs', hd⟩ := Option.bind_eq_some_iff.1 hq
      rw [hy] at hw
      have hwe := weights_elem Try.underlying35 hw (i := i) (d := e.1) (by rw [List.getElem?_map, he]; rfl)
      obtain ⟨A2, n2, c2, L2, rfl, ht⟩ := open_tx hd hwe
      exact ⟨⟨A2, n2, c2, L2⟩, cells_one hcs', ht⟩
    obtain ⟨S, hL, hp⟩ := choose_list len hex
    unfold maxLen at hcm
    exact ⟨some a, len, cap, S, hc, tt_of hL hlc hcm hp⟩

end Go.Proofs.Ytkobhlhkkpnmkaa
