/-
  An ID's text, plainly. No program's code.
-/
import Derived.Test.YtbecjaamheibmaaRgA
import Derived.Lib.Bytealg
import Derived.Lib.IndexLaws
namespace Go.Proofs.Ytbecjaamheibmaa

def hexT : Tx := [48, 49, 50, 51, 52, 53, 54, 55, 56, 57, 97, 98, 99, 100, 101, 102]
def hexC (d : Nat) : UInt8 := hexT.getD d 0
/-- Digit i of an ID's text, from the left. -/
def hexD (n i : Nat) : Nat := n / 16 ^ (15 - i) % 16
def textX (n : Nat) : Tx := (List.range 16).map fun i => hexC (hexD n i)
theorem textX_len (n : Nat) : (textX n).length = 16 := by simp [textX]
theorem textX_get {n i : Nat} (h : i < 16) : (textX n)[i]? = some (hexC (hexD n i)) := by
  unfold textX
  rw [List.getElem?_map, List.getElem?_range h]
  rfl
theorem textX_take {n i : Nat} (h : i < 16) : (textX n).take (i + 1) = (textX n).take i ++ [hexC (hexD n i)] := by
  rw [List.take_add_one, textX_get h]
  rfl
theorem hexD_lt (n i : Nat) : hexD n i < 16 := Nat.mod_lt _ (by decide)

theorem hexD_shift (n i : Nat) (h : i ≤ 15) : hexD n i = n / 2 ^ (60 - 4 * i) % 16 := by
  unfold hexD
  rw [show (16 : Nat) = 2 ^ 4 from rfl, ← Nat.pow_mul, show 4 * (15 - i) = 60 - 4 * i by omega]
theorem hexC_at {d : Nat} (h : d < 16) (g : d < (⟨#[48, 49, 50, 51, 52, 53, 54, 55, 56, 57, 97, 98, 99, 100, 101, 102]⟩ : ByteArray).size) : (⟨#[48, 49, 50, 51, 52, 53, 54, 55, 56, 57, 97, 98, 99, 100, 101, 102]⟩ : ByteArray)[d]'g = hexC d := by
  rcases (by omega : d = 0 ∨ d = 1 ∨ d = 2 ∨ d = 3 ∨ d = 4 ∨ d = 5 ∨ d = 6 ∨ d = 7 ∨ d = 8 ∨ d = 9 ∨ d = 10 ∨ d = 11 ∨ d = 12 ∨ d = 13 ∨ d = 14 ∨ d = 15) with rfl | rfl | rfl | rfl | rfl | rfl | rfl | rfl | rfl | rfl | rfl | rfl | rfl | rfl | rfl | rfl <;> rfl

end Go.Proofs.Ytbecjaamheibmaa
