/-
  Conversions between bytes and strings, as the walks meet them. Condition: the bytes lie where the slice points.
-/
import Derived.Test.YtbecjaamheibmaaRet
import Derived.Laws.BytesString
import Derived.Laws.Cells
namespace Go.Proofs.Ytbecjaamheibmaa
open Go.RowKit

/-- A new slice of one byte as a string. -/
theorem one_byte (wx : World) (c : Int) : (convert 33 9 (.slice (some ⟨wx.heap.size, 0, none⟩) 1 1)).run Try.prog (wx.alloc (.cells #[.int .u8 c] 5)) = .ok (.string ⟨#[UInt8.ofNat c.toNat]⟩) (wx.alloc (.cells #[.int .u8 c] 5)) := by
  rw [run_convert_bytes_string _ _ _ 5 _ _ _ Try.underlying33 Try.underlying5 Try.underlying9]
  rw [run_bytesToString _ _ _ _ [c]]
  · rfl
  · exact run_loadCells_list _ _ [.int .u8 c] (fun j v h => by
      cases j with
      | zero => simp at h; subst h; simp [Addr.add]
      | succ j => simp at h)

/-- The cells from a place on are these bytes. -/
def BytesAt (w : World) (b o : Nat) (l : List UInt8) : Prop := ∀ j, j < l.length → w.cell? ⟨b, o + j, none⟩ = some (.int .u8 ((l.getD j 0).toNat : Int))

theorem push_all : ∀ (l : List UInt8) (s : ByteArray), (l.map fun c => (c.toNat : Int)).foldl (fun r n => r.push (UInt8.ofNat n.toNat)) s = ⟨s.data ++ l.toArray⟩
  | [], s => by simp
  | c :: l, s => by
    rw [List.map_cons, List.foldl_cons, push_all l]
    apply ByteArray.ext
    simp [ByteArray.push]

/-- Some bytes as a string. -/
theorem conv_bytes (w : World) (b o cap : Nat) (l : List UInt8) (h : BytesAt w b o l) :
    (convert 33 9 (.slice (some ⟨b, o, none⟩) l.length cap)).run Try.prog w = .ok (.string ⟨l.toArray⟩) w := by
  rw [run_convert_bytes_string _ _ _ 5 _ _ _ Try.underlying33 Try.underlying5 Try.underlying9]
  rw [run_bytesToString _ _ _ _ (l.map fun c => (c.toNat : Int))]
  · rw [push_all]
    simp
  · have e : ((l.map fun c => (c.toNat : Int)).map (Value.int .u8)) = l.map fun c => Value.int .u8 (c.toNat : Int) := by simp
    rw [e]
    have := run_loadCells_list (P := Try.prog) (w := w) ⟨b, o, none⟩ (l.map fun c => Value.int .u8 (c.toNat : Int)) (fun j v hv => by
      have hj : j < l.length := by
        rcases Nat.lt_or_ge j l.length with hj | hj
        · exact hj
        · rw [List.getElem?_eq_none (by simpa using hj)] at hv; cases hv
      have hc := h j hj
      rw [List.getElem?_map, List.getElem?_eq_getElem hj] at hv
      simp only [Option.map_some, Option.some.injEq] at hv
      rw [← hv, Go.WideShapes.add_plain, hc, List.getD_eq_getElem?_getD, List.getElem?_eq_getElem hj, Option.getD_some])
    simpa using this

theorem BytesAt.below {w w' : World} {B b o : Nat} {l : List UInt8} (h : BytesAt w b o l) (hb : Below B w w') (hB : b < B) : BytesAt w' b o l := fun j hj => (hb.cell (p := ⟨b, o + j, none⟩) hB).trans (h j hj)
theorem BytesAt.cut {w : World} {b o : Nat} {l : List UInt8} (h : BytesAt w b o l) (k : Nat) : BytesAt w b (o + k) (l.drop k) := fun j hj => by
  rw [List.length_drop] at hj
  rw [Nat.add_assoc, h (k + j) (by omega)]
  simp [List.getD_eq_getElem?_getD, List.getElem?_drop]
theorem BytesAt.take {w : World} {b o : Nat} {l : List UInt8} (h : BytesAt w b o l) (k : Nat) : BytesAt w b o (l.take k) := fun j hj => by
  rw [List.length_take] at hj
  rw [h j (by omega)]
  simp [List.getD_eq_getElem?_getD, show j < k from by omega]

/-- A piece of some bytes as a string: its length in the walk's own words. -/
theorem conv_part (w : World) (b o o' n cap : Nat) (l t : List UInt8) (h : BytesAt w b o l) (k : Nat) (ho : o' = o + k) (ht : t = (l.drop k).take n) (hn : k + n ≤ l.length) (wx : World) (hx : ∀ p : Addr, p.block = b → wx.cell? p = w.cell? p) :
    (convert 33 9 (.slice (some ⟨b, o', none⟩) n cap)).run Try.prog wx = .ok (.string ⟨t.toArray⟩) wx := by
  have hl : t.length = n := by rw [ht, List.length_take, List.length_drop]; omega
  have hb : BytesAt wx b o' t := by
    intro j hj
    rw [hx _ rfl, ho, ht]
    exact ((h.cut k).take n) j (by rw [← ht]; exact hj)
  rw [← hl]
  exact conv_bytes wx b o' cap t hb

/-- Behind a contract that ends in Below: every old cell, every old mark reads as it did. -/
theorem bcell {W w1 : World} (hb : Below W.heap.size W w1) : (∀ b o, b < W.heap.size → w1.cell? ⟨b, o, none⟩ = W.cell? ⟨b, o, none⟩) ∧ (∀ b o, b < W.heap.size → w1.frozen? ⟨b, o, none⟩ = W.frozen? ⟨b, o, none⟩) :=
  ⟨fun b o h => hb.cell (p := ⟨b, o, none⟩) h, fun b o h => hb.frozen (p := ⟨b, o, none⟩) h⟩

end Go.Proofs.Ytbecjaamheibmaa
