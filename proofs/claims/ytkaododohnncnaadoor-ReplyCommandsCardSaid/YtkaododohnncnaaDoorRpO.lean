/-
  The walks of package resp's reader: isMade, New, Left, Feed, and of bytes.Clone. Conditions: what the reader keeps is a row of its own.
-/
import Derived.Test.YtkaododohnncnaaDoorRpY
import Derived.Test.YtkaododohnncnaaDoorRpN
import Derived.Laws.AppendOwnNone
namespace Go.Proofs.YtkaododohnncnaaDoor
open Go.RowKit

/-- A reader that New made: what it keeps, and whether it is done. -/
structure RdS (w : World) (G : Nat) (kv : Value) (kept : List UInt8) (done : Bool) : Prop where
  lt : G < w.heap.size
  c0 : w.cell? ⟨G, 0, none⟩ = some (.pointer (some ⟨G, 0, none⟩))
  c1 : w.cell? ⟨G, 1, none⟩ = some kv
  c2 : w.cell? ⟨G, 2, none⟩ = some (.bool done)
  f1 : w.frozen? ⟨G, 1, none⟩ = false
  f2 : w.frozen? ⟨G, 2, none⟩ = false
  own : w.ownsRow (G + 1) 5 1 kv kept.length (Lib.byteCells kept)

theorem eqIn_self (w : World) (d : Nat) (a : Addr) : (Op.equalIn (d + 1) 58 (.pointer (some a)) (.pointer (some a))).run Tryd.prog w = .ok true w := by
  simp [Op.equalIn, sameAddr, run_underlying Tryd.underlying58]
theorem eqIn_none (w : World) (d : Nat) (a : Addr) : (Op.equalIn (d + 1) 58 (.pointer none) (.pointer (some a))).run Tryd.prog w = .ok false w := by
  simp [Op.equalIn, run_underlying Tryd.underlying58]
theorem eql_self (w : World) (a : Addr) : (binOp .eql 58 (.pointer (some a)) (.pointer (some a))).run Tryd.prog w = .ok (.bool true) w := by
  simp only [binOp]
  simp [Op.equal, Op.maxDepth, eqIn_self w 9999]
theorem eql_none (w : World) (a : Addr) : (binOp .eql 58 (.pointer none) (.pointer (some a))).run Tryd.prog w = .ok (.bool false) w := by
  simp only [binOp]
  simp [Op.equal, Op.maxDepth, eqIn_none w 9999]

set_option maxRecDepth 100000 in
set_option maxHeartbeats 1000000 in
theorem pisMade_yes (G : Nat) (w : World) (h : w.cell? ⟨G, 0, none⟩ = some (.pointer (some ⟨G, 0, none⟩))) :
    Calls Tryd.prog 46 #[.pointer (some ⟨G, 0, none⟩)] w fun e w' => e = .returned (.bool true) ∧ w = w' := by
  have he := eql_self
  go_enter Tryd.func46, Tryd.ntmps46
  go_wp2
  go_ret
  exact ⟨rfl, rfl⟩
set_option maxRecDepth 100000 in
set_option maxHeartbeats 1000000 in
theorem pisMade_nil (w : World) :
    Calls Tryd.prog 46 #[.pointer none] w fun e w' => e = .returned (.bool false) ∧ w = w' := by
  go_enter Tryd.func46, Tryd.ntmps46
  go_wp2
  go_ret
  exact ⟨rfl, rfl⟩
set_option maxRecDepth 100000 in
set_option maxHeartbeats 1000000 in
theorem pisMade_no (G : Nat) (w : World) (h : w.cell? ⟨G, 0, none⟩ = some (.pointer none)) :
    Calls Tryd.prog 46 #[.pointer (some ⟨G, 0, none⟩)] w fun e w' => e = .returned (.bool false) ∧ w = w' := by
  have he := eql_none
  go_enter Tryd.func46, Tryd.ntmps46
  go_wp2
  go_ret
  exact ⟨rfl, rfl⟩

set_option maxRecDepth 100000 in
set_option maxHeartbeats 1000000 in
theorem pnew_any (w : World) : Calls Tryd.prog 29 #[] w fun e w' => e = .returned (.pointer (some ⟨w.heap.size, 0, none⟩)) ∧ w' = w.alloc (.cells #[.pointer (some ⟨w.heap.size, 0, none⟩), .slice none 0 0, .bool false] 89) := by
  go_enter Tryd.func29, Tryd.ntmps29
  go_wp2
  go_ret
  exact ⟨rfl, rfl⟩

theorem rds_new (w : World) : RdS (w.alloc (.cells #[.pointer (some ⟨w.heap.size, 0, none⟩), .slice none 0 0, .bool false] 89)) w.heap.size (.slice none 0 0) [] false :=
  have h := World.alloc_heap_new w (.cells #[.pointer (some ⟨w.heap.size, 0, none⟩), .slice none 0 0, .bool false] 89)
  { lt := by simp
    c0 := (cell_in h).trans rfl
    c1 := (cell_in h).trans rfl
    c2 := (cell_in h).trans rfl
    f1 := mark_in h
    f2 := mark_in h
    own := ⟨rfl, .inl ⟨rfl, rfl⟩⟩ }

theorem byte_get {l : List UInt8} {j : Nat} {u : Value} (h : (Lib.byteCells l)[j]? = some u) : j < l.length ∧ u = .int .u8 ((l.getD j 0).toNat : Int) := by
  have hj : j < l.length := by
    rcases Nat.lt_or_ge j l.length with hj | hj
    · exact hj
    · rw [List.getElem?_eq_none (by simpa [Lib.byteCells] using hj)] at h; cases h
  refine ⟨hj, ?_⟩
  simp [Lib.byteCells, List.getElem?_eq_getElem hj] at h
  rw [← h, List.getD_eq_getElem?_getD, List.getElem?_eq_getElem hj]
  rfl
theorem own_bytes {w : World} {base g c : Nat} {l : List UInt8} (h : w.ownsRow base 5 1 (.slice (some ⟨g, 0, none⟩) l.length c) l.length (Lib.byteCells l)) : BytesAt w g 0 l := fun j hj => by
  have hx : (Lib.byteCells l)[j]? = some (.int .u8 ((l.getD j 0).toNat : Int)) := by simp [Lib.byteCells, List.getD_eq_getElem?_getD, List.getElem?_eq_getElem hj]
  have := h.cells (g := g) rfl j _ hx
  rwa [Go.WideShapes.add_plain] at this

set_option maxRecDepth 100000 in
set_option maxHeartbeats 2000000 in
theorem pclone_any (b o c : Nat) (l : List UInt8) (w : World) (hb : b < w.heap.size) (hl : l.length ≤ 1099511627776) (hc : BytesAt w b o l) :
    Calls Tryd.prog 47 #[.slice (some ⟨b, o, none⟩) l.length c] w fun e w' => ∃ u, e = .returned u ∧ w'.ownsRow w.heap.size 5 1 u l.length (Lib.byteCells l) ∧ Below w.heap.size w w' := by
  obtain ⟨i0, hi, hy0, hy1, hy2⟩ := info_parts info_u8
  have HC := Lib.hid hc
  clear hc
  have hown : (w.alloc (.cells #[] 5)).ownsRow w.heap.size 5 1 (.slice (some ⟨w.heap.size, 0, none⟩) 0 0) 0 [] :=
    ⟨rfl, .inr ⟨w.heap.size, 0, #[], rfl, Nat.le_refl _, World.alloc_heap_new w _, Nat.le_refl _, Nat.zero_le _, rfl, rfl⟩⟩
  have hsn := Lib.run_eql_slice_nil (P := Tryd.prog) w 23 5 (some ⟨b, o, none⟩) l.length c 0 0 Tryd.underlying23
  go_enter Tryd.func47, Tryd.ntmps47
  go_wp2_with (at_builtin; refine wpList_append_own _ rfl _ _ 23 rfl w.heap.size 5 i0 (.int .u8 0) 1 1 Tryd.underlying23 hi hy0 hy1 hy2 rfl (by decide) _ _ _ rfl hown ⟨b, o, none⟩ l.length c (Lib.byteCells l) rfl ?c1 ?c2 ?c3 ?c4 ?c5 ?c6 ?_)
  case c1 => simp [Lib.byteCells]
  case c2 =>
    intro j u hj
    obtain ⟨h1, rfl⟩ := byte_get hj
    rw [Go.WideShapes.add_plain]
    exact (World.cell?_alloc_lt w _ ⟨b, o + j, none⟩ hb).trans (HC.out j h1)
  case c3 => exact one_bytes l
  case c4 => unfold maxLen; omega
  case c5 => omega
  case c6 => simp
  intro u w2 hown2 hgr2 _
  have HO := Lib.hid hown2
  have HG := Lib.hid hgr2
  obtain ⟨A, c2, rfl⟩ := ownsRow_form hown2
  clear hown2 hgr2 hown
  go_wp2
  go_ret
  refine ⟨_, rfl, ?_, ?_⟩
  · exact HO.out
  · exact ((Below.refl _ w).alloc (Nat.le_refl _) _).grown HG.out (by simp) (fun k hk => by
      simp only [Value.ownBlock, Option.some.injEq] at hk
      exact Nat.le_of_eq hk)

end Go.Proofs.YtkaododohnncnaaDoor
