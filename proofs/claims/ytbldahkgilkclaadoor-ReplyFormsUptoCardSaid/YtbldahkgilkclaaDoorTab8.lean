/-
  What a row of this seat hands on of the decoder's tables and of the search's own measure. Condition: the row lists the two tables by what their own text lays.
-/
import Derived.Test.YtbldahkgilkclaaDoorRzG
import Derived.Test.YtbldahkgilkclaaDoorBase
import Derived.Lib.LaidU8T
import Derived.MakeChecks
namespace Go.Proofs.YtbldahkgilkclaaDoor
open Go.RowKit

def ren8 : Go.Shelf.Ren := ⟨fun x => x, fun n => if n = 5 then 5 else if n = 119 then 111 else if n = 138 then 113 else 114, fun n => if n = 3 then 2 else 3⟩

theorem types8 : U8Types Tryd.prog ren8 := ⟨by kernel_rfl, by kernel_rfl, by kernel_rfl, by kernel_rfl⟩
theorem extra8 : U8Extra Tryd.prog ren8 := ⟨by kernel_rfl, by kernel_rfl, by kernel_rfl, by kernel_rfl, by kernel_rfl, by kernel_rfl, by kernel_rfl⟩

theorem globs6 : 0 < Tryd.prog.globals.size ∧ 5 < Tryd.prog.globals.size := by
  rw [show Tryd.prog.globals.size = 6 by kernel_rfl]; decide

set_option maxRecDepth 100000 in
theorem max_of_shape {W : World} (h : W.ShapedOpen Tryd.prog) : ∃ m : Int, W.cell? ⟨0, 0, none⟩ = some (.int .i64 m) := by
  obtain ⟨cs, hh, hs, hr⟩ := h.1 0 #[.int .i64 0] 3 globs6.1 (by kernel_rfl)
  obtain ⟨ts, hts, _, hall⟩ := hr (by kernel_rfl)
  rw [show Tryd.prog.cellTypes Tryd.prog.depth 3 = some [3] by kernel_rfl] at hts
  cases hts
  have hs : cs.size = 1 := hs
  have h1 : 0 < cs.size := by omega
  obtain ⟨u, hu', hok⟩ := hall 0 cs[0] (by simp [h1])
  have : u = 3 := by simpa using hu'.symm
  subst this
  have hcell : W.cell? ⟨0, 0, none⟩ = some cs[0] := by simp [World.cell?, hh, h1]
  rw [hcell]
  unfold Cell.ok at hok
  rw [Tryd.underlying3] at hok
  cases hv : cs[0] with
  | int k z =>
    rw [hv] at hok
    simp at hok
    exact ⟨z, by rw [show k = .i64 from by simp_all]⟩
  | _ => rw [hv] at hok; simp at hok

theorem six_of_shape {W : World} (h : W.ShapedOpen Tryd.prog) : 6 ≤ W.heap.size := by
  obtain ⟨z, t, h0⟩ : ∃ z t, ((begin Tryd.prog (fun _ _ => 0) default).world.heap[5]?).bind Obj.row? = some (z, t) := ⟨_, _, rfl⟩
  obtain ⟨cs, hh, _⟩ := h.1 5 z t globs6.2 h0
  have := (Array.getElem?_eq_some_iff.1 hh).1
  omega

theorem tabs8_of_list {l : List (String × DataW Unit)} {W : World} (hL : laidMetH Tryd.prog l W) (hsh : W.ShapedOpen Tryd.prog) (hp : (l.all fun x => x.2.handleName?.isNone) = true)
    {d1 d2 : DataW Unit} (e1 : d1 = Lib.firstData) (e2 : d2 = Lib.acceptData) (h1 : ("unicode/utf8.first", d1) ∈ l) (h2 : ("unicode/utf8.acceptRanges", d2) ∈ l) : Tabs8 W := by
  subst e1 e2
  rw [MakeChecks.laidMetH_plain _ _ _ hp] at hL
  have hu : Lib.Utf8Tabs 2 3 W := utf8Tabs_of_readsT types8 extra8 (Lib.laidMet.reads hL h1) (Lib.laidMet.reads hL h2)
  refine ⟨hu, max_of_shape hsh, ?_⟩
  have h6 := six_of_shape hsh
  exact ⟨by omega, by omega⟩

end Go.Proofs.YtbldahkgilkclaaDoor
