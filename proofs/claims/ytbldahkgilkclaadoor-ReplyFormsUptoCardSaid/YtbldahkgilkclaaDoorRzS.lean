/-
  The walk of the statement ReplyDecodes: it answers true. Conditions: the bytes lie in memory; the listed variables hold what the program's own text lays; the search's own measure holds a number.
-/
import Derived.Test.YtbldahkgilkclaaDoorRzM
import Derived.Test.YtbldahkgilkclaaDoorRyG
namespace Go.Proofs.YtbldahkgilkclaaDoor
open Go.RowKit

theorem pows_lt' {W : World} (h : Pows W) : 1 < W.heap.size := by
  have := Lib.TabIs.cell h gPow 0 (by rw [Lib.pow10Tab_length]; decide)
  exact World.block_lt_of_cell? W _ this

end Go.Proofs.YtbldahkgilkclaaDoor
