/-
  The library's limit in a world of any shape.
-/
import Derived.Test.YtceelfomgcbkiaaGreatDoorGR1Z
import Derived.Shelf.Vars
namespace Go.Proofs.YtceelfomgcbkiaaGreatDoor
open Go.RowKit

theorem max_of {W : World} (h : W.ShapedOpen Tryz.prog) : R.MaxAt W :=
  cell_of_shapedOpen_int (g := 0) (t := 3) (zero := #[.int .i64 0]) h (of_decide_eq_true (by kernel_rfl)) (by kernel_rfl) rfl (by kernel_rfl) (by kernel_rfl) Tryz.underlying3
end Go.Proofs.YtceelfomgcbkiaaGreatDoor
