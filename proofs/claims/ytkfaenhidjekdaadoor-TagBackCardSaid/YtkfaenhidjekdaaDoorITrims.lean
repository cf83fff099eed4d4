/-
  The walks of Trim, and of the document's own.
-/
import Derived.Test.YtkfaenhidjekdaaDoorILoops
namespace Go.Proofs.YtkfaenhidjekdaaDoor.I
open Go.RowKit

theorem ret_str {a b : ByteArray} (h : a = b) : Ending.returned (.string a) = .returned (.string b) := by rw [h]

end Go.Proofs.YtkfaenhidjekdaaDoor.I
