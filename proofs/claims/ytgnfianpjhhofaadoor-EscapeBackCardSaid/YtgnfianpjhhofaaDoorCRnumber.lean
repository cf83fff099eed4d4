/-
  The walk of the document's number.
-/
import Derived.Test.YtgnfianpjhhofaaDoorCNumber
namespace Go.Proofs.YtgnfianpjhhofaaDoor.C
open Go.RowKit

end Go.Proofs.YtgnfianpjhhofaaDoor.C
