/-
  Layer 9, the document's side: part, walked.
-/
import Derived.Test.YthkbmpocfpbkoaaDoorJ4
namespace Go.Proofs.YthkbmpocfpbkoaaDoor
open Go.RowKit

end Go.Proofs.YthkbmpocfpbkoaaDoor
