/-
  Sealed blocks, and blocks, compared.
-/
import Derived.Test.YthkbmpocfpbkoaaDoorV3
import Derived.Laws.StructEq
namespace Go.Proofs.YthkbmpocfpbkoaaDoor
open Go.RowKit

end Go.Proofs.YthkbmpocfpbkoaaDoor
