/-
  Sealed blocks of the program's type as values: laid, stored, loaded; Document.
-/
import Derived.Test.YthkbmpocfpbkoaaDoorSq
namespace Go.Proofs.YthkbmpocfpbkoaaDoor
open Go.RowKit

end Go.Proofs.YthkbmpocfpbkoaaDoor
