/-
  entrustnum.Num and Is of any error of package api.
-/
import Derived.Test.YthkbmpocfpbkoaaDoorY9
namespace Go.Proofs.YthkbmpocfpbkoaaDoor
open Go.RowKit

end Go.Proofs.YthkbmpocfpbkoaaDoor
