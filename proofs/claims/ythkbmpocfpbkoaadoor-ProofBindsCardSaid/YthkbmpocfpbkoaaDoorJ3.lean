/-
  Layer 10, the document's side: climb: two nodes joined.
  Layer 10, the document's side: climb, for every node that is reached.
  Layer 10, the document's side: Texts.
  Layer 10, the document's side: Texts where there is a root; Check.
-/
import Derived.Test.YthkbmpocfpbkoaaDoorK5
import Derived.Test.YthkbmpocfpbkoaaDoorJ1
import Derived.Test.YthkbmpocfpbkoaaDoorK7
import Derived.Test.YthkbmpocfpbkoaaDoorK9
namespace Go.Proofs.YthkbmpocfpbkoaaDoor
open Go.RowKit

end Go.Proofs.YthkbmpocfpbkoaaDoor

namespace Go.Proofs.YthkbmpocfpbkoaaDoor
open Go.RowKit

end Go.Proofs.YthkbmpocfpbkoaaDoor

namespace Go.Proofs.YthkbmpocfpbkoaaDoor
open Go.RowKit

end Go.Proofs.YthkbmpocfpbkoaaDoor

namespace Go.Proofs.YthkbmpocfpbkoaaDoor
open Go.RowKit

end Go.Proofs.YthkbmpocfpbkoaaDoor
