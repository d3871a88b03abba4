/-
  Layer 9, the document's side: Set.
-/
import Derived.Test.YtfmbpdjcoopaeaaDoorTz
namespace Go.Proofs.YtfmbpdjcoopaeaaDoor
open Go.RowKit

end Go.Proofs.YtfmbpdjcoopaeaaDoor
