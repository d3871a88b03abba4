/-
  The document's own reader: contracts of its function Take.
  The document's own reader: numbers.
-/
import Derived.Test.YtfmbpdjcoopaeaaDoorY9
namespace Go.Proofs.YtfmbpdjcoopaeaaDoor
open Go.RowKit

end Go.Proofs.YtfmbpdjcoopaeaaDoor

namespace Go.Proofs.YtfmbpdjcoopaeaaDoor
open Go.RowKit

end Go.Proofs.YtfmbpdjcoopaeaaDoor
