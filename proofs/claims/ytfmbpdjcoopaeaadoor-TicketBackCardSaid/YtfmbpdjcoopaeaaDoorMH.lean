/-
  entrustnum.Hashes: two slices of hashes held against each other.
  entrustnum.Num and Is of any error of package api.
-/
import Derived.Test.YtfmbpdjcoopaeaaDoorM3
import Derived.Test.YtfmbpdjcoopaeaaDoorY1
import Derived.Test.YtfmbpdjcoopaeaaDoorY4
import Derived.Test.YtfmbpdjcoopaeaaDoorY9
namespace Go.Proofs.YtfmbpdjcoopaeaaDoor
open Go.RowKit

end Go.Proofs.YtfmbpdjcoopaeaaDoor

namespace Go.Proofs.YtfmbpdjcoopaeaaDoor
open Go.RowKit

end Go.Proofs.YtfmbpdjcoopaeaaDoor
