/-
  What layer 8's laws share: what the program's leaves and nodes answer, said of one world and all later ones; hashes stored.
-/
import Derived.Test.YtfmbpdjcoopaeaaDoorN1
import Derived.Test.YtfmbpdjcoopaeaaDoorDc
import Derived.Test.YtfmbpdjcoopaeaaDoorY1
import Derived.Test.YtfmbpdjcoopaeaaDoorY9
namespace Go.Proofs.YtfmbpdjcoopaeaaDoor
open Go.RowKit

end Go.Proofs.YtfmbpdjcoopaeaaDoor
