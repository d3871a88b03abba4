/-
  Sealed blocks of the program's type as values: laid, stored, loaded; Document.
-/
import Derived.Test.YtfpkmefbhkplgaaDoorSq
namespace Go.Proofs.YtfpkmefbhkplgaaDoor
open Go.RowKit

end Go.Proofs.YtfpkmefbhkplgaaDoor
