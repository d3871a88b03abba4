/-
  Sealed blocks of the program's type as values: laid, stored, loaded; Document.
-/
import Derived.Test.YtlmecjnlinalkaaDoorSq
namespace Go.Proofs.YtlmecjnlinalkaaDoor
open Go.RowKit

end Go.Proofs.YtlmecjnlinalkaaDoor
