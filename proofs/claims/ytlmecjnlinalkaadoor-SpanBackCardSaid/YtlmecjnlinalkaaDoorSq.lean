/-
  Sealed blocks, and blocks, compared.
-/
import Derived.Test.YtlmecjnlinalkaaDoorV3
import Derived.Laws.StructEq
namespace Go.Proofs.YtlmecjnlinalkaaDoor
open Go.RowKit

end Go.Proofs.YtlmecjnlinalkaaDoor
