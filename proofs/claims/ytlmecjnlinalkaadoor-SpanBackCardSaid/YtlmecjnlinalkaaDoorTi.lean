/-
  Is of layer 9: a tree held against the document's, over what the program's trees are to answer.
-/
import Derived.Test.YtlmecjnlinalkaaDoorTo
import Derived.Test.YtlmecjnlinalkaaDoorY1
namespace Go.Proofs.YtlmecjnlinalkaaDoor
open Go.RowKit

attribute [local go_sem] Oper.semAt_some

section
variable {F : Fence} {rm : Nat} {P : Program} {ops : Array Oper} {Q : Exit → Act → World → Prop}
end
end Go.Proofs.YtlmecjnlinalkaaDoor
