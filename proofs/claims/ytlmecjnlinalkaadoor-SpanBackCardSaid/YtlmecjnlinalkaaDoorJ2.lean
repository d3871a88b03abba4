/-
  alive of layer 9, over what the program's trees are to answer.
  Layer 10: alive, over what the program's trees answer; how much is looked at.
-/
import Derived.Test.YtlmecjnlinalkaaDoorT0
import Derived.Test.YtlmecjnlinalkaaDoorNc
import Derived.Test.YtlmecjnlinalkaaDoorY4
import Derived.Test.YtlmecjnlinalkaaDoorJ1
namespace Go.Proofs.YtlmecjnlinalkaaDoor
open Go.RowKit

def h5 : List UInt8 := 5 :: List.replicate 31 0
attribute [irreducible] h5
end Go.Proofs.YtlmecjnlinalkaaDoor

namespace Go.Proofs.YtlmecjnlinalkaaDoor
open Go.RowKit

def h3 : List UInt8 := 3 :: List.replicate 31 0
theorem h3_full : h3 ≠ emptyL 0 := fun e => by
  have h := zero_hash
  rw [← emptyL_zero, ← e] at h
  revert h
  decide
theorem run_build_h3 {o : Oper} {a : Go.Act} {W : World} (ho : o.op = .build 25 #[(0, .const (.int .u8 3))]) : (execOp a.eval o).run Tryd.prog W = .ok (.value (.agg (ubs h3).toArray)) W :=
  run_build_of _ _ ho _ (by kernel_rfl)
attribute [irreducible] h3
end Go.Proofs.YtlmecjnlinalkaaDoor
