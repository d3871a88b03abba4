/-
  A pair of numbers of 64 bits that came in.
-/
import Derived.Test.YthkbmpocfpbkoaaDoorY5
namespace Go.Proofs.YthkbmpocfpbkoaaDoor
open Go.ChangeShapes Go.WideShapes Go.ChangeAt Go.RowKit Go.Deep

section
variable {H : Type} {enc : TypeId × Value → H} {W : World} {sp : Nat → Bool} {fuel : Nat} {x : DataW H × List MemPlace}
theorem cellsU64 : Tryd.prog.cellsOf 33 = 1 := by kernel_rfl
end
end Go.Proofs.YthkbmpocfpbkoaaDoor
