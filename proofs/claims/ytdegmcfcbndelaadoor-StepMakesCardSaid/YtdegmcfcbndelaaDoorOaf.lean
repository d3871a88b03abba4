/-
  Writing and cutting steps, two scripts, as they came in.
-/
import Derived.Test.YtdegmcfcbndelaaDoorJ9
namespace Go.Proofs.YtdegmcfcbndelaaDoor
open Go.ChangeShapes Go.WideShapes Go.ChangeAt Go.RowKit Go.Deep

section
variable {H : Type} {enc : TypeId × Value → H} {W : World} {sp : Nat → Bool} {fuel : Nat} {x : DataW H × List MemPlace}
end
end Go.Proofs.YtdegmcfcbndelaaDoor
