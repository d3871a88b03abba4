/-
  The hash of nothing, reckoned by the kernel.
-/
import Derived.Test.YthkbmpocfpbkoaaDoorN1
namespace Go.Proofs.YthkbmpocfpbkoaaDoor

theorem zero_hash : (hashL [0]).take 4 = [110, 52, 11, 156] := by decide +kernel
end Go.Proofs.YthkbmpocfpbkoaaDoor
