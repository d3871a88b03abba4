/-
  The hash of nothing, reckoned by the kernel.
-/
import Derived.Test.YtlmecjnlinalkaaDoorN1
namespace Go.Proofs.YtlmecjnlinalkaaDoor

theorem zero_hash : (hashL [0]).take 4 = [110, 52, 11, 156] := by decide +kernel
end Go.Proofs.YtlmecjnlinalkaaDoor
