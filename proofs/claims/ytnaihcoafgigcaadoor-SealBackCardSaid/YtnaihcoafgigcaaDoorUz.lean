/-
  The chapter's example, reckoned by the kernel: a block sealed for 0 in epoch 1 has another tag for 1.
-/
import Derived.Test.YtnaihcoafgigcaaDoorSc
namespace Go.Proofs.YtnaihcoafgigcaaDoor

def b5 : List UInt8 := 5 :: List.replicate 31 0
theorem b5_length : b5.length = 32 := by simp [b5]
set_option maxRecDepth 100000 in
theorem five_other : (tagL n16 0 1 (turnedL n16 0 1 b5) == tagL n16 1 1 (turnedL n16 0 1 b5)) = false := by decide +kernel
end Go.Proofs.YtnaihcoafgigcaaDoor
