/-
  The keys of the key of zeros, reckoned by the kernel.
-/
import Derived.Test.YtjfpdbhjbleffaaDoorKb
namespace Go.Proofs.YtjfpdbhjbleffaaDoor

theorem zero_enc : (keyEnc n16 == n16) = false := by decide +kernel
theorem zero_tag : (keyTag n16 == keyTicket n16) = false := by decide +kernel
theorem zero_ticket : (keyTicket n16 == keyLink n16) = false := by decide +kernel
end Go.Proofs.YtjfpdbhjbleffaaDoor
