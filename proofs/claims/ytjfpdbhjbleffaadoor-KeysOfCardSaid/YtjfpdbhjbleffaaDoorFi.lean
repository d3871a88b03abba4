/-
  Sixty-four noughts.
-/
import Derived.Test.YtjfpdbhjbleffaaDoorIn
import Derived.Test.YtjfpdbhjbleffaaDoorCp
import Derived.Test.YtjfpdbhjbleffaaDoorSh
import Derived.Test.YtjfpdbhjbleffaaDoorPw
namespace Go.Proofs.YtjfpdbhjbleffaaDoor
open Go.RowKit

def z64b : List UInt8 := List.replicate 64 0
theorem z64b_length : z64b.length = 64 := by simp [z64b]
theorem zero64b : #[Value.int .u8 0, .int .u8 0, .int .u8 0, .int .u8 0, .int .u8 0, .int .u8 0, .int .u8 0, .int .u8 0, .int .u8 0, .int .u8 0, .int .u8 0, .int .u8 0, .int .u8 0, .int .u8 0, .int .u8 0, .int .u8 0, .int .u8 0, .int .u8 0, .int .u8 0, .int .u8 0, .int .u8 0, .int .u8 0, .int .u8 0, .int .u8 0, .int .u8 0, .int .u8 0, .int .u8 0, .int .u8 0, .int .u8 0, .int .u8 0, .int .u8 0, .int .u8 0, .int .u8 0, .int .u8 0, .int .u8 0, .int .u8 0, .int .u8 0, .int .u8 0, .int .u8 0, .int .u8 0, .int .u8 0, .int .u8 0, .int .u8 0, .int .u8 0, .int .u8 0, .int .u8 0, .int .u8 0, .int .u8 0, .int .u8 0, .int .u8 0, .int .u8 0, .int .u8 0, .int .u8 0, .int .u8 0, .int .u8 0, .int .u8 0, .int .u8 0, .int .u8 0, .int .u8 0, .int .u8 0, .int .u8 0, .int .u8 0, .int .u8 0, .int .u8 0] = (ubs z64b).toArray := rfl
end Go.Proofs.YtjfpdbhjbleffaaDoor
