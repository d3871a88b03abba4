/-
  What layer 8's laws share: what the program's leaves and nodes answer, said of one world and all later ones; hashes stored.
-/
import Derived.Test.YtfmbpdjcoopaeaaDoorN1
import Derived.Test.YtfmbpdjcoopaeaaDoorDc
import Derived.Test.YtfmbpdjcoopaeaaDoorY1
import Derived.Test.YtfmbpdjcoopaeaaDoorY9
namespace Go.Proofs.YtfmbpdjcoopaeaaDoor
open Go.RowKit

theorem zeroH8 : (Tryd.prog.info? 25).bind (·.zero) = some (.agg (ubs n32).toArray) := by kernel_rfl
theorem run_build_hash0 {o : Oper} {a : Go.Act} {W : World} (ho : o.op = .build 25 #[]) : (execOp a.eval o).run Tryd.prog W = .ok (.value (.agg (ubs n32).toArray)) W :=
  run_build_of _ _ ho _ (by kernel_rfl)
/-- Whether an index is one. -/
def ixB (i : Nat) : Bool := decide (i ≤ 4294967295)
/-- A leaf's text and hash, as the program answers. -/
def lfT (i e : Nat) (d t : List UInt8) : List UInt8 := if ixB i then leafT i e d t else []
def lfH (i e : Nat) (d t : List UInt8) : List UInt8 := if ixB i then hashL (leafT i e d t) else n32
/-- Whether a height is a node's. -/
def htB (h : Int) : Bool := decide (1 ≤ h) && decide (h ≤ 32)
def jnT (h : Int) (l r : List UInt8) : List UInt8 := if htB h then joinT h.toNat l r else []
def jnH (h : Int) (l r : List UInt8) : List UInt8 := if htB h then hashL (joinT h.toNat l r) else n32
end Go.Proofs.YtfmbpdjcoopaeaaDoor
