/-
  Sealed blocks, and blocks, compared.
  Sealed blocks of the program's type as values: laid, stored, loaded; Document.
  What layer 8's laws share: what the program's leaves and nodes answer, said of one world and all later ones; hashes stored.
  entrustnum.Num and Is of any error of package api.
  The hash of nothing, reckoned by the kernel.
-/
import Derived.Test.YtdegmcfcbndelaaDoorV3
import Derived.Laws.StructEq
import Derived.Test.YtdegmcfcbndelaaDoorN1
import Derived.Test.YtdegmcfcbndelaaDoorY1
import Derived.Test.YtdegmcfcbndelaaDoorY9
namespace Go.Proofs.YtdegmcfcbndelaaDoor
open Go.RowKit

end Go.Proofs.YtdegmcfcbndelaaDoor

namespace Go.Proofs.YtdegmcfcbndelaaDoor
open Go.RowKit

end Go.Proofs.YtdegmcfcbndelaaDoor

namespace Go.Proofs.YtdegmcfcbndelaaDoor
open Go.RowKit

theorem zeroH8 : (Tryd.prog.info? 25).bind (·.zero) = some (.agg (ubs n32).toArray) := by kernel_rfl
theorem run_build_hash0 {o : Oper} {a : Go.Act} {W : World} (ho : o.op = .build 25 #[]) : (execOp a.eval o).run Tryd.prog W = .ok (.value (.agg (ubs n32).toArray)) W :=
  run_build_of _ _ ho _ (by kernel_rfl)
/-- Whether a height is a node's. -/
def htB (h : Int) : Bool := decide (1 ≤ h) && decide (h ≤ 32)
def jnT (h : Int) (l r : List UInt8) : List UInt8 := if htB h then joinT h.toNat l r else []
def jnH (h : Int) (l r : List UInt8) : List UInt8 := if htB h then hashL (joinT h.toNat l r) else n32
def JoinC (w : World) : Prop := ∀ (W : World) (h : Int) (l r : List UInt8), Below w.heap.size w W → -9223372036854775808 ≤ h → h < 9223372036854775808 → l.length = 32 → r.length = 32 →
  Calls Tryd.prog 25 #[.int .i64 h, .agg (ubs l).toArray, .agg (ubs r).toArray] W fun e w' => e = .returned (.tuple #[.agg (ubs (jnH h l r)).toArray, errV (if htB h then 0 else 1)]) ∧ Below W.heap.size W w'
def EmptiesC (w : World) : Prop := ∀ (W : World), Below w.heap.size w W →
  Calls Tryd.prog 64 #[] W fun e w' => e = .returned (.agg (ubs (eRow 33)).toArray) ∧ Below W.heap.size W w'
end Go.Proofs.YtdegmcfcbndelaaDoor

namespace Go.Proofs.YtdegmcfcbndelaaDoor
open Go.RowKit

set_option maxRecDepth 100000 in
/-- An error's number. -/
theorem enum_any (k : Nat) (w : World) : Calls Tryd.prog 44 #[errV k] w fun e w' => e = .returned (.int .i64 k) ∧ w = w' := by
  by_cases hk : k = 0
  · subst hk
    rw [errV_zero]
    go_enter Tryd.func44, Tryd.ntmps44
    go_wp2
    go_ret
    exact ⟨rfl, rfl⟩
  · rw [errV_pos hk]
    have hne : ((k : Int) != 0) = true := by simp; omega
    have hta : ∀ w : World, (Instr.typeAssert (.iface 42 (.int .i64 (k : Int))) 37 42 true).run Tryd.prog w = .ok (.tuple #[.int .i64 (k : Int), .bool true]) w := fun _ => by kernel_rfl
    clear hk
    go_enter Tryd.func44, Tryd.ntmps44
    go_wp2
    go_ret
    exact ⟨rfl, rfl⟩
set_option maxRecDepth 100000 in
theorem eis_any (k m : Nat) (w : World) : Calls Tryd.prog 16 #[errV k, .int .i64 m] w fun e w' => e = .returned (.bool (decide (k = m))) ∧ w = w' := by
  go_enter Tryd.func16, Tryd.ntmps16
  go_wp2_with (go_at_call 44; refine (enum_any _ _).mono ?_; rintro e w1 ⟨rfl, rfl⟩)
  go_ret
  refine ⟨?_, rfl⟩
  show Ending.returned (.bool _) = _
  congr 2
  rw [Bool.eq_iff_iff]
  simp
  omega
end Go.Proofs.YtdegmcfcbndelaaDoor

namespace Go.Proofs.YtdegmcfcbndelaaDoor

end Go.Proofs.YtdegmcfcbndelaaDoor
