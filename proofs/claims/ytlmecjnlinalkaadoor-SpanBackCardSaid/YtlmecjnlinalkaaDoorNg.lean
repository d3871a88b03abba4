/-
  entrustnum.Num and Is of any error of package api.
-/
import Derived.Test.YtlmecjnlinalkaaDoorY9
namespace Go.Proofs.YtlmecjnlinalkaaDoor
open Go.RowKit

set_option maxRecDepth 100000 in
/-- An error's number. -/
theorem enum_any (k : Nat) (w : World) : Calls Tryd.prog 48 #[errV k] w fun e w' => e = .returned (.int .i64 k) ∧ w = w' := by
  by_cases hk : k = 0
  · subst hk
    rw [errV_zero]
    go_enter Tryd.func48, Tryd.ntmps48
    go_wp2
    go_ret
    exact ⟨rfl, rfl⟩
  · rw [errV_pos hk]
    have hne : ((k : Int) != 0) = true := by simp; omega
    have hta : ∀ w : World, (Instr.typeAssert (.iface 42 (.int .i64 (k : Int))) 37 42 true).run Tryd.prog w = .ok (.tuple #[.int .i64 (k : Int), .bool true]) w := fun _ => by kernel_rfl
    clear hk
    go_enter Tryd.func48, Tryd.ntmps48
    go_wp2
    go_ret
    exact ⟨rfl, rfl⟩
set_option maxRecDepth 100000 in
theorem eis_any (k m : Nat) (w : World) : Calls Tryd.prog 15 #[errV k, .int .i64 m] w fun e w' => e = .returned (.bool (decide (k = m))) ∧ w = w' := by
  go_enter Tryd.func15, Tryd.ntmps15
  go_wp2_with (go_at_call 48; refine (enum_any _ _).mono ?_; rintro e w1 ⟨rfl, rfl⟩)
  go_ret
  refine ⟨?_, rfl⟩
  show Ending.returned (.bool _) = _
  congr 2
  rw [Bool.eq_iff_iff]
  simp
  omega
end Go.Proofs.YtlmecjnlinalkaaDoor
