/-
  Whether an error is none.
-/
import Derived.Test.YthkbmpocfpbkoaaDoorY9
namespace Go.Proofs.YthkbmpocfpbkoaaDoor
open Go.RowKit

/-- An error that is none, or isn't. -/
def isE (E : Value) (M : Bool) : Prop := (E = .nilIface ∧ M = true) ∨ ∃ n : Int, E = .iface 47 (.int .i64 n) ∧ M = false
theorem run_eqlE {o : Oper} {a : Go.Act} (t2 : TypeId) (k : Nat) (ho : o.op = .binOp .eql 39 (.tmp k) (.const .nilIface) t2) (E : Value) (M : Bool) (hx : a.eval (.tmp k) = E) (hE : isE E M) (w : World) :
    (execOp a.eval o).run Tryd.prog w = .ok (.value (.bool M)) w := by
  have hc : a.eval (.const .nilIface) = .nilIface := rfl
  have hg : ∀ E, (eqGuard .eql 39 (.tmp k) (.const .nilIface) E .nilIface).run Tryd.prog w = .ok () w := fun E => by cases E <;> rfl
  have hb : (binOp .eql 39 E .nilIface).run Tryd.prog w = .ok (.bool M) w := by
    rcases hE with ⟨rfl, rfl⟩ | ⟨n, rfl, rfl⟩
    · kernel_rfl
    · kernel_rfl
  unfold execOp
  simp only [ho, hx, hc, Sem.run_bind]
  rw [hg]
  simp only [Result.andThen_ok, hb, Sem.run_pure]
theorem isE_errV (b : Bool) : isE (errV (if b then 0 else 1)) b := by
  cases b
  · exact Or.inr ⟨1, rfl, rfl⟩
  · exact Or.inl ⟨rfl, rfl⟩
end Go.Proofs.YthkbmpocfpbkoaaDoor
