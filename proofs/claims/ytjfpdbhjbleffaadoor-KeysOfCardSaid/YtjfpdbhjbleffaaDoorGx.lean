/-
  What laws of several layers share: cells of slices that read as bytes, guarded operations, comparing.
-/
import Derived.Test.YtjfpdbhjbleffaaDoorCm
import Derived.BigQuiet
import Derived.Deep.Cut
import Derived.ChangeKeysEq
import Derived.ArgAppend
namespace Go.Proofs.YtjfpdbhjbleffaaDoor
open Go.RowKit

section
variable {w : World}
theorem rb_cell {B : Nat} {A : Option Addr} {bs : List UInt8} (h : Rb w B A bs) {i : Nat} (hi : i < bs.length) : ∃ b o, A = some ⟨b, o, none⟩ ∧ w.cell? ⟨b, o + i, none⟩ = some (.int .u8 ((bs.getD i 0).toNat : Int)) := by
  obtain ⟨b, o, e, -, hc⟩ := Rd.at_ h (k := i) (ubs_at hi)
  exact ⟨b, o, e, by rw [hc]; simp [hi]⟩
end
/-- An operation behind a guard that lets it, which yields a value. -/
theorem wpList_valW {P : Program} {ops : Array Oper} {rest : List Oper} {o : Oper} {a : Go.Act} {w w' : World} {Q : Exit → Go.Act → World → Prop} {v : Value} (hw : Region.wanted o (yielded ops a.tmps) = true) (hrun : (execOp a.eval o).run P w = .ok (.value v) w')
    (h : wpList P ops Q rest (a.put o.dst v) w') : wpList P ops Q (o :: rest) a w :=
  BigFrame.wpList_want hw fun K hK => by
    unfold Oper.wp
    rw [hrun]
    exact hK _ _ h
theorem run_neq_op {o : Oper} {a : Go.Act} (T t2 : TypeId) (x y : Operand) (ho : o.op = .binOp .neq T x y t2) (u v : Array Value) (hx : a.eval x = .agg u) (hy : a.eval y = .agg v) (hgt : Tryd.prog.eqGuardType Tryd.prog.depth T = false) (b : Bool) (w : World) (h : (binOp .neq T (.agg u) (.agg v)).run Tryd.prog w = .ok (.bool b) w) :
    (execOp a.eval o).run Tryd.prog w = .ok (.value (.bool b)) w := by
  unfold execOp
  simp only [ho, hx, hy, Sem.run_bind]
  have hg : (eqGuard .neq T x y (.agg u) (.agg v)).run Tryd.prog w = .ok () w := run_eqGuard_agg w .neq T x y u v hgt
  rw [hg]
  simp only [Result.andThen_ok, h, Sem.run_pure]
theorem results_row_tmp {P : Program} {fn : Func} {u p : Tmp} {ty : TypeId} (h : fn.results = #[.cell p ty, .tmp u]) (tmps : Array Value) (w : World) (g : Nat) (t : TypeId) (cs : Array Value) (fr : Nat × Nat) (d : TypeDesc)
    (hp : tmps.getD p undef = .pointer (some ⟨g, 0, none⟩)) (hg : w.heap[g]? = some (.cells cs t fr))
    (hu : P.underlying ty = some d) (hd : (match d with | .struct _ | .array _ _ => true | _ => false) = true) (hi : (P.info? ty).map (·.size) = some cs.size) :
    (results fn tmps).run P w = .ok (.tuple #[.agg cs, tmps.getD u undef]) w := by
  have hp' : tmps[p]?.getD undef = .pointer (some ⟨g, 0, none⟩) := by simpa using hp
  simp [results, h, hp', asAddr, Result.andThen, run_loadVar_row w g t ty cs fr d hg hu hd hi]
end Go.Proofs.YtjfpdbhjbleffaaDoor
