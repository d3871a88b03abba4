/-
  Rows of bytes within rows of bytes: written, loaded.
-/
import Derived.Test.YtjfpdbhjbleffaaDoorGx
import Derived.Deep.MidRow
import Derived.Great.Walk
import Derived.Deep.Cut
namespace Go.Proofs.YtjfpdbhjbleffaaDoor
open Go.RowKit

/-- Bytes that are written into a row from place o on. -/
def spl (l : List UInt8) (o : Nat) : List UInt8 → List UInt8
  | [] => l
  | v :: r => spl (l.set o v) (o + 1) r
theorem spl_length (l : List UInt8) (o : Nat) (vs : List UInt8) : (spl l o vs).length = l.length := by
  induction vs generalizing l o with
  | nil => rfl
  | cons v r ih => rw [spl, ih, List.length_set]
theorem spl_at (a m z vs : List UInt8) (h : m.length = vs.length) : spl (a ++ (m ++ z)) a.length vs = a ++ (vs ++ z) := by
  induction vs generalizing a m with
  | nil => cases m with
    | nil => rfl
    | cons x m => cases h
  | cons v r ih =>
    cases m with
    | nil => cases h
    | cons x m =>
      have hm : m.length = r.length := by simpa using h
      rw [spl, List.set_append_right _ _ (Nat.le_refl _), Nat.sub_self]
      have := ih (a ++ [v]) m hm
      simpa using this
section
variable {w : World} {g : Nat} {t : TypeId} {l : List UInt8}
theorem at_setCells (h : At w g (ubs l).toArray t) (o : Nat) (vs : List UInt8) : At (w.setCells g o (ubs vs)) g (ubs (spl l o vs)).toArray t := by
  induction vs generalizing w l o with
  | nil => exact h
  | cons v r ih => exact ih (at_ub_put h o v) (o + 1)
theorem far_setCells {g' : Nat} {cs : Array Value} {t' : TypeId} (h : At w g' cs t') (hn : g' ≠ g) (o : Nat) (vs : List UInt8) : At (w.setCells g o (ubs vs)) g' cs t' := by
  induction vs generalizing w o with
  | nil => exact h
  | cons v r ih => exact ih (h.far (p := ⟨g, o, none⟩) hn _) (o + 1)
theorem below_setCells {B : Nat} {a : World} (h : Below B a w) (hg : B ≤ g) (o : Nat) (vs : List UInt8) : Below B a (w.setCells g o (ubs vs)) := by
  induction vs generalizing w o with
  | nil => exact h
  | cons v r ih => exact ih (h.setCell (p := ⟨g, o, none⟩) hg _) (o + 1)
theorem there_at (h : At w g (ubs l).toArray t) (o n : Nat) (hl : o + n ≤ l.length) : w.there g o n := fun j hj => by
  refine ⟨?_, h.frozen _⟩
  rw [at_ub_cell h (i := o + j) (by omega)]
  rfl
theorem range_at (h : At w g (ubs l).toArray t) {a m z : List UInt8} (e : l = a ++ (m ++ z)) : w.rangeAt g a.length (ubs m) := fun j v hv => by
  rw [h.cell, List.getElem?_toArray, e, ubs_append, ubs_append, List.getElem?_append_right (by rw [ubs_length]; omega), ubs_length, Nat.add_sub_cancel_left, List.getElem?_append_left (by
    have := (List.getElem?_eq_some_iff.1 hv).1
    exact this)]
  exact hv
end
theorem run_load_part {o : Oper} {a : Go.Act} {W : World} (ty : TypeId) (x : Operand) (ho : o.op = .load ty x) (b off : Nat) (hx : a.eval x = .pointer (some ⟨b, off, none⟩)) (cs : List Value) (d : TypeDesc) (hc : W.rangeAt b off cs)
    (hu : Tryd.prog.underlying ty = some d) (hd : d.isRow = true) (hi : (Tryd.prog.info? ty).map (·.size) = some cs.length) : (execOp a.eval o).run Tryd.prog W = .ok (.value (.agg cs.toArray)) W := by
  unfold execOp
  simp only [ho, hx, Instr.loadAt, Instr.sureAddr, Sem.run_bind, Sem.run_pure, Result.andThen_ok, run_loadVar_mid W b off ty cs d hc hu hd hi]
theorem sizeKey : (Tryd.prog.info? 23).map (·.size) = some 16 := by kernel_rfl
theorem sizeKey_of {l : List UInt8} (h : l.length = 16) : (Tryd.prog.info? 23).map (·.size) = some (ubs l).toArray.size := by rw [sizeKey]; simp [ubs_length, h]
theorem run_alloc_of {o : Oper} {a : Go.Act} {W : World} (t : TypeId) (ho : o.op = .alloc t) (cs : Array Value) (hz : (Tryd.prog.info? t).bind (·.zero) = some (.agg cs)) :
    (execOp a.eval o).run Tryd.prog W = .ok (.value (.pointer (some ⟨W.heap.size, 0, none⟩))) (W.alloc (.cells cs t)) := by
  unfold execOp
  simp only [ho]
  cases hq : Tryd.prog.info? t with
  | none => rw [hq] at hz; cases hz
  | some inf =>
    have hs : inf.zero = some (.agg cs) := by rw [hq] at hz; simpa using hz
    simp [Instr.alloc, zeroValue, typeInfo, hq, hs, newVar, newRow, Value.cells]
end Go.Proofs.YtjfpdbhjbleffaaDoor
