/-
  Rows of bytes within rows of bytes: written, loaded.
  Rows of values within rows of values: written, loaded, built.
-/
import Derived.Test.YtfmbpdjcoopaeaaDoorY1
import Derived.Deep.MidRow
import Derived.Deep.Cut
import Derived.Laws.Tables
namespace Go.Proofs.YtfmbpdjcoopaeaaDoor
open Go.RowKit

/-- A slot that is laid as a new block: what the operation comes to is said by the caller. -/
theorem Great.wpList_allocTo {P : Program} {ops : Array Oper} {rest : List Oper} {o : Oper} {a : Go.Act} {w : World} {Q : Exit → Go.Act → World → Prop} (hg : o.guard = none) (dst : Option Tmp) (hdst : o.dst = dst) (v : Value) (ob : Obj)
    (hrun : (execOp a.eval o).run P w = .ok (.value v) (w.alloc ob)) (h : wpList P ops Q rest (a.put dst v) (w.alloc ob)) : wpList P ops Q (o :: rest) a w := by
  cases hdst
  exact wpList_plain hg fun K hK => by
    unfold Oper.wp
    rw [hrun]
    exact hK _ _ h

/-- Bytes that are written into a row from place o on. -/
def spl (l : List UInt8) (o : Nat) : List UInt8 → List UInt8
  | [] => l
  | v :: r => spl (l.set o v) (o + 1) r
theorem spl_at (a m z vs : List UInt8) (h : m.length = vs.length) : spl (a ++ (m ++ z)) a.length vs = a ++ (vs ++ z) := by
  induction vs generalizing a m with
  | nil => cases m with
    | nil => rfl
    | cons x m => cases h
  | cons v r ih =>
    cases m with
    | nil => cases h
    | cons x m =>
      have hm : m.length = r.length := by simpa using h
      rw [spl, List.set_append_right _ _ (Nat.le_refl _), Nat.sub_self]
      have := ih (a ++ [v]) m hm
      simpa using this
section
variable {w : World} {g : Nat} {t : TypeId} {l : List UInt8}
theorem at_setCells (h : At w g (ubs l).toArray t) (o : Nat) (vs : List UInt8) : At (w.setCells g o (ubs vs)) g (ubs (spl l o vs)).toArray t := by
  induction vs generalizing w l o with
  | nil => exact h
  | cons v r ih => exact ih (at_ub_put h o v) (o + 1)
theorem far_setCells {g' : Nat} {cs : Array Value} {t' : TypeId} (h : At w g' cs t') (hn : g' ≠ g) (o : Nat) (vs : List UInt8) : At (w.setCells g o (ubs vs)) g' cs t' := by
  induction vs generalizing w o with
  | nil => exact h
  | cons v r ih => exact ih (h.far (p := ⟨g, o, none⟩) hn _) (o + 1)
theorem below_setCells {B : Nat} {a : World} (h : Below B a w) (hg : B ≤ g) (o : Nat) (vs : List UInt8) : Below B a (w.setCells g o (ubs vs)) := by
  induction vs generalizing w o with
  | nil => exact h
  | cons v r ih => exact ih (h.setCell (p := ⟨g, o, none⟩) hg _) (o + 1)
theorem there_at (h : At w g (ubs l).toArray t) (o n : Nat) (hl : o + n ≤ l.length) : w.there g o n := fun j hj => by
  refine ⟨?_, h.frozen _⟩
  rw [at_ub_cell h (i := o + j) (by omega)]
  rfl
theorem range_at (h : At w g (ubs l).toArray t) {a m z : List UInt8} (e : l = a ++ (m ++ z)) : w.rangeAt g a.length (ubs m) := fun j v hv => by
  rw [h.cell, List.getElem?_toArray, e, ubs_append, ubs_append, List.getElem?_append_right (by rw [ubs_length]; omega), ubs_length, Nat.add_sub_cancel_left, List.getElem?_append_left (by
    have := (List.getElem?_eq_some_iff.1 hv).1
    exact this)]
  exact hv
end
theorem run_load_part {o : Oper} {a : Go.Act} {W : World} (ty : TypeId) (x : Operand) (ho : o.op = .load ty x) (b off : Nat) (hx : a.eval x = .pointer (some ⟨b, off, none⟩)) (cs : List Value) (d : TypeDesc) (hc : W.rangeAt b off cs)
    (hu : Tryd.prog.underlying ty = some d) (hd : d.isRow = true) (hi : (Tryd.prog.info? ty).map (·.size) = some cs.length) : (execOp a.eval o).run Tryd.prog W = .ok (.value (.agg cs.toArray)) W := by
  unfold execOp
  simp only [ho, hx, Instr.loadAt, Instr.sureAddr, Sem.run_bind, Sem.run_pure, Result.andThen_ok, run_loadVar_mid W b off ty cs d hc hu hd hi]
theorem run_alloc_of {o : Oper} {a : Go.Act} {W : World} (t : TypeId) (ho : o.op = .alloc t) (cs : Array Value) (hz : (Tryd.prog.info? t).bind (·.zero) = some (.agg cs)) :
    (execOp a.eval o).run Tryd.prog W = .ok (.value (.pointer (some ⟨W.heap.size, 0, none⟩))) (W.alloc (.cells cs t)) := by
  unfold execOp
  simp only [ho]
  cases hq : Tryd.prog.info? t with
  | none => rw [hq] at hz; cases hz
  | some inf =>
    have hs : inf.zero = some (.agg cs) := by rw [hq] at hz; simpa using hz
    simp [Instr.alloc, zeroValue, typeInfo, hq, hs, newVar, newRow, Value.cells]
end Go.Proofs.YtfmbpdjcoopaeaaDoor

namespace Go.Proofs.YtfmbpdjcoopaeaaDoor
open Go.RowKit

/-- Values that are written into a row from place o on. -/
def spv (l : List Value) (o : Nat) : List Value → List Value
  | [] => l
  | v :: r => spv (l.set o v) (o + 1) r
theorem spv_at (a m z vs : List Value) (h : m.length = vs.length) : spv (a ++ (m ++ z)) a.length vs = a ++ (vs ++ z) := by
  induction vs generalizing a m with
  | nil => cases m with
    | nil => rfl
    | cons x m => cases h
  | cons v r ih =>
    cases m with
    | nil => cases h
    | cons x m =>
      have hm : m.length = r.length := by simpa using h
      rw [spv, List.set_append_right _ _ (Nat.le_refl _), Nat.sub_self]
      have := ih (a ++ [v]) m hm
      simpa using this
theorem range_vals {w : World} {g : Nat} {t : TypeId} {l : List Value} (h : At w g l.toArray t) {a m z : List Value} (e : l = a ++ (m ++ z)) : w.rangeAt g a.length m := fun j v hv => by
  rw [h.cell, List.getElem?_toArray, e, List.getElem?_append_right (by omega), Nat.add_sub_cancel_left, List.getElem?_append_left (by
    have := (List.getElem?_eq_some_iff.1 hv).1
    exact this)]
  exact hv
theorem range_all {w : World} {g : Nat} {t : TypeId} {l : List Value} (h : At w g l.toArray t) : w.rangeAt g 0 l := range_vals (a := []) (m := l) (z := []) h (by simp)
theorem at_setVals {w : World} {g : Nat} {t : TypeId} {l : List Value} (h : At w g l.toArray t) (o : Nat) (vs : List Value) : At (w.setCells g o vs) g (spv l o vs).toArray t := by
  induction vs generalizing w l o with
  | nil => exact h
  | cons v r ih =>
    have h1 : At (w.setCell ⟨g, o, none⟩ v) g (l.set o v).toArray t := by
      have := h.put o v
      rwa [List.setIfInBounds_toArray] at this
    exact ih h1 (o + 1)
theorem far_setVals {w : World} {g g' : Nat} {cs : Array Value} {t' : TypeId} (h : At w g' cs t') (hn : g' ≠ g) (o : Nat) (vs : List Value) : At (w.setCells g o vs) g' cs t' := by
  induction vs generalizing w o with
  | nil => exact h
  | cons v r ih => exact ih (h.far (p := ⟨g, o, none⟩) hn _) (o + 1)
theorem below_setVals {B g : Nat} {a w : World} (h : Below B a w) (hg : B ≤ g) (o : Nat) (vs : List Value) : Below B a (w.setCells g o vs) := by
  induction vs generalizing w o with
  | nil => exact h
  | cons v r ih => exact ih (h.setCell (p := ⟨g, o, none⟩) hg _) (o + 1)
/-- A part of what is built is put into its place. -/
theorem fill_vals (l : List Value) (o : Nat) (vs : List Value) : ((vs.toArray.zipIdx.foldl (fun cs (c, j) => cs.setIfInBounds (o + j) c) l.toArray) : Array Value) = (spv l o vs).toArray := by
  have key : ∀ (vs : List Value) (k : Nat) (l : List Value), ((vs.zipIdx k).foldl (fun (cs : Array Value) (c : Value × Nat) => cs.setIfInBounds (o + c.2) c.1) l.toArray) = (spv l (o + k) vs).toArray := by
    intro vs
    induction vs with
    | nil => intro k l; rfl
    | cons v r ih =>
      intro k l
      have := ih (k + 1) (l.set (o + k) v)
      rw [List.zipIdx_cons, List.foldl_cons, spv]
      rw [show o + (k + 1) = o + k + 1 by omega] at this
      rw [← this]
      congr 1
      simp
  have := key vs 0 l
  rw [Nat.add_zero] at this
  rw [← this, ← Array.foldl_toList, Array.toList_zipIdx]
theorem fill_step (place : Nat → Option (Nat × Nat)) (i off n : Nat) (l vs : List Value) (v : Value) (rest : List (Nat × Value)) (hv : v.cells = vs.toArray) (hi : place i = some (off, n)) (hn : vs.length = n) (hl : off + n ≤ l.length) :
    Instr.fill place l.toArray ((i, v) :: rest) = Instr.fill place (spv l off vs).toArray rest := by
  rw [Instr.fill]
  simp only [hi]
  rw [if_neg (by simp [hv, hn, hl])]
  rw [hv, fill_vals]
theorem run_build_of {o : Oper} {a : Go.Act} {W : World} (T : TypeId) (parts : Array (Nat × Operand)) (ho : o.op = .build T parts) (cs : Array Value) (h : Tryd.prog.built T (parts.map fun (i, x) => (i, a.eval x)).toList = some cs) : (execOp a.eval o).run Tryd.prog W = .ok (.value (.agg cs)) W := by
  unfold execOp
  simp only [ho, Sem.run_bind]
  rw [run_build W _ _ cs h]
  rfl
end Go.Proofs.YtfmbpdjcoopaeaaDoor
