/-
  Inside a fence: operations that load or store whole rows; what a loop's body keeps. Nothing here speaks of the program.
-/
import Derived.RangeFuncNested
import Derived.RangeFuncBound
import Derived.RangeFuncCalls
import Derived.RangeFuncLeaves
import Derived.OwnWalkIn
import Derived.TacticsInMore
import Derived.LoopNIn
import Derived.LoopIn
import Derived.Test.YtjfpdbhjbleffaaDoorBase
import Derived.Test.YtjfpdbhjbleffaaDoorReg
namespace Go.Proofs.YtjfpdbhjbleffaaDoor
open Go.RowKit

theorem run_load_row {P : Program} {o : Oper} {a : Go.Act} {w : World} (ty : TypeId) (x : Operand) (ho : o.op = .load ty x) (g : Nat) (hx : a.eval x = .pointer (some ⟨g, 0, none⟩)) (t : TypeId) (cs : Array Value) (d : TypeDesc) (hg : w.heap[g]? = some (.cells cs t (0, 0)))
    (hu : P.underlying ty = some d) (hd : (match d with | .struct _ | .array _ _ => true | _ => false) = true) (hi : (P.info? ty).map (·.size) = some cs.size) : (execOp a.eval o).run P w = .ok (.value (.agg cs)) w := by
  unfold execOp
  simp only [ho, hx, Instr.loadAt, Instr.sureAddr, Sem.run_bind, Sem.run_pure, Result.andThen_ok, run_loadVar_row w g t ty cs (0, 0) d hg hu hd hi]

section
variable {F : Fence} {n : Nat} {P : Program} {ops : Array Oper} {rest : List Oper} {o : Oper} {a : Go.Act} {w w' : World} {Q : Exit → Go.Act → World → Prop}
theorem wpListIn_value (v : Value) (hg : o.guard = none) (hd : ∀ c, o.op ≠ .defer c) (hab : o.about P w a.eval = none) (hrun : (execOp a.eval o).run P w = .ok (.value v) w')
    (h : wpListIn F n P ops Q rest (a.put o.dst v) w') : wpListIn F n P ops Q (o :: rest) a w := by
  refine wpListIn_plain hg fun K hK => ?_
  unfold Oper.wpIn
  refine ⟨fun f hf => (by rw [hab] at hf; cases hf), ?_⟩
  rw [Oper.semAt_plain F _ _ hd, hrun]
  exact hK _ _ h
theorem wpListIn_unit (hg : o.guard = none) (hd : ∀ c, o.op ≠ .defer c) (hab : o.about P w a.eval = none) (hrun : (execOp a.eval o).run P w = .ok .skip w')
    (h : wpListIn F n P ops Q rest (a.put o.dst undef) w') : wpListIn F n P ops Q (o :: rest) a w := by
  refine wpListIn_plain hg fun K hK => ?_
  unfold Oper.wpIn
  refine ⟨fun f hf => (by rw [hab] at hf; cases hf), ?_⟩
  rw [Oper.semAt_plain F _ _ hd, hrun]
  exact hK _ _ h
theorem wpListIn_load_row (hgd : o.guard = none) (ty : TypeId) (x : Operand) (ho : o.op = .load ty x) (g : Nat) (hx : a.eval x = .pointer (some ⟨g, 0, none⟩)) (t : TypeId) (cs : Array Value) (d : TypeDesc) (hg : w.heap[g]? = some (.cells cs t (0, 0)))
    (hu : P.underlying ty = some d) (hd : (match d with | .struct _ | .array _ _ => true | _ => false) = true) (hi : (P.info? ty).map (·.size) = some cs.size) (h : wpListIn F n P ops Q rest (a.put o.dst (.agg cs)) w) : wpListIn F n P ops Q (o :: rest) a w :=
  wpListIn_value _ hgd (fun c => by rw [ho]; intro e; cases e) (by simp [Oper.about, ho]) (run_load_row ty x ho g hx t cs d hg hu hd hi) h
theorem wpListIn_store_row (hgd : o.guard = none) (ty : TypeId) (x y : Operand) (ho : o.op = .store ty x y) (g : Nat) (cells : Array Value) (hx : a.eval x = .pointer (some ⟨g, 0, none⟩)) (hy : a.eval y = .agg cells)
    (t : TypeId) (old : Array Value) (hg : w.heap[g]? = some (.cells old t (0, 0))) (hi : (P.info? ty).map (·.size) = some cells.size) (hold : old.size = cells.size) (h1 : cells.all (·.oneCell') = true)
    (h : wpListIn F n P ops Q rest (a.put o.dst undef) (w.setRow g cells)) : wpListIn F n P ops Q (o :: rest) a w := by
  refine wpListIn_unit hgd (fun c => by rw [ho]; intro e; cases e) (by simp [Oper.about, ho]) ?_ h
  unfold execOp
  simp only [ho, hx, hy, Instr.storeAt, Instr.sureAddr, Sem.run_bind, Sem.run_pure, Result.andThen_ok, run_storeVar_row w g t ty old cells hg hi hold h1]
/-- An array is loaded out of the middle of a row. -/
theorem wpListIn_load_piece (hgd : o.guard = none) (ty : TypeId) (x : Operand) (ho : o.op = .load ty x) (g off : Nat) (hx : a.eval x = .pointer (some ⟨g, off, none⟩)) (xs : List Value) (d : TypeDesc) (hg : ∀ j v, xs[j]? = some v → w.cell? ⟨g, off + j, none⟩ = some v)
    (hu : P.underlying ty = some d) (hd : (match d with | .struct _ | .array _ _ => true | _ => false) = true) (hi : (P.info? ty).map (·.size) = some xs.length) (h : wpListIn F n P ops Q rest (a.put o.dst (.agg xs.toArray)) w) : wpListIn F n P ops Q (o :: rest) a w := by
  refine wpListIn_value _ hgd (fun c => by rw [ho]; intro e; cases e) (by simp [Oper.about, ho]) ?_ h
  have hl : (loadCells ⟨g, off, none⟩ xs.length).run P w = .ok xs.toArray w :=
    run_loadCells_list (P := P) w ⟨g, off, none⟩ xs (fun j v hv => by rw [add_plain]; exact hg j v hv)
  have hr : (loadVar ty ⟨g, off, none⟩).run P w = .ok (.agg xs.toArray) w := by
    cases hq : P.info? ty with
    | none => simp [hq] at hi
    | some i =>
      have hs : i.size = xs.length := by simpa [hq] using hi
      have hagg : (isAgg ty).run P w = .ok true w := by
        unfold isAgg
        rw [Sem.run_bind, run_underlying hu w]
        cases d <;> simp_all
      simp [loadVar, Sem.run_bind, hagg, sizeOf, typeInfo, hq, hs, hl]
  unfold execOp
  simp only [ho, hx, Instr.loadAt, Instr.sureAddr, Sem.run_bind, Sem.run_pure, Result.andThen_ok, hr]
/-- A slice as an array's address. -/
theorem wpListIn_arrayAt (hgd : o.guard = none) (ty : TypeId) (x : Operand) (ho : o.op = .sliceToArrayPointer ty x) (A : Option Addr) (len cap k : Nat) (e : TypeId) (hx : a.eval x = .slice A len cap) (hu : P.underlying ty = some (.array k e)) (hk : k ≤ len)
    (h : wpListIn F n P ops Q rest (a.put o.dst (.pointer A)) w) : wpListIn F n P ops Q (o :: rest) a w := by
  refine wpListIn_value _ hgd (fun c => by rw [ho]; intro e; cases e) (by simp [Oper.about, ho]) ?_ h
  unfold execOp
  simp only [ho, hx, Instr.arrayAt, Sem.run_bind, run_underlying hu, Result.andThen_ok]
  rw [if_neg (by omega)]
  rfl
end

/-- What a round of the loop keeps: every row of cells but block C. -/
structure KeepsBut (C : Nat) (A B : World) : Prop where
  size : A.heap.size ≤ B.heap.size
  same : ∀ (k : Nat) (cs : Array Value) (t : TypeId) (fr : Nat × Nat), k ≠ C → A.heap[k]? = some (.cells cs t fr) → B.heap[k]? = some (.cells cs t fr)
theorem KeepsBut.refl (C : Nat) (A : World) : KeepsBut C A A := ⟨Nat.le_refl _, fun _ _ _ _ _ h => h⟩
theorem KeepsBut.trans {C : Nat} {A B D : World} (h : KeepsBut C A B) (k : KeepsBut C B D) : KeepsBut C A D := ⟨Nat.le_trans h.size k.size, fun i cs t fr hi h0 => k.same i cs t fr hi (h.same i cs t fr hi h0)⟩
theorem KeepsBut.putObj {C : Nat} (W : World) (l : Nat) (o o' : Obj) (h : W.heap[l]? = some o) (hc : o.isCells = false) : KeepsBut C W (W.putObj l o') :=
  ⟨(grownBy_putObj' W l o').size, fun k cs t fr _ h0 => by
    by_cases e : k = l
    · subst e
      rw [h] at h0
      cases h0
      cases hc
    · exact ((grownBy_putObj' W l o').block k (Array.getElem?_eq_some_iff.1 h0).1 (by simpa using e)).trans h0⟩
theorem KeepsBut.of_below {C : Nat} {A B : World} (h : Below A.heap.size A B) : KeepsBut C A B := ⟨h.size, fun k _ _ _ _ h0 => (h.block k (Array.getElem?_eq_some_iff.1 h0).1).trans h0⟩
theorem KeepsBut.setRow {C : Nat} (A : World) (cs : Array Value) : KeepsBut C A (A.setRow C cs) := ⟨by simp, fun k _ _ _ hk h0 => (setRow_other A C k cs hk).trans h0⟩
theorem KeepsBut.at_ {C g : Nat} {A B : World} {cs : Array Value} {t : TypeId} (h : KeepsBut C A B) (hA : At A g cs t) (hg : g ≠ C) : At B g cs t := h.same g cs t (0, 0) hg hA
theorem grown_of_below {A B : World} (h : Below A.heap.size A B) : A.grownBy B none := ⟨h.os, h.tape, h.output, h.size, fun k hk _ => h.block k hk⟩
theorem others_of_below {A B : World} (h : Below A.heap.size A B) : KeepsOthers A B := ⟨h.size, fun k _ hk _ => (h.block k (Array.getElem?_eq_some_iff.1 hk).1).trans hk⟩
theorem others_setRow {A : World} {C : Nat} {cs ds : Array Value} {t : TypeId} (h : At A C ds t) : KeepsOthers A (A.setRow C cs) := ⟨by simp, fun k _ hk ho => by
  by_cases e : k = C
  · subst e
    have h' : A.heap[k]? = some (.cells ds t (0, 0)) := h
    rw [h'] at hk
    cases hk
    cases ho
  · exact (setRow_other A C k cs e).trans hk⟩
/-- What speaks of a row abides what the loop does beside the body. -/
theorem at_own (g : Nat) (t : TypeId) {β : Type} (f : β → Array Value) : Own (fun (x : β) W => At W g (f x) t) := fun x _ _ _ hs hg hr =>
  (hg.block g hs.lt (fun e => by
    obtain ⟨_, ho, hc⟩ := hr g e.symm
    have h' : _ = some (Obj.cells (f x) t (0, 0)) := hs
    rw [h'] at ho
    cases ho
    cases hc)).trans hs
end Go.Proofs.YtjfpdbhjbleffaaDoor
