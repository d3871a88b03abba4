/-
  Layer 13, the document's side: Same.
-/
import Derived.Test.YtfmbpdjcoopaeaaDoorM6
import Derived.Test.YtfmbpdjcoopaeaaDoorSq
import Derived.Test.YtfmbpdjcoopaeaaDoorV3
import Derived.Test.YtfmbpdjcoopaeaaDoorY1
namespace Go.Proofs.YtfmbpdjcoopaeaaDoor
open Go.RowKit

/-- An operation whose run is known. -/
theorem oper_valW {P : Program} {o : Oper} {a : Go.Act} {w w' : World} {K : Go.Act → World → Prop} {Q : Exit → Go.Act → World → Prop} {v : Value} (hrun : (execOp a.eval o).run P w = .ok (.value v) w') (h : K (a.put o.dst v) w') : o.wp P a w K Q := by
  unfold Oper.wp
  rw [hrun]
  exact h
theorem run_loadSvAt {o : Oper} {a : Go.Act} {W : World} (x : Operand) (ho : o.op = .load 44 x) (b off : Nat) (hx : a.eval x = .pointer (some ⟨b, off, none⟩)) (l : List Value) (hc : W.rangeAt b off l) (hl : l.length = 49) : (execOp a.eval o).run Tryd.prog W = .ok (.value (.agg l.toArray)) W :=
  run_load_part _ x ho b off hx l _ hc Tryd.underlying44 rfl (by rw [sizeSv, hl])
/-- An operation of a quiet walk whose run is known. -/
theorem quiet_runC {P : Program} {C : World → Prop} {a : Go.Act} {o : Oper} {K : Go.Act → Prop} {v : Value} (h : ∀ w, C w → (execOp a.eval o).run P w = .ok (.value v) w) (hk : K (a.put o.dst v)) : o.quiet P a C K :=
  ⟨v, fun w hw => by unfold Oper.quietAt; rw [h w hw]; exact ⟨rfl, rfl⟩, hk⟩
theorem sl_same (x : Sl13) : (x.1 == x.1 && x.2.1 == x.2.1 && x.2.2 == x.2.2) = !false := by simp
theorem sl_ne {x y : Sl13} (h : x ≠ y) : (x.1 == y.1 && x.2.1 == y.2.1 && x.2.2 == y.2.2) = !true := by
  obtain ⟨a, b, c⟩ := x
  obtain ⟨a', b', c'⟩ := y
  refine Bool.eq_false_iff.2 fun e => h ?_
  simp only [Bool.and_eq_true, beq_iff_eq] at e
  obtain ⟨⟨rfl, rfl⟩, rfl⟩ := e
  rfl
/-- Two tickets in memory. -/
structure SmW (w : World) (C D : List Value) (V : World) : Prop where
  bl : Below w.heap.size w V
  a : At V w.heap.size C.toArray 107
  b : At V (w.heap.size + 1) D.toArray 107
section
variable {w V V' : World} {C D : List Value}
theorem SmW.start : SmW w C D ((w.alloc (.cells C.toArray 107)).alloc (.cells D.toArray 107)) := ⟨((Below.refl _ _).alloc (Nat.le_refl _) _).alloc (by simp) _, (At.new _ _ _).alloc _, At.new_at (by simp)⟩
theorem SmW.new (k : SmW w C D V) (hb : Below V.heap.size V V') : SmW w C D V' := ⟨k.bl.trans (hb.mono k.bl.size), k.a.new_ hb, k.b.new_ hb⟩
theorem SmW.drewN (k : SmW w C D V) (n : Nat) : SmW w C D (V.drewN n) := ⟨below_drewN k.bl n, k.a, k.b⟩
end
end Go.Proofs.YtfmbpdjcoopaeaaDoor
