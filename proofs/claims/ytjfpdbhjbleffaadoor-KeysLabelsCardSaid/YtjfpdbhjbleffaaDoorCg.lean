/-
  Keys and hashes compared, by one operation.
-/
import Derived.Test.YtjfpdbhjbleffaaDoorCe
import Derived.Test.YtjfpdbhjbleffaaDoorMr
namespace Go.Proofs.YtjfpdbhjbleffaaDoor
open Go.RowKit

theorem run_eq_key (w : World) (a b : List UInt8) (ha : a.length = 16) (hb : b.length = 16) (d : Nat) :
    (Op.equalIn (d + 2) 23 (.agg (ubs a).toArray) (.agg (ubs b).toArray)).run Tryd.prog w = .ok (a == b) w := by
  obtain ⟨i, hi⟩ : ∃ i, Tryd.prog.info? 5 = some i := by
    have := sizeU8
    cases h : Tryd.prog.info? 5 with
    | none => simp [h] at this
    | some i => exact ⟨i, rfl⟩
  rw [run_equalIn_array w (d + 1) _ _ Tryd.underlying23 hi, cellsB, List.range_eq_range', run_eqItems_ub w d a b (by omega) 16 0 (by omega)]
  simp
theorem guardK : Tryd.prog.eqGuardType Tryd.prog.depth 23 = false := by kernel_rfl
theorem run_eqlK {o : Oper} {a : Go.Act} (t2 : TypeId) (x y : Operand) (ho : o.op = .binOp .eql 23 x y t2) (u v : List UInt8) (hu : u.length = 16) (hv : v.length = 16) (hx : a.eval x = .agg (ubs u).toArray) (hy : a.eval y = .agg (ubs v).toArray) (r : Bool) (hr : (u == v) = r) (w : World) :
    (execOp a.eval o).run Tryd.prog w = .ok (.value (.bool r)) w :=
  run_eql_op _ _ x y ho _ _ hx hy guardK r w (by rw [run_eql_struct, run_eq_key w u v hu hv 9998, hr]; rfl)
theorem run_neqK {o : Oper} {a : Go.Act} (t2 : TypeId) (x y : Operand) (ho : o.op = .binOp .neq 23 x y t2) (u v : List UInt8) (hu : u.length = 16) (hv : v.length = 16) (hx : a.eval x = .agg (ubs u).toArray) (hy : a.eval y = .agg (ubs v).toArray) (r : Bool) (hr : (u == v) = !r) (w : World) :
    (execOp a.eval o).run Tryd.prog w = .ok (.value (.bool r)) w :=
  run_neq_op _ _ x y ho _ _ hx hy guardK r w (by rw [run_neq_struct, run_eq_key w u v hu hv 9998, hr]; cases r <;> rfl)
theorem run_eqlH {o : Oper} {a : Go.Act} (t2 : TypeId) (x y : Operand) (ho : o.op = .binOp .eql 27 x y t2) (u v : List UInt8) (hu : u.length = 32) (hv : v.length = 32) (hx : a.eval x = .agg (ubs u).toArray) (hy : a.eval y = .agg (ubs v).toArray) (r : Bool) (hr : (u == v) = r) (w : World) :
    (execOp a.eval o).run Tryd.prog w = .ok (.value (.bool r)) w :=
  run_eql_op _ _ x y ho _ _ hx hy guardH r w (by rw [run_eql_struct, run_eq_hash w u v hu hv 9998, hr]; rfl)
theorem run_neqH {o : Oper} {a : Go.Act} (t2 : TypeId) (x y : Operand) (ho : o.op = .binOp .neq 27 x y t2) (u v : List UInt8) (hu : u.length = 32) (hv : v.length = 32) (hx : a.eval x = .agg (ubs u).toArray) (hy : a.eval y = .agg (ubs v).toArray) (r : Bool) (hr : (u == v) = !r) (w : World) :
    (execOp a.eval o).run Tryd.prog w = .ok (.value (.bool r)) w :=
  run_neq_op _ _ x y ho _ _ hx hy guardH r w (by rw [run_neq_struct, run_eq_hash w u v hu hv 9998, hr]; cases r <;> rfl)
/-- A whole block of bytes, or a part of it, loaded. -/
theorem run_loadK {o : Oper} {a : Go.Act} {W : World} (x : Operand) (ho : o.op = .load 23 x) (b off : Nat) (hx : a.eval x = .pointer (some ⟨b, off, none⟩)) (l : List UInt8) (hc : W.rangeAt b off (ubs l)) (hl : l.length = 16) : (execOp a.eval o).run Tryd.prog W = .ok (.value (.agg (ubs l).toArray)) W :=
  run_load_part _ x ho b off hx (ubs l) _ hc Tryd.underlying23 rfl (by rw [sizeKey, ubs_length, hl])
theorem run_loadH {o : Oper} {a : Go.Act} {W : World} (x : Operand) (ho : o.op = .load 27 x) (b off : Nat) (hx : a.eval x = .pointer (some ⟨b, off, none⟩)) (l : List UInt8) (hc : W.rangeAt b off (ubs l)) (hl : l.length = 32) : (execOp a.eval o).run Tryd.prog W = .ok (.value (.agg (ubs l).toArray)) W :=
  run_load_part _ x ho b off hx (ubs l) _ hc Tryd.underlying27 rfl (by rw [sizeH, ubs_length, hl])
theorem range_whole {W : World} {g : Nat} {l : List UInt8} {t : TypeId} (h : At W g (ubs l).toArray t) : W.rangeAt g 0 (ubs l) := range_at (a := []) (m := l) (z := []) h (by simp)
end Go.Proofs.YtjfpdbhjbleffaaDoor
