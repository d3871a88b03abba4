/-
  Comparing two hashes, and two states.
-/
import Derived.Test.YtjfpdbhjbleffaaDoorCm
import Derived.Test.YtjfpdbhjbleffaaDoorSm
import Derived.ChangeKeysEq
namespace Go.Proofs.YtjfpdbhjbleffaaDoor
open Go.RowKit

theorem plainW : Tryd.prog.plainKey 71 = true := by kernel_rfl
theorem cellsW : Tryd.prog.cellsOf 71 = 1 := by kernel_rfl
theorem run_eq_hash (w : World) (a b : List UInt8) (ha : a.length = 32) (hb : b.length = 32) (d : Nat) :
    (Op.equalIn (d + 2) 27 (.agg (ubs a).toArray) (.agg (ubs b).toArray)).run Tryd.prog w = .ok (a == b) w := by
  obtain ⟨i, hi⟩ : ∃ i, Tryd.prog.info? 5 = some i := by
    have := sizeU8
    cases h : Tryd.prog.info? 5 with
    | none => simp [h] at this
    | some i => exact ⟨i, rfl⟩
  rw [run_equalIn_array w (d + 1) _ _ Tryd.underlying27 hi, cellsB, List.range_eq_range', run_eqItems_ub w d a b (by omega) 32 0 (by omega)]
  simp
theorem eql_hash (w : World) (a b : List UInt8) (ha : a.length = 32) (hb : b.length = 32) : (binOp .eql 27 (.agg (ubs a).toArray) (.agg (ubs b).toArray)).run Tryd.prog w = .ok (.bool (a == b)) w := by
  rw [run_eql_struct, run_eq_hash w a b ha hb 9998]
  rfl
/-- A state compared with itself. -/
theorem run_eqItems_us (w : World) (d : Nat) (a : List (BitVec 32)) : ∀ (m k : Nat), k + m = a.length →
    (Op.eqItems (d + 1) 71 1 (us a).toArray (us a).toArray (List.range' k m)).run Tryd.prog w = .ok true w := by
  intro m
  induction m with
  | zero =>
    intro k _
    simp [Op.eqItems]
  | succ m ih =>
    intro k hk
    have ha : k < a.length := by omega
    have p1 := run_part_plain (P := Tryd.prog) w plainW (xs := (us a).toArray) (off := k * 1) (v := .int .u32 (a[k].toNat : Int)) (by rw [Nat.mul_one, List.getElem?_toArray, us_get, List.getElem?_eq_getElem ha]; rfl)
    have p3 := run_equalIn_int (P := Tryd.prog) w d 71 .u32 .u32 (a[k].toNat : Int) (a[k].toNat : Int) Tryd.underlying71
    rw [List.range'_succ]
    simp only [Op.eqItems, Sem.run_bind, p1, p3, Result.andThen_ok]
    have e1 : (((a[k].toNat : Int) == (a[k].toNat : Int))) = true := by simp
    simp only [e1, Bool.not_true, Bool.false_eq_true, if_false]
    exact ih (k + 1) (by omega)
theorem run_eq_state (w : World) (a : List (BitVec 32)) (ha : a.length = 8) : (Op.equalIn 10000 72 (.agg (us a).toArray) (.agg (us a).toArray)).run Tryd.prog w = .ok true w := by
  obtain ⟨i, hi⟩ : ∃ i, Tryd.prog.info? 71 = some i := by
    have := sizeU32
    cases h : Tryd.prog.info? 71 with
    | none => simp [h] at this
    | some i => exact ⟨i, rfl⟩
  rw [run_equalIn_array w (9998 + 1) _ _ Tryd.underlying72 hi, cellsW, List.range_eq_range', run_eqItems_us w 9998 a 8 0 (by omega)]
theorem eql_state (w : World) (a : List (BitVec 32)) (ha : a.length = 8) : (binOp .eql 72 (.agg (us a).toArray) (.agg (us a).toArray)).run Tryd.prog w = .ok (.bool true) w := by
  rw [run_eql_struct, run_eq_state w a ha]
  rfl
theorem guardS8 : Tryd.prog.eqGuardType Tryd.prog.depth 72 = false := by kernel_rfl
theorem guardH : Tryd.prog.eqGuardType Tryd.prog.depth 27 = false := by kernel_rfl
end Go.Proofs.YtjfpdbhjbleffaaDoor
