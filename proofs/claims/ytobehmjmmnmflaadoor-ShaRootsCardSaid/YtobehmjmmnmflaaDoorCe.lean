/-
  Comparing two hashes, and two states.
-/
import Derived.Test.YtobehmjmmnmflaaDoorAv
import Derived.ChangeKeysEq
namespace Go.Proofs.YtobehmjmmnmflaaDoor
open Go.RowKit

theorem plainB : Tryd.prog.plainKey 5 = true := by kernel_rfl
theorem cellsB : Tryd.prog.cellsOf 5 = 1 := by kernel_rfl
theorem plainW : Tryd.prog.plainKey 23 = true := by kernel_rfl
theorem cellsW : Tryd.prog.cellsOf 23 = 1 := by kernel_rfl
theorem run_eqItems_ub (w : World) (d : Nat) (a b : List UInt8) (hl : a.length = b.length) : ∀ (m k : Nat), k + m = a.length →
    (Op.eqItems (d + 1) 5 1 (ubs a).toArray (ubs b).toArray (List.range' k m)).run Tryd.prog w = .ok (a.drop k == b.drop k) w := by
  intro m
  induction m with
  | zero =>
    intro k hk
    have h1 : a.drop k = [] := List.drop_eq_nil_of_le (by omega)
    have h2 : b.drop k = [] := List.drop_eq_nil_of_le (by omega)
    simp [Op.eqItems, h1, h2]
  | succ m ih =>
    intro k hk
    have ha : k < a.length := by omega
    have hb : k < b.length := by omega
    have p1 := run_part_plain (P := Tryd.prog) w plainB (xs := (ubs a).toArray) (off := k * 1) (v := .int .u8 (a[k].toNat : Int)) (by rw [Nat.mul_one, List.getElem?_toArray]; exact ubs_at ha)
    have p2 := run_part_plain (P := Tryd.prog) w plainB (xs := (ubs b).toArray) (off := k * 1) (v := .int .u8 (b[k].toNat : Int)) (by rw [Nat.mul_one, List.getElem?_toArray]; exact ubs_at hb)
    have p3 := run_equalIn_int (P := Tryd.prog) w d 5 .u8 .u8 (a[k].toNat : Int) (b[k].toNat : Int) Tryd.underlying5
    rw [List.range'_succ]
    simp only [Op.eqItems, Sem.run_bind, p1, p2, p3, Result.andThen_ok]
    rw [List.drop_eq_getElem_cons ha, List.drop_eq_getElem_cons hb]
    by_cases he : a[k] = b[k]
    · have e1 : (((a[k].toNat : Int) == (b[k].toNat : Int))) = true := by rw [he]; simp
      simp only [e1, Bool.not_true, Bool.false_eq_true, if_false]
      rw [ih (k + 1) (by omega), List.cons_beq_cons, he]
      simp only [beq_self_eq_true, Bool.true_and]
    · have e1 : (((a[k].toNat : Int) == (b[k].toNat : Int))) = false := by
        simp only [beq_eq_false_iff_ne, ne_eq]
        exact fun h => he (UInt8.toNat_inj.1 (by omega))
      have e2 : (a[k] == b[k]) = false := by simpa using he
      simp only [e1, Bool.not_false, if_true, Sem.run_pure]
      rw [List.cons_beq_cons, e2]
      rfl
theorem run_eq_hash (w : World) (a b : List UInt8) (ha : a.length = 32) (hb : b.length = 32) (d : Nat) :
    (Op.equalIn (d + 2) 36 (.agg (ubs a).toArray) (.agg (ubs b).toArray)).run Tryd.prog w = .ok (a == b) w := by
  obtain ⟨i, hi⟩ : ∃ i, Tryd.prog.info? 5 = some i := by
    have := sizeU8
    cases h : Tryd.prog.info? 5 with
    | none => simp [h] at this
    | some i => exact ⟨i, rfl⟩
  rw [run_equalIn_array w (d + 1) _ _ Tryd.underlying36 hi, cellsB, List.range_eq_range', run_eqItems_ub w d a b (by omega) 32 0 (by omega)]
  simp
theorem eql_hash (w : World) (a b : List UInt8) (ha : a.length = 32) (hb : b.length = 32) : (binOp .eql 36 (.agg (ubs a).toArray) (.agg (ubs b).toArray)).run Tryd.prog w = .ok (.bool (a == b)) w := by
  rw [run_eql_struct, run_eq_hash w a b ha hb 9998]
  rfl
/-- A state compared with itself. -/
theorem run_eqItems_us (w : World) (d : Nat) (a : List (BitVec 32)) : ∀ (m k : Nat), k + m = a.length →
    (Op.eqItems (d + 1) 23 1 (us a).toArray (us a).toArray (List.range' k m)).run Tryd.prog w = .ok true w := by
  intro m
  induction m with
  | zero =>
    intro k _
    simp [Op.eqItems]
  | succ m ih =>
    intro k hk
    have ha : k < a.length := by omega
    have p1 := run_part_plain (P := Tryd.prog) w plainW (xs := (us a).toArray) (off := k * 1) (v := .int .u32 (a[k].toNat : Int)) (by rw [Nat.mul_one, List.getElem?_toArray, us_get, List.getElem?_eq_getElem ha]; rfl)
    have p3 := run_equalIn_int (P := Tryd.prog) w d 23 .u32 .u32 (a[k].toNat : Int) (a[k].toNat : Int) Tryd.underlying23
    rw [List.range'_succ]
    simp only [Op.eqItems, Sem.run_bind, p1, p3, Result.andThen_ok]
    have e1 : (((a[k].toNat : Int) == (a[k].toNat : Int))) = true := by simp
    simp only [e1, Bool.not_true, Bool.false_eq_true, if_false]
    exact ih (k + 1) (by omega)
theorem run_eq_state (w : World) (a : List (BitVec 32)) (ha : a.length = 8) : (Op.equalIn 10000 32 (.agg (us a).toArray) (.agg (us a).toArray)).run Tryd.prog w = .ok true w := by
  obtain ⟨i, hi⟩ : ∃ i, Tryd.prog.info? 23 = some i := by
    have := sizeU32
    cases h : Tryd.prog.info? 23 with
    | none => simp [h] at this
    | some i => exact ⟨i, rfl⟩
  rw [run_equalIn_array w (9998 + 1) _ _ Tryd.underlying32 hi, cellsW, List.range_eq_range', run_eqItems_us w 9998 a 8 0 (by omega)]
theorem eql_state (w : World) (a : List (BitVec 32)) (ha : a.length = 8) : (binOp .eql 32 (.agg (us a).toArray) (.agg (us a).toArray)).run Tryd.prog w = .ok (.bool true) w := by
  rw [run_eql_struct, run_eq_state w a ha]
  rfl
theorem guardS8 : Tryd.prog.eqGuardType Tryd.prog.depth 32 = false := by kernel_rfl
theorem guardH : Tryd.prog.eqGuardType Tryd.prog.depth 36 = false := by kernel_rfl
theorem run_eql_op {o : Oper} {a : Go.Act} (T t2 : TypeId) (x y : Operand) (ho : o.op = .binOp .eql T x y t2) (u v : Array Value) (hx : a.eval x = .agg u) (hy : a.eval y = .agg v) (hgt : Tryd.prog.eqGuardType Tryd.prog.depth T = false) (b : Bool) (w : World) (h : (binOp .eql T (.agg u) (.agg v)).run Tryd.prog w = .ok (.bool b) w) :
    (execOp a.eval o).run Tryd.prog w = .ok (.value (.bool b)) w := by
  unfold execOp
  simp only [ho, hx, hy, Sem.run_bind]
  have hg : (eqGuard .eql T x y (.agg u) (.agg v)).run Tryd.prog w = .ok () w := run_eqGuard_agg w .eql T x y u v hgt
  rw [hg]
  simp only [Result.andThen_ok, h, Sem.run_pure]
end Go.Proofs.YtobehmjmmnmflaaDoor
