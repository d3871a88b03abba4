/-
  Places compared, loaded; Seal's answer where the place is right, and where it isn't.
-/
import Derived.Test.YtnaihcoafgigcaaDoorUm
import Derived.Test.YtnaihcoafgigcaaDoorSq
namespace Go.Proofs.YtnaihcoafgigcaaDoor
open Go.RowKit

theorem run_eqFields2 {P : Program} (w : World) (d : Nat) (xs ys : Array Value) (f1 f2 : Field) (n1 : f1.name ≠ "_") (n2 : f2.name ≠ "_") (a1 a2 b1 b2 : Value) (r1 r2 : Bool)
    (x1 : (part f1.type xs f1.offset).run P w = .ok a1 w) (y1 : (part f1.type ys f1.offset).run P w = .ok b1 w) (e1 : (Op.equalIn d f1.type a1 b1).run P w = .ok r1 w)
    (x2 : (part f2.type xs f2.offset).run P w = .ok a2 w) (y2 : (part f2.type ys f2.offset).run P w = .ok b2 w) (e2 : (Op.equalIn d f2.type a2 b2).run P w = .ok r2 w) :
    (Op.eqFields d xs ys [f1, f2]).run P w = .ok (r1 && r2) w := by
  unfold Op.eqFields
  rw [if_pos n1]
  simp only [Sem.run_bind, x1, y1, e1, Result.andThen_ok]
  cases r1
  · simp
  simp only [Bool.not_true, Bool.false_eq_true, if_false]
  unfold Op.eqFields
  rw [if_pos n2]
  simp only [Sem.run_bind, x2, y2, e2, Result.andThen_ok]
  cases r2
  · simp
  simp [Op.eqFields]
theorem beq_cast (e f : Nat) : ((e : Int) == (f : Int)) = (e == f) := by
  by_cases h : e = f
  · simp [h]
  · rw [beq_eq_false_iff_ne.2 h, beq_eq_false_iff_ne.2 (by omega)]
theorem run_eq_pl (w : World) (i e j f : Nat) (D : Nat) :
    (Op.equalIn (D + 3) 26 (.agg #[.int .u64 (i : Int), .int .u64 (e : Int)]) (.agg #[.int .u64 (j : Int), .int .u64 (f : Int)])).run Tryd.prog w = .ok (i == j && e == f) w := by
  have hs : Tryd.prog.underlying 26 = some (.struct (Tryd.prog.fieldsOf 26)) := by
    unfold Program.fieldsOf
    rw [Tryd.underlying26]
  rw [run_equalIn_struct w (D + 2) _ _ _ hs (by kernel_rfl)]
  have p1 := fun (i e : Nat) => run_part_plain (P := Tryd.prog) w plain64 (xs := #[.int .u64 (i : Int), .int .u64 (e : Int)]) (off := 0) (v := .int .u64 (i : Int)) rfl
  have p2 := fun (i e : Nat) => run_part_plain (P := Tryd.prog) w plain64 (xs := #[.int .u64 (i : Int), .int .u64 (e : Int)]) (off := 1) (v := .int .u64 (e : Int)) rfl
  have q1 := run_equalIn_int (P := Tryd.prog) w (D + 1) 24 .u64 .u64 (i : Int) (j : Int) Tryd.underlying24
  have q2 := run_equalIn_int (P := Tryd.prog) w (D + 1) 24 .u64 .u64 (e : Int) (f : Int) Tryd.underlying24
  have ef : ∃ f1 f2 : Field, (Tryd.prog.fieldsOf 26).toList = [f1, f2] ∧ (f1.name ≠ "_" ∧ f1.type = 24 ∧ f1.offset = 0) ∧ (f2.name ≠ "_" ∧ f2.type = 24 ∧ f2.offset = 1) := by
    unfold Program.fieldsOf
    rw [Tryd.underlying26]
    exact ⟨_, _, rfl, ⟨by decide, rfl, rfl⟩, ⟨by decide, rfl, rfl⟩⟩
  obtain ⟨f1, f2, el, ⟨n1, t1, o1⟩, ⟨n2, t2, o2⟩⟩ := ef
  rw [el, run_eqFields2 w (D + 2) _ _ f1 f2 n1 n2 _ _ _ _ _ _ (by rw [t1, o1]; exact p1 i e) (by rw [t1, o1]; exact p1 j f) (by rw [t1]; exact q1) (by rw [t2, o2]; exact p2 i e) (by rw [t2, o2]; exact p2 j f) (by rw [t2]; exact q2)]
  rw [beq_cast, beq_cast]
theorem guard_pl : Tryd.prog.eqGuardType Tryd.prog.depth 26 = false := by kernel_rfl
theorem run_eql_pl {o : Oper} {a : Go.Act} (t2 : TypeId) (x y : Operand) (ho : o.op = .binOp .eql 26 x y t2) (i e j f : Nat) (hx : a.eval x = .agg #[.int .u64 (i : Int), .int .u64 (e : Int)]) (hy : a.eval y = .agg #[.int .u64 (j : Int), .int .u64 (f : Int)]) (r : Bool) (hr : (i == j && e == f) = r) (w : World) :
    (execOp a.eval o).run Tryd.prog w = .ok (.value (.bool r)) w :=
  run_eql_op _ _ x y ho _ _ hx hy guard_pl r w (by rw [run_eql_struct, run_eq_pl w i e j f 9997, hr]; rfl)
theorem sizePl : (Tryd.prog.info? 26).map (·.size) = some 2 := by kernel_rfl
theorem run_loadPl {o : Oper} {a : Go.Act} {W : World} (x : Operand) (ho : o.op = .load 26 x) (b off : Nat) (hx : a.eval x = .pointer (some ⟨b, off, none⟩)) (l : List Value) (hc : W.rangeAt b off l) (hl : l.length = 2) : (execOp a.eval o).run Tryd.prog W = .ok (.value (.agg l.toArray)) W :=
  run_load_part _ x ho b off hx l _ hc Tryd.underlying26 rfl (by rw [sizePl, hl])
/-- Two places in memory. -/
def pl4 (i e j f : Nat) : List Value := [.int .u64 (i : Int), .int .u64 (e : Int), .int .u64 (j : Int), .int .u64 (f : Int)]
section
variable {W : World} {g i e j f : Nat} {T : TypeId}
theorem pl4_r0 (h : At W g (pl4 i e j f).toArray T) : W.rangeAt g 0 [.int .u64 (i : Int), .int .u64 (e : Int)] :=
  range_vals (a := []) (m := [.int .u64 (i : Int), .int .u64 (e : Int)]) (z := [.int .u64 (j : Int), .int .u64 (f : Int)]) h rfl
theorem pl4_r1 (h : At W g (pl4 i e j f).toArray T) : W.rangeAt g 2 [.int .u64 (j : Int), .int .u64 (f : Int)] :=
  range_vals (a := [.int .u64 (i : Int), .int .u64 (e : Int)]) (m := [.int .u64 (j : Int), .int .u64 (f : Int)]) (z := []) h rfl
theorem pl4_q0 (h : At W g (pl4 i e j f).toArray T) : W.cell? ⟨g, 0, none⟩ = some (.int .u64 (i : Int)) := by rw [h.cell]; rfl
theorem pl4_q1 (h : At W g (pl4 i e j f).toArray T) : W.cell? ⟨g, 1, none⟩ = some (.int .u64 (e : Int)) := by rw [h.cell]; rfl
theorem pl4_q2 (h : At W g (pl4 i e j f).toArray T) : W.cell? ⟨g, 2, none⟩ = some (.int .u64 (j : Int)) := by rw [h.cell]; rfl
theorem pl4_q3 (h : At W g (pl4 i e j f).toArray T) : W.cell? ⟨g, 3, none⟩ = some (.int .u64 (f : Int)) := by rw [h.cell]; rfl
end
section
variable {key b : List UInt8} {i e S : Nat} {w : World}
theorem pseal_ok (hr : rightB i e = true) (hb : b.length = 32) (he : e < 18446744073709551616) (hs : SlA w key S) (hT : Tabs w) :
    Calls Tryd.prog 9 #[.pointer (some ⟨S, 0, none⟩), .int .u64 (i : Int), .int .u64 (e : Int), .agg (ubs b).toArray] w fun r w' => r = .returned (.tuple #[.agg (sv e (turnedL key i e b) (tagL key i e (turnedL key i e b))).toArray, .nilIface]) ∧ Below w.heap.size w w' := by
  have := pseal_any key b i e (some ⟨S, 0, none⟩) w hb he (Or.inr ⟨S, rfl, hs⟩) hT
  rw [sealL_right _ _ _ _ hr, hr] at this
  exact this
theorem pseal_no (hr : rightB i e = false) (hb : b.length = 32) (he : e < 18446744073709551616) (hs : SlA w key S) (hT : Tabs w) :
    Calls Tryd.prog 9 #[.pointer (some ⟨S, 0, none⟩), .int .u64 (i : Int), .int .u64 (e : Int), .agg (ubs b).toArray] w fun r w' => r = .returned (.tuple #[.agg (sv 0 n32 n16).toArray, .iface 43 (.int .i64 1)]) ∧ Below w.heap.size w w' := by
  have := pseal_any key b i e (some ⟨S, 0, none⟩) w hb he (Or.inr ⟨S, rfl, hs⟩) hT
  rw [sealL_wrong _ _ _ _ hr, hr] at this
  exact this
end
end Go.Proofs.YtnaihcoafgigcaaDoor
