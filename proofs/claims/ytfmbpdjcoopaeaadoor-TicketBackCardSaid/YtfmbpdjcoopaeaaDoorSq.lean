/-
  Sealed blocks, and blocks, compared.
-/
import Derived.Test.YtfmbpdjcoopaeaaDoorV3
import Derived.Laws.StructEq
namespace Go.Proofs.YtfmbpdjcoopaeaaDoor
open Go.RowKit

theorem plain64 : Tryd.prog.plainKey 32 = true := by kernel_rfl
theorem run_eqFields3 {P : Program} (w : World) (d : Nat) (xs ys : Array Value) (f1 f2 f3 : Field) (n1 : f1.name ≠ "_") (n2 : f2.name ≠ "_") (n3 : f3.name ≠ "_") (a1 a2 a3 b1 b2 b3 : Value) (r1 r2 r3 : Bool)
    (x1 : (part f1.type xs f1.offset).run P w = .ok a1 w) (y1 : (part f1.type ys f1.offset).run P w = .ok b1 w) (e1 : (Op.equalIn d f1.type a1 b1).run P w = .ok r1 w)
    (x2 : (part f2.type xs f2.offset).run P w = .ok a2 w) (y2 : (part f2.type ys f2.offset).run P w = .ok b2 w) (e2 : (Op.equalIn d f2.type a2 b2).run P w = .ok r2 w)
    (x3 : (part f3.type xs f3.offset).run P w = .ok a3 w) (y3 : (part f3.type ys f3.offset).run P w = .ok b3 w) (e3 : (Op.equalIn d f3.type a3 b3).run P w = .ok r3 w) :
    (Op.eqFields d xs ys [f1, f2, f3]).run P w = .ok (r1 && r2 && r3) w := by
  unfold Op.eqFields
  rw [if_pos n1]
  simp only [Sem.run_bind, x1, y1, e1, Result.andThen_ok]
  cases r1
  · simp
  simp only [Bool.not_true, Bool.false_eq_true, if_false]
  unfold Op.eqFields
  rw [if_pos n2]
  simp only [Sem.run_bind, x2, y2, e2, Result.andThen_ok]
  cases r2
  · simp
  simp only [Bool.not_true, Bool.false_eq_true, if_false]
  unfold Op.eqFields
  rw [if_pos n3]
  simp only [Sem.run_bind, x3, y3, e3, Result.andThen_ok]
  cases r3
  · simp
  simp [Op.eqFields]
theorem run_part_row {P : Program} (w : World) {t e : TypeId} {n : Nat} (hu : P.underlying t = some (.array n e)) (l a m z : List Value) (el : l = a ++ (m ++ z)) (hi : (P.info? t).map (·.size) = some m.length) : (part t l.toArray a.length).run P w = .ok (.agg m.toArray) w := by
  cases h : P.info? t with
  | none => rw [h] at hi; cases hi
  | some i =>
    have hs : i.size = m.length := by rw [h] at hi; simpa using hi
    subst el
    simp [part, isAgg, run_underlying hu, sizeOf, typeInfo, h, hs]
theorem part_data (w : World) (e : Nat) (d t : List UInt8) (hd : d.length = 32) : (part 35 (sv e d t).toArray 1).run Tryd.prog w = .ok (.agg (ubs d).toArray) w :=
  run_part_row w Tryd.underlying35 (sv e d t) [.int .u64 (e : Int)] (ubs d) (ubs t) rfl (by rw [sizeBk, ubs_length, hd])
theorem part_tag (w : World) (e : Nat) (d t : List UInt8) (hd : d.length = 32) (ht : t.length = 16) : (part 30 (sv e d t).toArray 33).run Tryd.prog w = .ok (.agg (ubs t).toArray) w := by
  have := run_part_row (P := Tryd.prog) w Tryd.underlying30 (sv e d t) (.int .u64 (e : Int) :: ubs d) (ubs t) [] (by simp [sv]) (by rw [size16, ubs_length, ht])
  rw [List.length_cons, ubs_length, hd] at this
  exact this
theorem run_eq_blk (w : World) (a b : List UInt8) (ha : a.length = 32) (hb : b.length = 32) (d : Nat) :
    (Op.equalIn (d + 2) 35 (.agg (ubs a).toArray) (.agg (ubs b).toArray)).run Tryd.prog w = .ok (a == b) w := by
  obtain ⟨i, hi⟩ : ∃ i, Tryd.prog.info? 5 = some i := by
    have := sizeU8
    cases h : Tryd.prog.info? 5 with
    | none => simp [h] at this
    | some i => exact ⟨i, rfl⟩
  rw [run_equalIn_array w (d + 1) _ _ Tryd.underlying35 hi, cellsB, List.range_eq_range', run_eqItems_ub w d a b (by omega) 32 0 (by omega)]
  simp
theorem run_eq_psv (w : World) (e f : Nat) (d d' t t' : List UInt8) (hd : d.length = 32) (hd' : d'.length = 32) (ht : t.length = 16) (ht' : t'.length = 16) (D : Nat) :
    (Op.equalIn (D + 3) 37 (.agg (sv e d t).toArray) (.agg (sv f d' t').toArray)).run Tryd.prog w = .ok (e == f && d == d' && t == t') w := by
  have hs : Tryd.prog.underlying 37 = some (.struct (Tryd.prog.fieldsOf 37)) := by
    unfold Program.fieldsOf
    rw [Tryd.underlying37]
  rw [run_equalIn_struct w (D + 2) _ _ _ hs (by kernel_rfl)]
  have p1 := fun (e : Nat) (d t : List UInt8) => run_part_plain (P := Tryd.prog) w plain64 (xs := (sv e d t).toArray) (off := 0) (v := .int .u64 (e : Int)) rfl
  have p2 := fun (e : Nat) (d t : List UInt8) (hd : d.length = 32) => part_data w e d t hd
  have p3 := fun (e : Nat) (d t : List UInt8) (hd : d.length = 32) (ht : t.length = 16) => part_tag w e d t hd ht
  have q1 := run_equalIn_int (P := Tryd.prog) w (D + 1) 32 .u64 .u64 (e : Int) (f : Int) Tryd.underlying32
  have q2 := run_eq_blk w d d' hd hd' D
  have q3 := run_eq_block w t t' ht ht' D
  have ef : ∃ f1 f2 f3 : Field, (Tryd.prog.fieldsOf 37).toList = [f1, f2, f3] ∧ (f1.name ≠ "_" ∧ f1.type = 32 ∧ f1.offset = 0) ∧ (f2.name ≠ "_" ∧ f2.type = 35 ∧ f2.offset = 1) ∧ (f3.name ≠ "_" ∧ f3.type = 30 ∧ f3.offset = 33) := by
    unfold Program.fieldsOf
    rw [Tryd.underlying37]
    exact ⟨_, _, _, rfl, ⟨by decide, rfl, rfl⟩, ⟨by decide, rfl, rfl⟩, ⟨by decide, rfl, rfl⟩⟩
  obtain ⟨f1, f2, f3, el, ⟨n1, t1, o1⟩, ⟨n2, t2, o2⟩, ⟨n3, t3, o3⟩⟩ := ef
  rw [el, run_eqFields3 w (D + 2) _ _ f1 f2 f3 n1 n2 n3 _ _ _ _ _ _ _ _ _ (by rw [t1, o1]; exact p1 e d t) (by rw [t1, o1]; exact p1 f d' t') (by rw [t1]; exact q1) (by rw [t2, o2]; exact p2 e d t hd) (by rw [t2, o2]; exact p2 f d' t' hd') (by rw [t2]; exact q2) (by rw [t3, o3]; exact p3 e d t hd ht) (by rw [t3, o3]; exact p3 f d' t' hd' ht') (by rw [t3]; exact q3)]
  have ee : ((e : Int) == (f : Int)) = (e == f) := by
    by_cases h : e = f
    · simp [h]
    · rw [beq_eq_false_iff_ne.2 h, beq_eq_false_iff_ne.2 (by omega)]
  rw [ee]
theorem guard_psv : Tryd.prog.eqGuardType Tryd.prog.depth 37 = false := by kernel_rfl
theorem run_neq_psv {o : Oper} {a : Go.Act} (t2 : TypeId) (x y : Operand) (ho : o.op = .binOp .neq 37 x y t2) (e f : Nat) (d d' t t' : List UInt8) (hd : d.length = 32) (hd' : d'.length = 32) (ht : t.length = 16) (ht' : t'.length = 16) (hx : a.eval x = .agg (sv e d t).toArray) (hy : a.eval y = .agg (sv f d' t').toArray) (r : Bool) (hr : (e == f && d == d' && t == t') = !r) (w : World) :
    (execOp a.eval o).run Tryd.prog w = .ok (.value (.bool r)) w :=
  run_neq_op _ _ x y ho _ _ hx hy guard_psv r w (by rw [run_neq_struct, run_eq_psv w e f d d' t t' hd hd' ht ht' 9997, hr]; cases r <;> rfl)
end Go.Proofs.YtfmbpdjcoopaeaaDoor
