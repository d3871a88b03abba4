/-
  Sealed blocks, and blocks, compared.
-/
import Derived.Test.YthkbmpocfpbkoaaDoorV3
import Derived.Laws.StructEq
namespace Go.Proofs.YthkbmpocfpbkoaaDoor
open Go.RowKit

theorem plain64 : Tryd.prog.plainKey 33 = true := by kernel_rfl
theorem run_eqFields3 {P : Program} (w : World) (d : Nat) (xs ys : Array Value) (f1 f2 f3 : Field) (n1 : f1.name ≠ "_") (n2 : f2.name ≠ "_") (n3 : f3.name ≠ "_") (a1 a2 a3 b1 b2 b3 : Value) (r1 r2 r3 : Bool)
    (x1 : (part f1.type xs f1.offset).run P w = .ok a1 w) (y1 : (part f1.type ys f1.offset).run P w = .ok b1 w) (e1 : (Op.equalIn d f1.type a1 b1).run P w = .ok r1 w)
    (x2 : (part f2.type xs f2.offset).run P w = .ok a2 w) (y2 : (part f2.type ys f2.offset).run P w = .ok b2 w) (e2 : (Op.equalIn d f2.type a2 b2).run P w = .ok r2 w)
    (x3 : (part f3.type xs f3.offset).run P w = .ok a3 w) (y3 : (part f3.type ys f3.offset).run P w = .ok b3 w) (e3 : (Op.equalIn d f3.type a3 b3).run P w = .ok r3 w) :
    (Op.eqFields d xs ys [f1, f2, f3]).run P w = .ok (r1 && r2 && r3) w := by
  unfold Op.eqFields
  rw [if_pos n1]
  simp only [Sem.run_bind, x1, y1, e1, Result.andThen_ok]
  cases r1
  · simp
  simp only [Bool.not_true, Bool.false_eq_true, if_false]
  unfold Op.eqFields
  rw [if_pos n2]
  simp only [Sem.run_bind, x2, y2, e2, Result.andThen_ok]
  cases r2
  · simp
  simp only [Bool.not_true, Bool.false_eq_true, if_false]
  unfold Op.eqFields
  rw [if_pos n3]
  simp only [Sem.run_bind, x3, y3, e3, Result.andThen_ok]
  cases r3
  · simp
  simp [Op.eqFields]
theorem run_part_row {P : Program} (w : World) {t e : TypeId} {n : Nat} (hu : P.underlying t = some (.array n e)) (l a m z : List Value) (el : l = a ++ (m ++ z)) (hi : (P.info? t).map (·.size) = some m.length) : (part t l.toArray a.length).run P w = .ok (.agg m.toArray) w := by
  cases h : P.info? t with
  | none => rw [h] at hi; cases hi
  | some i =>
    have hs : i.size = m.length := by rw [h] at hi; simpa using hi
    subst el
    simp [part, isAgg, run_underlying hu, sizeOf, typeInfo, h, hs]
end Go.Proofs.YthkbmpocfpbkoaaDoor
