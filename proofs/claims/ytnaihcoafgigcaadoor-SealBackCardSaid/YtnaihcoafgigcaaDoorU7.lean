/-
  Places compared, loaded; Seal's answer where the place is right, and where it isn't.
  What SealBack wants: one bit turned in a sealed block's bytes; a block with bytes put in; whether an error is none.
-/
import Derived.Test.YtnaihcoafgigcaaDoorUm
import Derived.Test.YtnaihcoafgigcaaDoorSq
import Derived.Test.YtnaihcoafgigcaaDoorUg
namespace Go.Proofs.YtnaihcoafgigcaaDoor
open Go.RowKit

theorem run_eqFields2 {P : Program} (w : World) (d : Nat) (xs ys : Array Value) (f1 f2 : Field) (n1 : f1.name ≠ "_") (n2 : f2.name ≠ "_") (a1 a2 b1 b2 : Value) (r1 r2 : Bool)
    (x1 : (part f1.type xs f1.offset).run P w = .ok a1 w) (y1 : (part f1.type ys f1.offset).run P w = .ok b1 w) (e1 : (Op.equalIn d f1.type a1 b1).run P w = .ok r1 w)
    (x2 : (part f2.type xs f2.offset).run P w = .ok a2 w) (y2 : (part f2.type ys f2.offset).run P w = .ok b2 w) (e2 : (Op.equalIn d f2.type a2 b2).run P w = .ok r2 w) :
    (Op.eqFields d xs ys [f1, f2]).run P w = .ok (r1 && r2) w := by
  unfold Op.eqFields
  rw [if_pos n1]
  simp only [Sem.run_bind, x1, y1, e1, Result.andThen_ok]
  cases r1
  · simp
  simp only [Bool.not_true, Bool.false_eq_true, if_false]
  unfold Op.eqFields
  rw [if_pos n2]
  simp only [Sem.run_bind, x2, y2, e2, Result.andThen_ok]
  cases r2
  · simp
  simp [Op.eqFields]
theorem beq_cast (e f : Nat) : ((e : Int) == (f : Int)) = (e == f) := by
  by_cases h : e = f
  · simp [h]
  · rw [beq_eq_false_iff_ne.2 h, beq_eq_false_iff_ne.2 (by omega)]
theorem run_eq_pl (w : World) (i e j f : Nat) (D : Nat) :
    (Op.equalIn (D + 3) 26 (.agg #[.int .u64 (i : Int), .int .u64 (e : Int)]) (.agg #[.int .u64 (j : Int), .int .u64 (f : Int)])).run Tryd.prog w = .ok (i == j && e == f) w := by
  have hs : Tryd.prog.underlying 26 = some (.struct (Tryd.prog.fieldsOf 26)) := by
    unfold Program.fieldsOf
    rw [Tryd.underlying26]
  rw [run_equalIn_struct w (D + 2) _ _ _ hs (by kernel_rfl)]
  have p1 := fun (i e : Nat) => run_part_plain (P := Tryd.prog) w plain64 (xs := #[.int .u64 (i : Int), .int .u64 (e : Int)]) (off := 0) (v := .int .u64 (i : Int)) rfl
  have p2 := fun (i e : Nat) => run_part_plain (P := Tryd.prog) w plain64 (xs := #[.int .u64 (i : Int), .int .u64 (e : Int)]) (off := 1) (v := .int .u64 (e : Int)) rfl
  have q1 := run_equalIn_int (P := Tryd.prog) w (D + 1) 24 .u64 .u64 (i : Int) (j : Int) Tryd.underlying24
  have q2 := run_equalIn_int (P := Tryd.prog) w (D + 1) 24 .u64 .u64 (e : Int) (f : Int) Tryd.underlying24
  have ef : ∃ f1 f2 : Field, (Tryd.prog.fieldsOf 26).toList = [f1, f2] ∧ (f1.name ≠ "_" ∧ f1.type = 24 ∧ f1.offset = 0) ∧ (f2.name ≠ "_" ∧ f2.type = 24 ∧ f2.offset = 1) := by
    unfold Program.fieldsOf
    rw [Tryd.underlying26]
    exact ⟨_, _, rfl, ⟨by decide, rfl, rfl⟩, ⟨by decide, rfl, rfl⟩⟩
  obtain ⟨f1, f2, el, ⟨n1, t1, o1⟩, ⟨n2, t2, o2⟩⟩ := ef
  rw [el, run_eqFields2 w (D + 2) _ _ f1 f2 n1 n2 _ _ _ _ _ _ (by rw [t1, o1]; exact p1 i e) (by rw [t1, o1]; exact p1 j f) (by rw [t1]; exact q1) (by rw [t2, o2]; exact p2 i e) (by rw [t2, o2]; exact p2 j f) (by rw [t2]; exact q2)]
  rw [beq_cast, beq_cast]
theorem guard_pl : Tryd.prog.eqGuardType Tryd.prog.depth 26 = false := by kernel_rfl
theorem run_eql_pl {o : Oper} {a : Go.Act} (t2 : TypeId) (x y : Operand) (ho : o.op = .binOp .eql 26 x y t2) (i e j f : Nat) (hx : a.eval x = .agg #[.int .u64 (i : Int), .int .u64 (e : Int)]) (hy : a.eval y = .agg #[.int .u64 (j : Int), .int .u64 (f : Int)]) (r : Bool) (hr : (i == j && e == f) = r) (w : World) :
    (execOp a.eval o).run Tryd.prog w = .ok (.value (.bool r)) w :=
  run_eql_op _ _ x y ho _ _ hx hy guard_pl r w (by rw [run_eql_struct, run_eq_pl w i e j f 9997, hr]; rfl)
theorem sizePl : (Tryd.prog.info? 26).map (·.size) = some 2 := by kernel_rfl
theorem run_loadPl {o : Oper} {a : Go.Act} {W : World} (x : Operand) (ho : o.op = .load 26 x) (b off : Nat) (hx : a.eval x = .pointer (some ⟨b, off, none⟩)) (l : List Value) (hc : W.rangeAt b off l) (hl : l.length = 2) : (execOp a.eval o).run Tryd.prog W = .ok (.value (.agg l.toArray)) W :=
  run_load_part _ x ho b off hx l _ hc Tryd.underlying26 rfl (by rw [sizePl, hl])
/-- Two places in memory. -/
def pl4 (i e j f : Nat) : List Value := [.int .u64 (i : Int), .int .u64 (e : Int), .int .u64 (j : Int), .int .u64 (f : Int)]
section
variable {W : World} {g i e j f : Nat} {T : TypeId}
theorem pl4_r0 (h : At W g (pl4 i e j f).toArray T) : W.rangeAt g 0 [.int .u64 (i : Int), .int .u64 (e : Int)] :=
  range_vals (a := []) (m := [.int .u64 (i : Int), .int .u64 (e : Int)]) (z := [.int .u64 (j : Int), .int .u64 (f : Int)]) h rfl
theorem pl4_r1 (h : At W g (pl4 i e j f).toArray T) : W.rangeAt g 2 [.int .u64 (j : Int), .int .u64 (f : Int)] :=
  range_vals (a := [.int .u64 (i : Int), .int .u64 (e : Int)]) (m := [.int .u64 (j : Int), .int .u64 (f : Int)]) (z := []) h rfl
theorem pl4_q0 (h : At W g (pl4 i e j f).toArray T) : W.cell? ⟨g, 0, none⟩ = some (.int .u64 (i : Int)) := by rw [h.cell]; rfl
theorem pl4_q1 (h : At W g (pl4 i e j f).toArray T) : W.cell? ⟨g, 1, none⟩ = some (.int .u64 (e : Int)) := by rw [h.cell]; rfl
theorem pl4_q2 (h : At W g (pl4 i e j f).toArray T) : W.cell? ⟨g, 2, none⟩ = some (.int .u64 (j : Int)) := by rw [h.cell]; rfl
theorem pl4_q3 (h : At W g (pl4 i e j f).toArray T) : W.cell? ⟨g, 3, none⟩ = some (.int .u64 (f : Int)) := by rw [h.cell]; rfl
end
section
variable {key b : List UInt8} {i e S : Nat} {w : World}
theorem pseal_ok (hr : rightB i e = true) (hb : b.length = 32) (he : e < 18446744073709551616) (hs : SlA w key S) (hT : Tabs w) :
    Calls Tryd.prog 9 #[.pointer (some ⟨S, 0, none⟩), .int .u64 (i : Int), .int .u64 (e : Int), .agg (ubs b).toArray] w fun r w' => r = .returned (.tuple #[.agg (sv e (turnedL key i e b) (tagL key i e (turnedL key i e b))).toArray, .nilIface]) ∧ Below w.heap.size w w' := by
  have := pseal_any key b i e (some ⟨S, 0, none⟩) w hb he (Or.inr ⟨S, rfl, hs⟩) hT
  rw [sealL_right _ _ _ _ hr, hr] at this
  exact this
theorem pseal_no (hr : rightB i e = false) (hb : b.length = 32) (he : e < 18446744073709551616) (hs : SlA w key S) (hT : Tabs w) :
    Calls Tryd.prog 9 #[.pointer (some ⟨S, 0, none⟩), .int .u64 (i : Int), .int .u64 (e : Int), .agg (ubs b).toArray] w fun r w' => r = .returned (.tuple #[.agg (sv 0 n32 n16).toArray, .iface 43 (.int .i64 1)]) ∧ Below w.heap.size w w' := by
  have := pseal_any key b i e (some ⟨S, 0, none⟩) w hb he (Or.inr ⟨S, rfl, hs⟩) hT
  rw [sealL_wrong _ _ _ _ hr, hr] at this
  exact this
end
end Go.Proofs.YtnaihcoafgigcaaDoor

namespace Go.Proofs.YtnaihcoafgigcaaDoor
open Go.RowKit

/-- One bit. -/
def bitN7 (j : Nat) : UInt8 := UInt8.ofNat (2 ^ j)
theorem bitN7_ne (j : Nat) (h : j < 8) : bitN7 j ≠ 0 := by
  rcases (by omega : j = 0 ∨ j = 1 ∨ j = 2 ∨ j = 3 ∨ j = 4 ∨ j = 5 ∨ j = 6 ∨ j = 7) with rfl | rfl | rfl | rfl | rfl | rfl | rfl | rfl <;> decide
theorem b_shl7 (t : TypeId) (j : Nat) (h : j < 8) : binOp .shl t (.int .u8 1) (.int .i64 (j : Int)) = pure (.int .u8 ((bitN7 j).toNat : Int)) := by
  rcases (by omega : j = 0 ∨ j = 1 ∨ j = 2 ∨ j = 3 ∨ j = 4 ∨ j = 5 ∨ j = 6 ∨ j = 7) with rfl | rfl | rfl | rfl | rfl | rfl | rfl | rfl <;> rfl
theorem xor_ne7 (x b : UInt8) (h : b ≠ 0) : x ^^^ b ≠ x := by
  intro e
  apply h
  have := congrArg (x ^^^ ·) e
  simpa [← UInt8.xor_assoc, UInt8.xor_self] using this
theorem set_ne7 (m : List UInt8) (i : Nat) (b : UInt8) (hi : i < m.length) (h : b ≠ 0) : m.set i (m.getD i 0 ^^^ b) ≠ m := by
  intro e
  have := congrArg (fun l => l.getD i 0) e
  simp [hi] at this
  exact xor_ne7 _ _ h this
theorem kk_of7 (n : Int) : ∃ kk : Nat, kk < 448 ∧ Go.RowKit.wrap64 ((IntKind.u64.wrap n).tmod 448) = (kk : Int) := by
  have h1 : IntKind.u64.wrap n = n % 18446744073709551616 := by simp [IntKind.wrap, IntKind.signed, IntKind.bits]
  have h0 : 0 ≤ n % 18446744073709551616 := Int.emod_nonneg _ (by omega)
  refine ⟨(n % 18446744073709551616 % 448).toNat, by omega, ?_⟩
  rw [h1, Int.tmod_eq_emod_of_nonneg h0]
  have h3 : Go.RowKit.wrap64 (n % 18446744073709551616 % 448) = n % 18446744073709551616 % 448 := by unfold Go.RowKit.wrap64; omega
  rw [h3]
  omega
/-- A row whose first 56 cells are bytes: a cell, a cell put, what is read. -/
theorem row56_cell {W : World} {g : Nat} {T : TypeId} {cur : Array Value} {pl : List UInt8} (hA : At W g cur T) (hC : cur.toList.take 56 = ubs pl) (hl : pl.length = 56) {q : Nat} (hq : q < 56) : W.cell? ⟨g, q, none⟩ = some (.int .u8 ((pl.getD q 0).toNat : Int)) := by
  have h1 : (cur.toList.take 56)[q]? = (ubs pl)[q]? := by rw [hC]
  rw [List.getElem?_take_of_lt hq, Array.getElem?_toList] at h1
  rw [hA.cell q, h1, ubs_get, List.getD_eq_getElem?_getD, List.getElem?_eq_getElem (by omega)]
  rfl
theorem row56_put {W : World} {g : Nat} {T : TypeId} {cur : Array Value} {pl : List UInt8} (hA : At W g cur T) (hC : cur.toList.take 56 = ubs pl) (q : Nat) (b : UInt8) :
    Rb (W.setCell ⟨g, q, none⟩ (.int .u8 (b.toNat : Int))) (W.setCell ⟨g, q, none⟩ (.int .u8 (b.toNat : Int))).heap.size (some ⟨g, 0, none⟩) (pl.set q b) := by
  have hA' := hA.put q (.int .u8 (b.toNat : Int))
  have hu : ubs (pl.set q b) = (ubs pl).set q (ub b) := by simp [ubs, List.map_set]
  have hC' : (cur.setIfInBounds q (.int .u8 (b.toNat : Int))).toList.take 56 = ubs (pl.set q b) := by
    rw [Array.toList_setIfInBounds, List.take_set, hC, hu]
    rfl
  refine Rd.of_at hA' 0 (fun j u hj => ?_) hA'.lt
  rw [← hC', List.getElem?_take] at hj
  split at hj
  · rw [Nat.zero_add, ← Array.getElem?_toList]
    exact hj
  · cases hj
theorem byte_of (n : Int) : ∃ x : UInt8, n % 256 = (x.toNat : Int) := by
  refine ⟨UInt8.ofNat (n % 256).toNat, ?_⟩
  rw [UInt8.toNat_ofNat']
  omega
theorem val_beN (l : List UInt8) : val l = beN l := by unfold val beN; rfl
/-- The parts of 56 bytes. -/
theorem parts56 (bs : List UInt8) (hl : bs.length = 56) : val (bs.take 8) < 18446744073709551616 ∧ ((bs.drop 8).take 32).length = 32 ∧ ((bs.drop 40).take 16).length = 16 := by
  refine ⟨?_, by rw [List.length_take, List.length_drop]; omega, by rw [List.length_take, List.length_drop]; omega⟩
  have := val_lt (bs.take 8)
  rw [List.length_take, hl] at this
  exact this
/-- A bit of the tag turned: all else is as it was. -/
theorem turned_tag (e : Nat) (d t : List UInt8) (hd : d.length = 32) (ht : t.length = 16) (he : e < 18446744073709551616) (q : Nat) (b : UInt8) (hq : 40 ≤ q) (hq2 : q < 56) (hb : b ≠ 0) (bs : List UInt8) (hbs' : bs = (putL7 e d t).set q ((putL7 e d t).getD q 0 ^^^ b)) :
    val (bs.take 8) = e ∧ (bs.drop 8).take 32 = d ∧ (bs.drop 40).take 16 ≠ t := by
  have l8 : (toBE 8 e).length = 8 := toBE_length _ _
  have lP : (toBE 8 e ++ d).length = 40 := by rw [List.length_append, l8, hd]
  have hg : (putL7 e d t).getD q 0 = t.getD (q - 40) 0 := by
    rw [putL7, List.getD_eq_getElem?_getD, List.getD_eq_getElem?_getD, List.getElem?_append_right (by omega), lP]
  have hs : (putL7 e d t).set q ((putL7 e d t).getD q 0 ^^^ b) = toBE 8 e ++ (d ++ t.set (q - 40) (t.getD (q - 40) 0 ^^^ b)) := by
    rw [hg, putL7, List.set_append_right _ _ (by omega), lP, List.append_assoc]
  have hbs : bs = toBE 8 e ++ (d ++ t.set (q - 40) (t.getD (q - 40) 0 ^^^ b)) := hbs'.trans hs
  rw [hbs]
  refine ⟨?_, ?_, ?_⟩
  · rw [List.take_left' l8, val_beN, beN_toBE]
    exact Nat.mod_eq_of_lt he
  · rw [List.drop_left' l8, List.take_left' hd]
  · rw [← List.append_assoc, List.drop_left' lP, List.take_of_length_le (by rw [List.length_set]; omega)]
    exact set_ne7 t (q - 40) b (by omega) hb
/-- A block with three bytes put in. -/
def bk3 (x y : UInt8) : List UInt8 := x :: y :: (List.replicate 29 0 ++ [7])
theorem bk3_length (x y : UInt8) : (bk3 x y).length = 32 := by simp [bk3]
set_option maxRecDepth 100000 in
theorem built_bk3 (x y : UInt8) : Tryd.prog.built 28 [(0, .int .u8 (x.toNat : Int)), (1, .int .u8 (y.toNat : Int)), (31, .int .u8 7)] = some (ubs (bk3 x y)).toArray := by
  kernel_rfl
theorem run_build_bk3 {o : Oper} {a : Go.Act} {W : World} (p q : Operand) (ho : o.op = .build 28 #[(0, p), (1, q), (31, .const (.int .u8 7))]) (x y : UInt8) (hx : a.eval p = .int .u8 (x.toNat : Int)) (hy : a.eval q = .int .u8 (y.toNat : Int)) :
    (execOp a.eval o).run Tryd.prog W = .ok (.value (.agg (ubs (bk3 x y)).toArray)) W :=
  run_build_of _ _ ho _ (by
    have h := built_bk3 x y
    rw [← h]
    have e7 : a.eval (.const (.int .u8 7)) = .int .u8 7 := rfl
    simp [hx, hy, e7])
theorem run_eql16 {o : Oper} {a : Go.Act} (t2 : TypeId) (x y : Operand) (ho : o.op = .binOp .eql 22 x y t2) (u v : List UInt8) (hu : u.length = 16) (hv : v.length = 16) (hx : a.eval x = .agg (ubs u).toArray) (hy : a.eval y = .agg (ubs v).toArray) (r : Bool) (hr : (u == v) = r) (w : World) :
    (execOp a.eval o).run Tryd.prog w = .ok (.value (.bool r)) w :=
  run_eql_op _ _ x y ho _ _ hx hy guard16 r w (by rw [run_eql_struct, run_eq_block w u v hu hv 9998, hr]; rfl)
/-- An error that is none, or isn't. -/
def isE (E : Value) (M : Bool) : Prop := (E = .nilIface ∧ M = true) ∨ ∃ n : Int, E = .iface 43 (.int .i64 n) ∧ M = false
theorem run_eqlE {o : Oper} {a : Go.Act} (t2 : TypeId) (k : Nat) (ho : o.op = .binOp .eql 33 (.tmp k) (.const .nilIface) t2) (E : Value) (M : Bool) (hx : a.eval (.tmp k) = E) (hE : isE E M) (w : World) :
    (execOp a.eval o).run Tryd.prog w = .ok (.value (.bool M)) w := by
  have hc : a.eval (.const .nilIface) = .nilIface := rfl
  have hg : ∀ E, (eqGuard .eql 33 (.tmp k) (.const .nilIface) E .nilIface).run Tryd.prog w = .ok () w := fun E => by cases E <;> rfl
  have hb : (binOp .eql 33 E .nilIface).run Tryd.prog w = .ok (.bool M) w := by
    rcases hE with ⟨rfl, rfl⟩ | ⟨n, rfl, rfl⟩
    · kernel_rfl
    · kernel_rfl
  unfold execOp
  simp only [ho, hx, hc, Sem.run_bind]
  rw [hg]
  simp only [Result.andThen_ok, hb, Sem.run_pure]
theorem isE_open (key : List UInt8) (i e : Nat) (d t : List UInt8) : isE (errV (openN key i e d t)) (rightB i e && (tagL key i e d == t)) := by
  unfold isE openN
  cases h : rightB i e with
  | false => exact Or.inr ⟨1, rfl, rfl⟩
  | true =>
    by_cases c : t = tagL key i e d
    · exact Or.inl (by simp [c]; rfl)
    · refine Or.inr ⟨4, ?_, ?_⟩
      · rw [if_pos rfl, if_neg (by simpa using c)]
        rfl
      · simp [Ne.symm c]
end Go.Proofs.YtnaihcoafgigcaaDoor
