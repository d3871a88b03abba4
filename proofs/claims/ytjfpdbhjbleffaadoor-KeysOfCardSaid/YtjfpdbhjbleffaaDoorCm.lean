/-
  What the texts of several layers share: blocks of bytes, rows of the call's own, operations by their values, comparing.
-/
import Derived.Test.YtjfpdbhjbleffaaDoorBase
import Derived.Test.YtjfpdbhjbleffaaDoorReg
import Derived.Test.YtjfpdbhjbleffaaDoorProg
import Derived.StillTailTactics
import Derived.BigQuiet
import Derived.ChangeKeysEq
import Derived.ArgAppend
namespace Go.Proofs.YtjfpdbhjbleffaaDoor
open Go.RowKit

section
variable {w : World} {g : Nat} {t : TypeId}
theorem at_ub_put {bs : List UInt8} (h : At w g (ubs bs).toArray t) (i : Nat) (b : UInt8) : At (w.setCell ⟨g, i, none⟩ (.int .u8 (b.toNat : Int))) g (ubs (bs.set i b)).toArray t := by
  have := h.put i (ub b)
  have e : ubs (bs.set i b) = (ubs bs).set i (ub b) := by simp [ubs, List.map_set]
  rw [e, ← List.setIfInBounds_toArray]
  exact this
theorem at_ub_cell {bs : List UInt8} (h : At w g (ubs bs).toArray t) {i : Nat} (hi : i < bs.length) : w.cell? ⟨g, i, none⟩ = some (.int .u8 ((bs.getD i 0).toNat : Int)) := by
  rw [h.cell i, List.getElem?_toArray, ubs_get, List.getD_eq_getElem?_getD, List.getElem?_eq_getElem hi]
  rfl
theorem At.new_at {cs : Array Value} {n : Nat} (h : n = w.heap.size) : At (w.alloc (.cells cs t)) n cs t := by subst h; exact At.new _ _ _
theorem At.setRow_far {w : World} {g j : Nat} {t : TypeId} {cs : Array Value} (h : At w g cs t) (hn : g ≠ j) {ds : Array Value} : At (w.setRow j ds) g cs t := (setRow_other w j g ds hn).trans h
theorem below_drewN {B : Nat} {a w : World} (h : Below B a w) (n : Nat) : Below B a (w.drewN n) := h.trans ⟨rfl, rfl, rfl, Nat.le_refl _, fun _ _ => rfl⟩
theorem below_setRow {B g : Nat} {a w : World} (h : Below B a w) (hg : B ≤ g) (cs : Array Value) : Below B a (w.setRow g cs) :=
  ⟨h.os, h.tape, h.output, by simpa using h.size, fun k hk => (setRow_other w g k cs (by omega)).trans (h.block k hk)⟩
end
def n16 : List UInt8 := List.replicate 16 0
theorem n16_length : n16.length = 16 := by simp [n16]
theorem ubs_all (h : List UInt8) : (ubs h).toArray.all (·.oneCell') = true :=
  Array.all_eq_true_iff_forall_mem.2 (fun v hv => ubs_one h v (by simpa using hv))
theorem b_xor (t : TypeId) (a b : UInt8) : binOp .xor t (.int .u8 (a.toNat : Int)) (.int .u8 (b.toNat : Int)) = pure (.int .u8 ((a ^^^ b).toNat : Int)) := by
  simp only [binOp_xor, Op.intBits]
  show (pure (.int .u8 (IntKind.u8.wrap ((BitVec.ofInt 8 (a.toNat : Int) ^^^ BitVec.ofInt 8 (b.toNat : Int)).toNat : Int))) : Sem Value) = _
  congr 2
  rw [BitVec.ofInt_natCast, BitVec.ofInt_natCast, BitVec.toNat_xor, UInt8.toNat_xor]
  have h1 := a.toNat_lt
  have h2 := b.toNat_lt
  have h3 : a.toNat ^^^ b.toNat < 2 ^ 8 := Nat.xor_lt_two_pow h1 h2
  simp [IntKind.wrap, IntKind.signed, IntKind.bits]
  omega
theorem infoB : (Tryd.prog.info? 5).map (fun i => (i.zero, i.size, i.bytes)) = some (some (.int .u8 0), 1, 1) := by kernel_rfl
structure Own1 (w : World) (n : Nat) (bs : List UInt8) (v : Value) (w' : World) : Prop where
  len : n = bs.length
  own : w'.ownsRow w.heap.size 5 1 v n (ubs bs)
  below : Below w.heap.size w w'
theorem rb_one (w : World) (b : UInt8) : Rb (w.alloc (.cells #[.int .u8 (b.toNat : Int)] 5)) (w.heap.size + 1) (some ⟨w.heap.size, 0, none⟩) [b] :=
  Rd.of_at (At.new w #[.int .u8 (b.toNat : Int)] 5) 0 (fun j u hj => by
    rcases j with _ | j
    · simp [ubs, ub] at hj; subst hj; rfl
    · simp [ubs] at hj) (by omega)
theorem Own1.next {w w' w2 : World} {n : Nat} {bs : List UInt8} {b : UInt8} {v v2 : Value} {o : Obj} (h : Own1 w n bs v w') (h2 : w2.ownsRow w.heap.size 5 1 v2 (n + 1) (ubs bs ++ ubs [b])) (hg : (w'.alloc o).grownBy w2 v.ownBlock) : Own1 w (n + 1) (bs ++ [b]) v2 w2 :=
  ⟨by rw [List.length_append, h.len]; rfl, by rw [ubs_append]; exact h2, (h.below.alloc h.below.size o).grown hg (by have := h.below.size; simp; omega) (fun k hk => (World.ownsRow.lt h.own k hk).1)⟩
theorem Own1.more {w w' w2 : World} {bs cs : List UInt8} {v v2 : Value} {n m : Nat} (h : Own1 w m bs v w') (h2 : w2.ownsRow w.heap.size 5 1 v2 (m + n) (ubs bs ++ ubs cs)) (hn : n = cs.length) (hg : w'.grownBy w2 v.ownBlock) : Own1 w (m + n) (bs ++ cs) v2 w2 :=
  ⟨by rw [List.length_append, h.len, hn], by rw [ubs_append]; exact h2, h.below.grown hg h.below.size (fun k hk => (World.ownsRow.lt h.own k hk).1)⟩
theorem own_grown {w w' : World} {base n : Nat} {e : TypeId} {v : Value} {xs : List Value} {row : Option Nat} (h : w.ownsRow base e 1 v n xs) (hg : w.grownBy w' row) (hne : ∀ g, v.ownBlock = some g → row ≠ some g) : w'.ownsRow base e 1 v n xs := by
  refine ⟨h.1, ?_⟩
  rcases h.2 with h2 | ⟨g, cap, cur, rfl, hb, hh, r⟩
  · exact .inl h2
  · exact .inr ⟨g, cap, cur, rfl, hb, (hg.block g (lt_of_block hh) (fun e' => hne g rfl e'.symm)).trans hh, r⟩
theorem own_start (w : World) : Own1 w 0 [] (.slice (some ⟨w.heap.size, 0, none⟩) 0 0) (w.alloc (.cells #[] 5)) :=
  ⟨rfl, by have := World.ownsRow_made (base := w.heap.size) (e := 5) (size := 1) w #[] 0 (by omega) (by simp [maxLen]) rfl; simpa [ubs] using this, (Below.refl _ _).alloc (Nat.le_refl _) _⟩
theorem rb_at {w : World} {g : Nat} {bs : List UInt8} {t : TypeId} (h : At w g (ubs bs).toArray t) : Rb w w.heap.size (some ⟨g, 0, none⟩) bs :=
  Rd.of_at h 0 (fun j u hj => by rw [Nat.zero_add, List.getElem?_toArray]; exact hj) h.lt
theorem sizeU8 : (Tryd.prog.info? 5).map (·.size) = some 1 := by kernel_rfl
theorem still_of_run {P : Program} {o : Oper} {a : Go.Act} {w : World} {v : Value} {K : Go.Act → Prop} (h : (execOp a.eval o).run P w = .ok (.value v) w) (hK : K (a.put o.dst v)) : o.still P a w K := by
  unfold Oper.still
  rw [h]
  exact ⟨rfl, hK⟩
theorem wpStill_run {P : Program} {ops : Array Oper} {w : World} {Q : Go.Act → Prop} {o : Oper} {rest : List Oper} {a : Go.Act} (v : Value) (hgd : o.guard = none) (h : (execOp a.eval o).run P w = .ok (.value v) w)
    (hK : wpStill P ops w Q rest (a.put o.dst v)) : wpStill P ops w Q (o :: rest) a :=
  wpStill_step (fun K hk => by
    rw [if_pos (by simp [Region.wanted, hgd])]
    exact still_of_run h (hk _ hK))
theorem wpList_value {P : Program} {ops : Array Oper} {rest : List Oper} {o : Oper} {a : Go.Act} {w w' : World} {Q : Exit → Go.Act → World → Prop} (v : Value) (hg : o.guard = none) (hrun : (execOp a.eval o).run P w = .ok (.value v) w')
    (h : wpList P ops Q rest (a.put o.dst v) w') : wpList P ops Q (o :: rest) a w := by
  refine wpList_plain hg fun K hK => ?_
  unfold Oper.wp
  rw [hrun]
  exact hK _ _ h
theorem plainB : Tryd.prog.plainKey 5 = true := by kernel_rfl
theorem cellsB : Tryd.prog.cellsOf 5 = 1 := by kernel_rfl
theorem run_eqItems_ub (w : World) (d : Nat) (a b : List UInt8) (hl : a.length = b.length) : ∀ (m k : Nat), k + m = a.length →
    (Op.eqItems (d + 1) 5 1 (ubs a).toArray (ubs b).toArray (List.range' k m)).run Tryd.prog w = .ok (a.drop k == b.drop k) w := by
  intro m
  induction m with
  | zero =>
    intro k hk
    have h1 : a.drop k = [] := List.drop_eq_nil_of_le (by omega)
    have h2 : b.drop k = [] := List.drop_eq_nil_of_le (by omega)
    simp [Op.eqItems, h1, h2]
  | succ m ih =>
    intro k hk
    have ha : k < a.length := by omega
    have hb : k < b.length := by omega
    have p1 := run_part_plain (P := Tryd.prog) w plainB (xs := (ubs a).toArray) (off := k * 1) (v := .int .u8 (a[k].toNat : Int)) (by rw [Nat.mul_one, List.getElem?_toArray]; exact ubs_at ha)
    have p2 := run_part_plain (P := Tryd.prog) w plainB (xs := (ubs b).toArray) (off := k * 1) (v := .int .u8 (b[k].toNat : Int)) (by rw [Nat.mul_one, List.getElem?_toArray]; exact ubs_at hb)
    have p3 := run_equalIn_int (P := Tryd.prog) w d 5 .u8 .u8 (a[k].toNat : Int) (b[k].toNat : Int) Tryd.underlying5
    rw [List.range'_succ]
    simp only [Op.eqItems, Sem.run_bind, p1, p2, p3, Result.andThen_ok]
    rw [List.drop_eq_getElem_cons ha, List.drop_eq_getElem_cons hb]
    by_cases he : a[k] = b[k]
    · have e1 : (((a[k].toNat : Int) == (b[k].toNat : Int))) = true := by rw [he]; simp
      simp only [e1, Bool.not_true, Bool.false_eq_true, if_false]
      rw [ih (k + 1) (by omega), List.cons_beq_cons, he]
      simp only [beq_self_eq_true, Bool.true_and]
    · have e1 : (((a[k].toNat : Int) == (b[k].toNat : Int))) = false := by
        simp only [beq_eq_false_iff_ne, ne_eq]
        exact fun h => he (UInt8.toNat_inj.1 (by omega))
      have e2 : (a[k] == b[k]) = false := by simpa using he
      simp only [e1, Bool.not_false, if_true, Sem.run_pure]
      rw [List.cons_beq_cons, e2]
      rfl
theorem run_eql_op {o : Oper} {a : Go.Act} (T t2 : TypeId) (x y : Operand) (ho : o.op = .binOp .eql T x y t2) (u v : Array Value) (hx : a.eval x = .agg u) (hy : a.eval y = .agg v) (hgt : Tryd.prog.eqGuardType Tryd.prog.depth T = false) (b : Bool) (w : World) (h : (binOp .eql T (.agg u) (.agg v)).run Tryd.prog w = .ok (.bool b) w) :
    (execOp a.eval o).run Tryd.prog w = .ok (.value (.bool b)) w := by
  unfold execOp
  simp only [ho, hx, hy, Sem.run_bind]
  have hg : (eqGuard .eql T x y (.agg u) (.agg v)).run Tryd.prog w = .ok () w := run_eqGuard_agg w .eql T x y u v hgt
  rw [hg]
  simp only [Result.andThen_ok, h, Sem.run_pure]
theorem ba_loop (l : List UInt8) : ∀ (m i : Nat) (r : List UInt8), i + m = l.length → ByteArray.toList.loop ⟨l.toArray⟩ i r = r.reverse ++ l.drop i := by
  intro m
  induction m with
  | zero =>
    intro i r h
    rw [ByteArray.toList.loop, if_neg (by show ¬ i < l.toArray.size; simp; omega), List.drop_eq_nil_of_le (by omega), List.append_nil]
  | succ m ih =>
    intro i r h
    have hi : i < l.length := by omega
    rw [ByteArray.toList.loop, if_pos (by show i < l.toArray.size; simp; omega), ih (i + 1) _ (by omega), List.drop_eq_getElem_cons hi]
    have : (⟨l.toArray⟩ : ByteArray).get! i = l[i] := by
      show l.toArray[i]! = _
      simp [hi]
    rw [this]
    simp
theorem ba_toList (l : List UInt8) : (⟨l.toArray⟩ : ByteArray).toList = l := by
  show ByteArray.toList.loop ⟨l.toArray⟩ 0 [] = l
  rw [ba_loop l l.length 0 [] (by omega)]
  simp
theorem str_eq (a b : List UInt8) : ((⟨a.toArray⟩ : ByteArray).toList == (⟨b.toArray⟩ : ByteArray).toList) = (a == b) := by
  rw [ba_toList, ba_toList]
section
variable {P : Program} {ops : Array Oper} {Q : Exit → Act → World → Prop} {md : Region.Mode} {S : World → Prop} {z : Nat}
theorem wpUpto_takeL {i t : Nat} {oi : Oper} {v : Value} {fuel : Nat} {listed : Array Bool} {l : List Value} {d : List Deferred} {w : World} (hi : ops[i]? = some oi) (hd : oi.dst = some t)
    (hs : Region.noSelect ops = true) (hf : Region.free md ops listed i = true) (hr : (Region.ready md ops listed).contains i = true) (hw : waits md ops z i = true) (hiz : i ≠ z)
    (hQ : ∀ c a w, Q (.panic c) (a.put oi.dst v) w → Q (.panic c) a w) (hy : YieldsIf P ops S oi v ⟨l.toArray, d⟩) (hS : S w)
    (h : wpUpto P md ops Q S z fuel (listed.setIfInBounds i true) ⟨(l.set t v).toArray, d⟩ w) : wpUpto P md ops Q S z (fuel + 1) listed ⟨l.toArray, d⟩ w := by
  refine wpUpto_take hi hs hf hr hw hiz hQ hy hS ?_
  rw [hd]
  simpa [Act.put] using h
theorem wpUpto_oneG {i : Nat} {o : Oper} {fuel : Nat} {listed : Array Bool} {a : Act} {w : World} (ho : ops[i]? = some o) (hr : Region.ready md ops listed = [i]) (hg : Region.wanted o (yielded ops a.tmps) = true)
    (h : ∀ K : Act → World → Prop, RowKit.Hid (∀ a' w', (i ≠ z → S w') → wpUpto P md ops Q S z fuel (listed.setIfInBounds i true) a' w' → K a' w') → o.wp P a w K Q) : wpUpto P md ops Q S z (fuel + 1) listed a w := by
  refine ⟨fun h0 => (by rw [hr] at h0; cases h0), fun j hj => ?_⟩
  rw [hr] at hj
  obtain rfl : j = i := by simpa using hj
  unfold wpOp
  rw [ho]
  simp only [hg, if_true]
  exact .inl (h _ (fun _ _ h1 h2 => ⟨h1, h2⟩))
end
end Go.Proofs.YtjfpdbhjbleffaaDoor
