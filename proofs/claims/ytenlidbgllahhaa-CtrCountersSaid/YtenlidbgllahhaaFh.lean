/-
  Comparing blocks and bytes; errors as numbers; RoundKey.
-/
import Derived.Test.YtenlidbgllahhaaFf
import Derived.ChangeKeysEq
import Derived.ArgAppend
namespace Go.Proofs.Ytenlidbgllahhaa
open Go.RowKit

theorem plainB : Try.prog.plainKey 5 = true := by kernel_rfl
theorem cellsB : Try.prog.cellsOf 5 = 1 := by kernel_rfl
theorem run_eqItems_ub (w : World) (d : Nat) (a b : List UInt8) (hl : a.length = b.length) : ∀ (m k : Nat), k + m = a.length →
    (Op.eqItems (d + 1) 5 1 (ubs a).toArray (ubs b).toArray (List.range' k m)).run Try.prog w = .ok (a.drop k == b.drop k) w := by
  intro m
  induction m with
  | zero =>
    intro k hk
    have h1 : a.drop k = [] := List.drop_eq_nil_of_le (by omega)
    have h2 : b.drop k = [] := List.drop_eq_nil_of_le (by omega)
    simp [Op.eqItems, h1, h2]
  | succ m ih =>
    intro k hk
    have ha : k < a.length := by omega
    have hb : k < b.length := by omega
    have p1 := run_part_plain (P := Try.prog) w plainB (xs := (ubs a).toArray) (off := k * 1) (v := .int .u8 (a[k].toNat : Int)) (by rw [Nat.mul_one, List.getElem?_toArray]; exact ubs_at ha)
    have p2 := run_part_plain (P := Try.prog) w plainB (xs := (ubs b).toArray) (off := k * 1) (v := .int .u8 (b[k].toNat : Int)) (by rw [Nat.mul_one, List.getElem?_toArray]; exact ubs_at hb)
    have p3 := run_equalIn_int (P := Try.prog) w d 5 .u8 .u8 (a[k].toNat : Int) (b[k].toNat : Int) Try.underlying5
    rw [List.range'_succ]
    simp only [Op.eqItems, Sem.run_bind, p1, p2, p3, Result.andThen_ok]
    rw [List.drop_eq_getElem_cons ha, List.drop_eq_getElem_cons hb]
    by_cases he : a[k] = b[k]
    · have e1 : (((a[k].toNat : Int) == (b[k].toNat : Int))) = true := by rw [he]; simp
      simp only [e1, Bool.not_true, Bool.false_eq_true, if_false]
      rw [ih (k + 1) (by omega), List.cons_beq_cons, he]
      simp only [beq_self_eq_true, Bool.true_and]
    · have e1 : (((a[k].toNat : Int) == (b[k].toNat : Int))) = false := by
        simp only [beq_eq_false_iff_ne, ne_eq]
        exact fun h => he (UInt8.toNat_inj.1 (by omega))
      have e2 : (a[k] == b[k]) = false := by simpa using he
      simp only [e1, Bool.not_false, if_true, Sem.run_pure]
      rw [List.cons_beq_cons, e2]
      rfl
theorem run_eq_block (w : World) (a b : List UInt8) (ha : a.length = 16) (hb : b.length = 16) (d : Nat) :
    (Op.equalIn (d + 2) 26 (.agg (ubs a).toArray) (.agg (ubs b).toArray)).run Try.prog w = .ok (a == b) w := by
  obtain ⟨i, hi⟩ : ∃ i, Try.prog.info? 5 = some i := by
    have := info8
    cases h : Try.prog.info? 5 with
    | none => simp [h] at this
    | some i => exact ⟨i, rfl⟩
  rw [run_equalIn_array w (d + 1) _ _ Try.underlying26 hi, cellsB, List.range_eq_range', run_eqItems_ub w d a b (by omega) 16 0 (by omega)]
  simp
theorem eql_block (w : World) (a b : List UInt8) (ha : a.length = 16) (hb : b.length = 16) : (binOp .eql 26 (.agg (ubs a).toArray) (.agg (ubs b).toArray)).run Try.prog w = .ok (.bool (a == b)) w := by
  rw [run_eql_struct, run_eq_block w a b ha hb 9998]
  rfl
theorem eql_block_same (w : World) (a : List UInt8) (ha : a.length = 16) : (binOp .eql 26 (.agg (ubs a).toArray) (.agg (ubs a).toArray)).run Try.prog w = .ok (.bool true) w := by
  rw [eql_block w a a ha ha]
  simp
theorem guard16 : Try.prog.eqGuardType Try.prog.depth 26 = false := by kernel_rfl
theorem run_eql_op {o : Oper} {a : Go.Act} (T t2 : TypeId) (x y : Operand) (ho : o.op = .binOp .eql T x y t2) (u v : Array Value) (hx : a.eval x = .agg u) (hy : a.eval y = .agg v) (hgt : Try.prog.eqGuardType Try.prog.depth T = false) (b : Bool) (w : World) (h : (binOp .eql T (.agg u) (.agg v)).run Try.prog w = .ok (.bool b) w) :
    (execOp a.eval o).run Try.prog w = .ok (.value (.bool b)) w := by
  unfold execOp
  simp only [ho, hx, hy, Sem.run_bind]
  have hg : (eqGuard .eql T x y (.agg u) (.agg v)).run Try.prog w = .ok () w := run_eqGuard_agg w .eql T x y u v hgt
  rw [hg]
  simp only [Result.andThen_ok, h, Sem.run_pure]
/-- Two blocks that are the same, compared. -/
theorem run_eql_blocks {o : Oper} {a : Go.Act} (t2 : TypeId) (x y : Operand) (ho : o.op = .binOp .eql 26 x y t2) (b : List UInt8) (hb : b.length = 16) (hx : a.eval x = .agg (ubs b).toArray) (hy : a.eval y = .agg (ubs b).toArray) (w : World) :
    (execOp a.eval o).run Try.prog w = .ok (.value (.bool true)) w :=
  run_eql_op _ _ x y ho _ _ hx hy guard16 true w (eql_block_same w b hb)
theorem ba_loop (l : List UInt8) : ∀ (m i : Nat) (r : List UInt8), i + m = l.length → ByteArray.toList.loop ⟨l.toArray⟩ i r = r.reverse ++ l.drop i := by
  intro m
  induction m with
  | zero =>
    intro i r h
    rw [ByteArray.toList.loop, if_neg (by show ¬ i < l.toArray.size; simp; omega), List.drop_eq_nil_of_le (by omega), List.append_nil]
  | succ m ih =>
    intro i r h
    have hi : i < l.length := by omega
    rw [ByteArray.toList.loop, if_pos (by show i < l.toArray.size; simp; omega), ih (i + 1) _ (by omega), List.drop_eq_getElem_cons hi]
    have : (⟨l.toArray⟩ : ByteArray).get! i = l[i] := by
      show l.toArray[i]! = _
      simp [hi]
    rw [this]
    simp
theorem ba_toList (l : List UInt8) : (⟨l.toArray⟩ : ByteArray).toList = l := by
  show ByteArray.toList.loop ⟨l.toArray⟩ 0 [] = l
  rw [ba_loop l l.length 0 [] (by omega)]
  simp
theorem str_eq (a b : List UInt8) : ((⟨a.toArray⟩ : ByteArray).toList == (⟨b.toArray⟩ : ByteArray).toList) = (a == b) := by
  rw [ba_toList, ba_toList]
theorem bytes_any (a b : List UInt8) (A B : Option Addr) (c d : Nat) (w : World) (ha : Rb w w.heap.size A a) (hb : Rb w w.heap.size B b) :
    Calls Try.prog 19 #[.slice A a.length c, .slice B b.length d] w fun e w' => e = .returned (.bool (a == b)) ∧ w = w' := by
  have k1 := run_convert_rb (P := Try.prog) 37 9 5 Try.underlying37 Try.underlying5 Try.underlying9 ha c
  have k2 := run_convert_rb (P := Try.prog) 37 9 5 Try.underlying37 Try.underlying5 Try.underlying9 hb d
  have HE := hid (str_eq a b)
  clear ha hb
  obtain ⟨n, hn⟩ : ∃ n, n = a.length := ⟨_, rfl⟩
  obtain ⟨m, hm⟩ : ∃ m, m = b.length := ⟨_, rfl⟩
  rw [← hn] at k1 ⊢
  rw [← hm] at k2 ⊢
  obtain ⟨x, hx⟩ : ∃ x : ByteArray, x = ⟨a.toArray⟩ := ⟨_, rfl⟩
  obtain ⟨y, hy⟩ : ∃ y : ByteArray, y = ⟨b.toArray⟩ := ⟨_, rfl⟩
  rw [← hx] at k1 HE
  rw [← hy] at k2 HE
  clear hn hm hx hy
  go_enter Try.func19, Try.ntmps19
  go_wp2
  go_ret
  exact ⟨by rw [← HE.out]; rfl, rfl⟩
theorem num_any (w : World) :
    Calls Try.prog 35 #[.iface 35 (.int .i64 1)] w fun e w' => e = .returned (.int .i64 1) ∧ w' = w := by
  have hta : ∀ w : World, (Instr.typeAssert (.iface 35 (.int .i64 1)) 29 35 true).run Try.prog w = .ok (.tuple #[.int .i64 1, .bool true]) w := fun _ => by kernel_rfl
  go_enter Try.func35, Try.ntmps35
  go_wp2
  go_ret
  exact ⟨rfl, rfl⟩
theorem is_any (w : World) :
    Calls Try.prog 18 #[.iface 35 (.int .i64 1), .int .i64 1] w fun e w' => e = .returned (.bool true) ∧ w' = w := by
  have HN := hid (num_any w)
  go_enter Try.func18, Try.ntmps18
  go_wp2_with (go_at_call 35; refine HN.out.mono ?_; rintro e w' ⟨rfl, hw⟩; rw [hw])
  go_ret
  exact ⟨rfl, rfl⟩
theorem results_row_tmp {P : Program} {fn : Func} {u p : Tmp} {ty : TypeId} (h : fn.results = #[.cell p ty, .tmp u]) (tmps : Array Value) (w : World) (g : Nat) (t : TypeId) (cs : Array Value) (fr : Nat × Nat) (d : TypeDesc)
    (hp : tmps.getD p undef = .pointer (some ⟨g, 0, none⟩)) (hg : w.heap[g]? = some (.cells cs t fr))
    (hu : P.underlying ty = some d) (hd : (match d with | .struct _ | .array _ _ => true | _ => false) = true) (hi : (P.info? ty).map (·.size) = some cs.size) :
    (results fn tmps).run P w = .ok (.tuple #[.agg cs, tmps.getD u undef]) w := by
  have hp' : tmps[p]?.getD undef = .pointer (some ⟨g, 0, none⟩) := by simpa using hp
  simp [results, h, hp', asAddr, Result.andThen, run_loadVar_row w g t ty cs fr d hg hu hd hi]
set_option maxRecDepth 100000 in
set_option maxHeartbeats 1000000 in
theorem roundKey_out (p : Option Addr) (i : Int) (w : World) (hi : i < 0 ∨ 10 < i) :
    Calls Try.prog 17 #[.pointer p, .int .i64 i] w fun e w' => e = .returned (.tuple #[.agg (ubs n16).toArray, .iface 35 (.int .i64 1)]) ∧ Below w.heap.size w w' := by
  have hz := noughts16
  have HAT := hid (At.new w (ubs n16).toArray 26)
  by_cases h0 : i < 0
  · have c0 : decide (i < 0) = true := by simp; omega
    clear hi
    go_enter Try.func17, Try.ntmps17
    go_wp2_with (refine wpList_store_row rfl _ (.tmp 4) (.tmp 12) rfl w.heap.size (ubs n16).toArray rfl rfl 26 (ubs n16).toArray HAT.out (size16_of n16_length) rfl (ubs_all _) ?_)
    refine bodyPost_ret (results_row_tmp rfl _ _ w.heap.size 26 (ubs n16).toArray (0, 0) _ rfl (setRow_heap _ _ _ _ _ _ HAT.out) Try.underlying26 rfl (size16_of n16_length)) rfl ?_
    exact ⟨rfl, below_setRow ((Below.refl _ _).alloc (Nat.le_refl _) _) (Nat.le_refl _) _⟩
  · have c0 : decide (i < 0) = false := by simpa using h0
    have c1 : decide (10 < i) = true := by simp; omega
    clear hi
    go_enter Try.func17, Try.ntmps17
    go_wp2_with (refine wpList_store_row rfl _ (.tmp 4) (.tmp 12) rfl w.heap.size (ubs n16).toArray rfl rfl 26 (ubs n16).toArray HAT.out (size16_of n16_length) rfl (ubs_all _) ?_)
    refine bodyPost_ret (results_row_tmp rfl _ _ w.heap.size 26 (ubs n16).toArray (0, 0) _ rfl (setRow_heap _ _ _ _ _ _ HAT.out) Try.underlying26 rfl (size16_of n16_length)) rfl ?_
    exact ⟨rfl, below_setRow ((Below.refl _ _).alloc (Nat.le_refl _) _) (Nat.le_refl _) _⟩
set_option maxRecDepth 100000 in
set_option maxHeartbeats 1000000 in
theorem roundKey_in (key : List UInt8) (p : Option Addr) (i : Nat) (w : World) (hi : i ≤ 10) (hk : key.length = 16) (hc : Cip w key p) :
    Calls Try.prog 17 #[.pointer p, .int .i64 (i : Int)] w fun e w' => e = .returned (.tuple #[.agg (ubs (rk key i)).toArray, .nilIface]) ∧ Below w.heap.size w w' := by
  have hz := noughts16
  have HO := hid (orZeros_any key p _ (hc.below ((Below.refl w.heap.size w).alloc (Nat.le_refl _) (.cells (ubs n16).toArray 26))))
  have HAT := hid (At.new w (ubs n16).toArray 26)
  have HB0 := hid ((Below.refl w.heap.size w).alloc (Nat.le_refl _) (.cells (ubs n16).toArray 26))
  have HRG := hid (fun (W : World) (C : Nat) (h : At W C (ubs (rks key 11)).toArray 58) => rks_range hk h i hi)
  have HRL := hid (rk_length key hk i)
  have c0 : decide ((i : Int) < 0) = false := by simp
  have c1 : decide (10 < (i : Int)) = false := by simp; omega
  have i1 : (i : Int) < 11 := by omega
  have e4 : i * 16 = 16 * i := by omega
  clear hc hk
  go_enter Try.func17, Try.ntmps17
  go_wp2_with (first
    | (go_at_call 34; refine HO.out.mono ?_; rintro e w1 ⟨C, rfl, hC, hb1⟩; have HC := hid hC; have HB := hid hb1; have HA := hid (HAT.out.new_ hb1); clear hC hb1)
    | (refine wpList_load_mid rfl 26 (.tmp 19) rfl C (16 * i) rfl (ubs (rk key i)) _ (HRG.out _ _ HC.out) Try.underlying26 rfl (by rw [size16, ubs_length, HRL.out]) ?_)
    | (refine wpList_store_row rfl _ (.tmp 4) (.tmp 20) rfl w.heap.size (ubs (rk key i)).toArray rfl rfl 26 (ubs n16).toArray HA.out (size16_of HRL.out) ?e5 (ubs_all _) ?e6; rotate_right))
  case e5 => simp [ubs_length, n16_length, HRL.out]
  refine bodyPost_ret (results_row_tmp rfl _ _ w.heap.size 26 (ubs (rk key i)).toArray (0, 0) _ rfl (setRow_heap _ _ _ _ _ _ HA.out) Try.underlying26 rfl (size16_of HRL.out)) rfl ?_
  exact ⟨rfl, below_setRow (HB0.out.trans (HB.out.mono HB0.out.size)) (Nat.le_refl _) _⟩
end Go.Proofs.Ytenlidbgllahhaa
