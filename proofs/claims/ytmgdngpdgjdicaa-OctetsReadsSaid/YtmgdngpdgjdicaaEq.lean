/-
  Comparing two arrays of bytes; the statement on a nil reader, walked.
-/
import Derived.Test.YtmgdngpdgjdicaaAl
import Derived.ChangeKeysEq
namespace Go.Proofs.Ytmgdngpdgjdicaa
open Go.RowKit

theorem plainB : Try.prog.plainKey 5 = true := by kernel_rfl
theorem cellsB : Try.prog.cellsOf 5 = 1 := by kernel_rfl
theorem cellsH : Try.prog.cellsOf 44 = 32 := by kernel_rfl
theorem run_eqItems_ub (w : World) (d : Nat) (a b : List UInt8) (hl : a.length = b.length) : ∀ (m k : Nat), k + m = a.length →
    (Op.eqItems (d + 1) 5 1 (ubs a).toArray (ubs b).toArray (List.range' k m)).run Try.prog w = .ok (a.drop k == b.drop k) w := by
  intro m
  induction m with
  | zero =>
    intro k hk
    have h1 : a.drop k = [] := List.drop_eq_nil_of_le (by omega)
    have h2 : b.drop k = [] := List.drop_eq_nil_of_le (by omega)
    simp [Op.eqItems, h1, h2]
  | succ m ih =>
    intro k hk
    have ha : k < a.length := by omega
    have hb : k < b.length := by omega
    have p1 := run_part_plain (P := Try.prog) w plainB (xs := (ubs a).toArray) (off := k * 1) (v := .int .u8 (a[k].toNat : Int)) (by rw [Nat.mul_one, List.getElem?_toArray]; exact ubs_at ha)
    have p2 := run_part_plain (P := Try.prog) w plainB (xs := (ubs b).toArray) (off := k * 1) (v := .int .u8 (b[k].toNat : Int)) (by rw [Nat.mul_one, List.getElem?_toArray]; exact ubs_at hb)
    have p3 := run_equalIn_int (P := Try.prog) w d 5 .u8 .u8 (a[k].toNat : Int) (b[k].toNat : Int) Try.underlying5
    rw [List.range'_succ]
    simp only [Op.eqItems, Sem.run_bind, p1, p2, p3, Result.andThen_ok]
    rw [List.drop_eq_getElem_cons ha, List.drop_eq_getElem_cons hb]
    by_cases he : a[k] = b[k]
    · have e1 : (((a[k].toNat : Int) == (b[k].toNat : Int))) = true := by rw [he]; simp
      simp only [e1, Bool.not_true, Bool.false_eq_true, if_false]
      rw [ih (k + 1) (by omega), List.cons_beq_cons, he]
      simp only [beq_self_eq_true, Bool.true_and]
    · have e1 : (((a[k].toNat : Int) == (b[k].toNat : Int))) = false := by
        simp only [beq_eq_false_iff_ne, ne_eq]
        exact fun h => he (UInt8.toNat_inj.1 (by omega))
      have e2 : (a[k] == b[k]) = false := by simpa using he
      simp only [e1, Bool.not_false, if_true, Sem.run_pure]
      rw [List.cons_beq_cons, e2]
      rfl
theorem run_eq_hash (w : World) (a b : List UInt8) (ha : a.length = 32) (hb : b.length = 32) (d : Nat) :
    (Op.equalIn (d + 2) 44 (hv a) (hv b)).run Try.prog w = .ok (a == b) w := by
  obtain ⟨i, hi⟩ : ∃ i, Try.prog.info? 5 = some i := by
    have := sizeB
    cases h : Try.prog.info? 5 with
    | none => simp [h] at this
    | some i => exact ⟨i, rfl⟩
  unfold hv
  rw [run_equalIn_array w (d + 1) _ _ Try.underlying44 hi, cellsB, List.range_eq_range', run_eqItems_ub w d a b (by omega) 32 0 (by omega)]
  simp
/-- The two forms in which the walk asks. -/
theorem eql_hash (w : World) (a b : List UInt8) (ha : a.length = 32) (hb : b.length = 32) : (binOp .eql 44 (hv a) (hv b)).run Try.prog w = .ok (.bool (a == b)) w := by
  have h := run_eq_hash w a b ha hb 9998
  unfold hv at h ⊢
  rw [run_eql_struct, h]
  rfl
theorem neq_hash (w : World) (a b : List UInt8) (ha : a.length = 32) (hb : b.length = 32) : (binOp .neq 44 (hv a) (hv b)).run Try.prog w = .ok (.bool (!(a == b))) w := by
  have h := run_eq_hash w a b ha hb 9998
  unfold hv at h ⊢
  rw [run_neq_struct, h]
  rfl

/-- An error's number. -/
theorem enum_any (k : Nat) (w : World) : Calls Try.prog 20 #[errV k] w fun e w' => e = .returned (.int .i64 k) ∧ w = w' := by
  by_cases hk : k = 0
  · subst hk
    rw [errV_zero]
    go_enter Try.func20, Try.ntmps20
    go_wp2
    go_ret
    exact ⟨rfl, rfl⟩
  · rw [errV_pos hk]
    have hne : ((k : Int) != 0) = true := by simp; omega
    have hta : ∀ w : World, (Instr.typeAssert (.iface 53 (.int .i64 (k : Int))) 27 53 true).run Try.prog w = .ok (.tuple #[.int .i64 (k : Int), .bool true]) w := fun _ => by kernel_rfl
    clear hk
    go_enter Try.func20, Try.ntmps20
    go_wp2
    go_ret
    exact ⟨rfl, rfl⟩
theorem eis_any (k m : Nat) (w : World) : Calls Try.prog 21 #[errV k, .int .i64 m] w fun e w' => e = .returned (.bool (decide (k = m))) ∧ w = w' := by
  go_enter Try.func21, Try.ntmps21
  go_wp2_with (go_at_call 20; refine (enum_any _ _).mono ?_; rintro e w1 ⟨rfl, rfl⟩)
  go_ret
  refine ⟨?_, rfl⟩
  show Ending.returned (.bool _) = _
  congr 2
  rw [Bool.eq_iff_iff]
  simp
  omega
set_option maxHeartbeats 1000000 in
theorem nil_walk (n : Int) (w : World) : Calls Try.prog 6 #[.int .i64 n] w fun e w' => e = .returned (.bool true) ∧ Below w.heap.size w w' := by
  have he11 : errV 11 = .iface 53 (.int .i64 11) := errV_pos (by omega)
  have hz : #[Value.int .u8 0, .int .u8 0, .int .u8 0, .int .u8 0, .int .u8 0, .int .u8 0, .int .u8 0, .int .u8 0, .int .u8 0, .int .u8 0, .int .u8 0, .int .u8 0, .int .u8 0, .int .u8 0, .int .u8 0, .int .u8 0, .int .u8 0, .int .u8 0, .int .u8 0, .int .u8 0, .int .u8 0, .int .u8 0, .int .u8 0, .int .u8 0, .int .u8 0, .int .u8 0, .int .u8 0, .int .u8 0, .int .u8 0, .int .u8 0, .int .u8 0, .int .u8 0] = (ubs z32).toArray := hashZ
  have heq := fun w => eql_hash w z32 z32 z32_length z32_length
  have hb : (z32 == z32) = true := by simp
  rw [hb] at heq
  unfold hv at heq
  have hzv : hv z32 = .agg (ubs z32).toArray := rfl
  go_enter Try.func6, Try.ntmps6
  go_wp2_with (first
    | (go_at_call 7; refine (alive_any _).mono ?_; rintro e w1 ⟨rfl, h1⟩; replace h1 := hid h1)
    | (go_at_call 34; refine (fail_nil _ _).mono ?_; rintro e w2 ⟨rfl, rfl⟩)
    | (go_at_call 25; refine (rnum_nil _ _).mono ?_; rintro e w2 ⟨rfl, rfl⟩)
    | (go_at_call 27; refine (rbytes_nil _ _).mono ?_; rintro e w2 ⟨rfl, rfl⟩)
    | (go_at_call 29; refine (rraw_nil _ _).mono ?_; rintro e w2 ⟨rfl, rfl⟩)
    | (go_at_call 31; refine (rhash_nil _).mono ?_; rintro e w2 ⟨rfl, h2⟩; replace h2 := hid h2)
    | (go_at_call 33; refine (rflag_nil _).mono ?_; rintro e w3 ⟨rfl, rfl⟩)
    | (go_at_call 35; refine (left_nil _).mono ?_; rintro e w3 ⟨rfl, rfl⟩)
    | (go_at_call 37; refine (end_nil _).mono ?_; rintro e w3 ⟨rfl, rfl⟩)
    | (go_at_call 21; refine (he11 ▸ eis_any 11 11 _).mono ?_; rintro e w3 ⟨rfl, rfl⟩))
  go_ret
  exact ⟨rfl, h1.out.trans (h2.out.mono h1.out.size)⟩
end Go.Proofs.Ytmgdngpdgjdicaa
