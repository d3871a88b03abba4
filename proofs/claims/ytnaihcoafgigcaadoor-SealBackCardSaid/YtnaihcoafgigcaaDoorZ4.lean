/-
  Comparing blocks and bytes; errors as numbers; RoundKey.
  The document's round keys are the program's. Nothing here speaks of the program's code.
  What laws over ciphers share: guarded operations, whole rows, the document's round keys.
-/
import Derived.Test.YtnaihcoafgigcaaDoorY1
import Derived.Test.YtnaihcoafgigcaaDoorZ3
import Derived.ChangeKeysEq
import Derived.ArgAppend
import Derived.Test.YtnaihcoafgigcaaDoorEp
import Derived.BigQuiet
import Derived.Deep.Cut
namespace Go.Proofs.YtnaihcoafgigcaaDoor
open Go.RowKit

theorem run_eq_block (w : World) (a b : List UInt8) (ha : a.length = 16) (hb : b.length = 16) (d : Nat) :
    (Op.equalIn (d + 2) 22 (.agg (ubs a).toArray) (.agg (ubs b).toArray)).run Tryd.prog w = .ok (a == b) w := by
  obtain ⟨i, hi⟩ : ∃ i, Tryd.prog.info? 5 = some i := by
    have := info8
    cases h : Tryd.prog.info? 5 with
    | none => simp [h] at this
    | some i => exact ⟨i, rfl⟩
  rw [run_equalIn_array w (d + 1) _ _ Tryd.underlying22 hi, cellsB, List.range_eq_range', run_eqItems_ub w d a b (by omega) 16 0 (by omega)]
  simp
theorem eql_block (w : World) (a b : List UInt8) (ha : a.length = 16) (hb : b.length = 16) : (binOp .eql 22 (.agg (ubs a).toArray) (.agg (ubs b).toArray)).run Tryd.prog w = .ok (.bool (a == b)) w := by
  rw [run_eql_struct, run_eq_block w a b ha hb 9998]
  rfl
theorem eql_block_same (w : World) (a : List UInt8) (ha : a.length = 16) : (binOp .eql 22 (.agg (ubs a).toArray) (.agg (ubs a).toArray)).run Tryd.prog w = .ok (.bool true) w := by
  rw [eql_block w a a ha ha]
  simp
theorem guard16 : Tryd.prog.eqGuardType Tryd.prog.depth 22 = false := by kernel_rfl
/-- Two blocks that are the same, compared. -/
theorem run_eql_blocks {o : Oper} {a : Go.Act} (t2 : TypeId) (x y : Operand) (ho : o.op = .binOp .eql 22 x y t2) (b : List UInt8) (hb : b.length = 16) (hx : a.eval x = .agg (ubs b).toArray) (hy : a.eval y = .agg (ubs b).toArray) (w : World) :
    (execOp a.eval o).run Tryd.prog w = .ok (.value (.bool true)) w :=
  run_eql_op _ _ x y ho _ _ hx hy guard16 true w (eql_block_same w b hb)
set_option maxRecDepth 100000 in
set_option maxHeartbeats 1000000 in
theorem roundKey_out (p : Option Addr) (i : Int) (w : World) (hi : i < 0 ∨ 10 < i) :
    Calls Tryd.prog 80 #[.pointer p, .int .i64 i] w fun e w' => e = .returned (.tuple #[.agg (ubs n16).toArray, .iface 43 (.int .i64 1)]) ∧ Below w.heap.size w w' := by
  have hz := noughts16
  have HAT := hid (At.new w (ubs n16).toArray 22)
  by_cases h0 : i < 0
  · have c0 : decide (i < 0) = true := by simp; omega
    clear hi
    go_enter Tryd.func80, Tryd.ntmps80
    go_wp2_with (refine wpList_store_row rfl _ (.tmp 4) (.tmp 12) rfl w.heap.size (ubs n16).toArray rfl rfl 22 (ubs n16).toArray HAT.out (size16_of n16_length) rfl (ubs_all _) ?_)
    refine bodyPost_ret (results_row_tmp rfl _ _ w.heap.size 22 (ubs n16).toArray (0, 0) _ rfl (setRow_heap _ _ _ _ _ _ HAT.out) Tryd.underlying22 rfl (size16_of n16_length)) rfl ?_
    exact ⟨rfl, below_setRow ((Below.refl _ _).alloc (Nat.le_refl _) _) (Nat.le_refl _) _⟩
  · have c0 : decide (i < 0) = false := by simpa using h0
    have c1 : decide (10 < i) = true := by simp; omega
    clear hi
    go_enter Tryd.func80, Tryd.ntmps80
    go_wp2_with (refine wpList_store_row rfl _ (.tmp 4) (.tmp 12) rfl w.heap.size (ubs n16).toArray rfl rfl 22 (ubs n16).toArray HAT.out (size16_of n16_length) rfl (ubs_all _) ?_)
    refine bodyPost_ret (results_row_tmp rfl _ _ w.heap.size 22 (ubs n16).toArray (0, 0) _ rfl (setRow_heap _ _ _ _ _ _ HAT.out) Tryd.underlying22 rfl (size16_of n16_length)) rfl ?_
    exact ⟨rfl, below_setRow ((Below.refl _ _).alloc (Nat.le_refl _) _) (Nat.le_refl _) _⟩
set_option maxRecDepth 100000 in
set_option maxHeartbeats 1000000 in
theorem roundKey_in (key : List UInt8) (p : Option Addr) (i : Nat) (w : World) (hi : i ≤ 10) (hk : key.length = 16) (hc : Cip w key p) :
    Calls Tryd.prog 80 #[.pointer p, .int .i64 (i : Int)] w fun e w' => e = .returned (.tuple #[.agg (ubs (rk key i)).toArray, .nilIface]) ∧ Below w.heap.size w w' := by
  have hz := noughts16
  have HO := hid (orZeros_any key p _ (hc.below ((Below.refl w.heap.size w).alloc (Nat.le_refl _) (.cells (ubs n16).toArray 22))))
  have HAT := hid (At.new w (ubs n16).toArray 22)
  have HB0 := hid ((Below.refl w.heap.size w).alloc (Nat.le_refl _) (.cells (ubs n16).toArray 22))
  have HRG := hid (fun (W : World) (C : Nat) (h : At W C (ubs (rks key 11)).toArray 94) => rks_range hk h i hi)
  have HRL := hid (rk_length key hk i)
  have c0 : decide ((i : Int) < 0) = false := by simp
  have c1 : decide (10 < (i : Int)) = false := by simp; omega
  have i1 : (i : Int) < 11 := by omega
  have e4 : i * 16 = 16 * i := by omega
  clear hc hk
  go_enter Tryd.func80, Tryd.ntmps80
  go_wp2_with (first
    | (go_at_call 81; refine HO.out.mono ?_; rintro e w1 ⟨C, rfl, hC, hb1⟩; have HC := hid hC; have HB := hid hb1; have HA := hid (HAT.out.new_ hb1); clear hC hb1)
    | (refine wpList_load_mid rfl 22 (.tmp 19) rfl C (16 * i) rfl (ubs (rk key i)) _ (HRG.out _ _ HC.out) Tryd.underlying22 rfl (by rw [size16, ubs_length, HRL.out]) ?_)
    | (refine wpList_store_row rfl _ (.tmp 4) (.tmp 20) rfl w.heap.size (ubs (rk key i)).toArray rfl rfl 22 (ubs n16).toArray HA.out (size16_of HRL.out) ?e5 (ubs_all _) ?e6; rotate_right))
  case e5 => simp [ubs_length, n16_length, HRL.out]
  refine bodyPost_ret (results_row_tmp rfl _ _ w.heap.size 22 (ubs (rk key i)).toArray (0, 0) _ rfl (setRow_heap _ _ _ _ _ _ HA.out) Tryd.underlying22 rfl (size16_of HRL.out)) rfl ?_
  exact ⟨rfl, below_setRow (HB0.out.trans (HB.out.mono HB0.out.size)) (Nat.le_refl _) _⟩
end Go.Proofs.YtnaihcoafgigcaaDoor

namespace Go.Proofs.YtnaihcoafgigcaaDoor
open Go.RowKit

/-- The round keys up to n, and m bytes of the next one. -/
def wk (key : List UInt8) (n m : Nat) : List UInt8 := rks key (n + 1) ++ (List.range m).map (nx (rk key n) (pwd n))
theorem wk_length (key : List UInt8) (h : key.length = 16) (n m : Nat) : (wk key n m).length = 16 * (n + 1) + m := by
  rw [wk, List.length_append, rks_length key h]; simp
theorem wk_old (key : List UInt8) (h : key.length = 16) (n m i : Nat) (hi : i < 16) : (wk key n m).getD (16 * n + i) 0 = (rk key n).getD i 0 := by
  have hl := rks_length key h n
  have hr := rk_length key h n
  rw [wk, rks_succ, List.append_assoc, List.getD_eq_getElem?_getD, List.getD_eq_getElem?_getD, List.getElem?_append_right (by omega), hl, Nat.add_sub_cancel_left, List.getElem?_append_left (by omega)]
theorem wk_new (key : List UInt8) (h : key.length = 16) (n m i : Nat) (hi : i < m) : (wk key n m).getD (16 * (n + 1) + i) 0 = nx (rk key n) (pwd n) i := by
  have hl := rks_length key h (n + 1)
  rw [wk, List.getD_eq_getElem?_getD, List.getElem?_append_right (by omega), hl, Nat.add_sub_cancel_left]
  simp [hi]
theorem kw_wk (key : List UInt8) (n m i : Nat) (f : UInt8) (hb : ∀ j, j < 4 → kb (wk key n m) i f j = nx (rk key n) (pwd n) (m + j)) : kw (wk key n m) i f 4 = wk key n (m + 4) := by
  unfold kw
  rw [show (List.range 4).map (kb (wk key n m) i f) = [kb (wk key n m) i f 0, kb (wk key n m) i f 1, kb (wk key n m) i f 2, kb (wk key n m) i f 3] from rfl, hb 0 (by omega), hb 1 (by omega), hb 2 (by omega), hb 3 (by omega)]
  unfold wk
  rw [List.append_assoc]
  congr 1
  rw [show m + 4 = m + 1 + 1 + 1 + 1 by omega, List.range_succ, List.range_succ, List.range_succ, List.range_succ]
  simp
theorem word_first (key : List UInt8) (h : key.length = 16) (n : Nat) : kw (wk key n 0) (4 * (n + 1)) (pwd n) 4 = wk key n 4 := by
  refine kw_wk key n 0 _ _ fun j hj => ?_
  have o := fun i hi => wk_old key h n 0 i hi
  unfold kb kt
  rw [if_pos (by omega), show 4 * (4 * (n + 1)) - 16 + j = 16 * n + j by omega, o j (by omega), show 4 * (4 * (n + 1)) - 3 = 16 * n + 13 by omega, show 4 * (4 * (n + 1)) - 2 = 16 * n + 14 by omega, show 4 * (4 * (n + 1)) - 1 = 16 * n + 15 by omega, show 4 * (4 * (n + 1)) - 4 = 16 * n + 12 by omega, o 13 (by omega), o 14 (by omega), o 15 (by omega), o 12 (by omega)]
  rcases (by omega : j = 0 ∨ j = 1 ∨ j = 2 ∨ j = 3) with rfl | rfl | rfl | rfl
  · show xr ((rk key n).getD 0 0) (xr (sT ((rk key n).getD 13 0)) (pwd n)) = nx (rk key n) (pwd n) 0
    unfold nx nx0
    simp only [xr_eq, UInt8.xor_assoc]
  · show xr ((rk key n).getD 1 0) (sT ((rk key n).getD 14 0)) = nx (rk key n) (pwd n) 1
    unfold nx nx0
    rfl
  · show xr ((rk key n).getD 2 0) (sT ((rk key n).getD 15 0)) = nx (rk key n) (pwd n) 2
    unfold nx nx0
    rfl
  · show xr ((rk key n).getD 3 0) (sT ((rk key n).getD 12 0)) = nx (rk key n) (pwd n) 3
    unfold nx nx0
    rfl
theorem word_next (key : List UInt8) (h : key.length = 16) (n q : Nat) (hq : q < 3) (f : UInt8) : kw (wk key n (4 * q + 4)) (4 * (n + 1) + (q + 1)) f 4 = wk key n (4 * q + 8) := by
  refine kw_wk key n (4 * q + 4) _ _ fun j hj => ?_
  have o := wk_old key h n (4 * q + 4) (4 * q + 4 + j) (by omega)
  have w := fun i hi => wk_new key h n (4 * q + 4) i hi
  unfold kb kt
  rw [if_neg (by omega), show 4 * (4 * (n + 1) + (q + 1)) - 16 + j = 16 * n + (4 * q + 4 + j) by omega, o,
    show 4 * (4 * (n + 1) + (q + 1)) - 4 = 16 * (n + 1) + 4 * q by omega, show 4 * (4 * (n + 1) + (q + 1)) - 3 = 16 * (n + 1) + (4 * q + 1) by omega, show 4 * (4 * (n + 1) + (q + 1)) - 2 = 16 * (n + 1) + (4 * q + 2) by omega, show 4 * (4 * (n + 1) + (q + 1)) - 1 = 16 * (n + 1) + (4 * q + 3) by omega,
    w (4 * q) (by omega), w (4 * q + 1) (by omega), w (4 * q + 2) (by omega), w (4 * q + 3) (by omega), show 4 * q + 4 + j = (4 * q + j) + 4 by omega, nx_four]
  rcases (by omega : j = 0 ∨ j = 1 ∨ j = 2 ∨ j = 3) with rfl | rfl | rfl | rfl <;> rfl
theorem wk_zero (key : List UInt8) (n : Nat) : wk key n 0 = rks key (n + 1) := by simp [wk]
theorem wk_all (key : List UInt8) (n : Nat) : wk key n 16 = rks key (n + 2) := by
  rw [rks_succ key (n + 1), rk_succ, nxL]
  unfold mk16 wk
  rfl
theorem ks_rks (key : List UInt8) (h : key.length = 16) (n : Nat) : ks key (4 * n) = (rks key (n + 1), pwd n) := by
  induction n with
  | zero =>
    show ks key 0 = _
    rw [ks_zero, rks_succ, rk_zero, pwd_zero, rks_zero]
    rfl
  | succ n ih =>
    rw [show 4 * (n + 1) = 4 * n + 1 + 1 + 1 + 1 by omega, ks_succ, ks_succ, ks_succ, ks_succ, ih]
    have k1 : kf (4 * n + 4) (pwd n) = pwd (n + 1) := by rw [kf, if_pos (by omega), pwd_succ]
    have k2 : kf (4 * n + 1 + 4) (pwd (n + 1)) = pwd (n + 1) := by rw [kf, if_neg (by omega)]
    have k3 : kf (4 * n + 1 + 1 + 4) (pwd (n + 1)) = pwd (n + 1) := by rw [kf, if_neg (by omega)]
    have k4 : kf (4 * n + 1 + 1 + 1 + 4) (pwd (n + 1)) = pwd (n + 1) := by rw [kf, if_neg (by omega)]
    have w1 := word_first key h n
    have w2 := word_next key h n 0 (by omega) (pwd (n + 1))
    have w3 := word_next key h n 1 (by omega) (pwd (n + 1))
    have w4 := word_next key h n 2 (by omega) (pwd (n + 1))
    rw [wk_zero] at w1
    simp only [k1, k2, k3, k4]
    rw [show 4 * n + 4 = 4 * (n + 1) by omega, w1, show 4 * n + 1 + 4 = 4 * (n + 1) + (0 + 1) by omega, w2, show 4 * n + 1 + 1 + 4 = 4 * (n + 1) + (1 + 1) by omega, w3, show 4 * n + 1 + 1 + 1 + 4 = 4 * (n + 1) + (2 + 1) by omega, w4, ← wk_all]
theorem keys_rks (key : List UInt8) (h : key.length = 16) : keysL key = rks key 11 := by
  have := ks_rks key h 10
  rw [keysL, show 40 = 4 * 10 by rfl, this]
end Go.Proofs.YtnaihcoafgigcaaDoor

namespace Go.Proofs.YtnaihcoafgigcaaDoor
open Go.RowKit

theorem stored16_at (w : World) (h : List UInt8) : At ((w.alloc (.cells (ubs n16).toArray 22)).setRow w.heap.size (ubs h).toArray) w.heap.size (ubs h).toArray 22 := setRow_heap _ _ (ubs n16).toArray _ _ _ (At.new _ _ _)
theorem stored16_below (w : World) (h : List UInt8) : Below w.heap.size w ((w.alloc (.cells (ubs n16).toArray 22)).setRow w.heap.size (ubs h).toArray) := below_setRow ((Below.refl _ _).alloc (Nat.le_refl _) _) (Nat.le_refl _) _
theorem run_load_16 {o : Oper} {a : Go.Act} {W : World} (x : Operand) (ho : o.op = .load 22 x) (g : Nat) (hx : a.eval x = .pointer (some ⟨g, 0, none⟩)) (l : List UInt8) (hl : l.length = 16) (h : At W g (ubs l).toArray 22) : (execOp a.eval o).run Tryd.prog W = .ok (.value (.agg (ubs l).toArray)) W :=
  run_load_part _ x ho g 0 hx (ubs l) _ (range_at (a := []) (m := l) (z := []) h (by simp)) Tryd.underlying22 rfl (by rw [size16, ubs_length, hl])
/-- The document's round keys as a row. -/
theorem keysR_row (key : List UInt8) (w : World) (hk : key.length = 16) :
    Calls Tryd.prog 45 #[.agg (ubs key).toArray] w fun e w' => ∃ g cap, e = .returned (.slice (some ⟨g, 0, none⟩) 176 cap) ∧ 176 ≤ cap ∧ Rb w' w'.heap.size (some ⟨g, 0, none⟩) (rks key 11) ∧ Below w.heap.size w w' := by
  refine (keysR_any key w hk).mono ?_
  rintro e w' ⟨v, rfl, ho, _, hb⟩
  rw [keys_rks key hk] at ho
  obtain ⟨A, c, rfl, h1, _, h3, _, h5⟩ := own_form ho
  rcases A with _ | ad
  · have := (h3 rfl).1
    omega
  · obtain ⟨e1, e2, _, _⟩ := h5 ad rfl
    obtain ⟨b, off, spot⟩ := ad
    simp only at e1 e2
    subst e1 e2
    exact ⟨b, c, rfl, h1, Rd.of_own ho, hb⟩
theorem rb_part {W : World} {B g : Nat} {key : List UInt8} (hk : key.length = 16) (h : Rb W B (some ⟨g, 0, none⟩) (rks key 11)) (n : Nat) (hn : n ≤ 10) : Rb W B (some ⟨g, 16 * n, none⟩) (rk key n) := by
  obtain ⟨z, hz⟩ := rks_part key 11 n (by omega)
  have hl := rks_length key hk n
  have hr := rk_length key hk n
  intro hne
  obtain ⟨b, o, e, hb, hc⟩ := h (by rw [hz]; intro e; have := congrArg List.length e; simp [ubs_length, hr] at this)
  cases e
  refine ⟨g, 16 * n, rfl, hb, fun j u hu => ?_⟩
  have := hc (16 * n + j) u (by
    rw [hz, ubs_append, ubs_append, List.getElem?_append_right (by rw [ubs_length]; omega), ubs_length, hl, Nat.add_sub_cancel_left, List.getElem?_append_left (by
      have := (List.getElem?_eq_some_iff.1 hu).1
      exact this)]
    exact hu)
  rwa [Nat.zero_add] at this
theorem rb_at16 {W : World} {g : Nat} {l : List UInt8} {t : TypeId} (h : At W g (ubs l).toArray t) : Rb W W.heap.size (some ⟨g, 0, none⟩) l :=
  Rd.of_at h 0 (fun j u hj => by rw [Nat.zero_add, List.getElem?_toArray]; exact hj) h.lt
theorem elemB : Tryd.prog.elem 55 = 5 := by kernel_rfl
theorem run_slice_part (g cap o o2 : Nat) (h2 : o2 = o + 16) (hc : o2 ≤ cap ∧ o < cap) (W : World) : (Instr.slice 55 (.slice (some ⟨g, 0, none⟩) 176 cap) (some (.int .i64 (o : Int))) (some (.int .i64 (o2 : Int))) none).run Tryd.prog W = .ok (.slice (some ⟨g, o, none⟩) 16 (cap - o)) W := by
  have h := run_slice_lh (P := Tryd.prog) (w := W) (t := 55) (a := some ⟨g, 0, none⟩) (len := 176) (cap := cap) (by kernel_rfl) .i64 .i64 (o : Int) (o2 : Int) (by omega) (by omega) (by omega)
  rw [h, elemB, run_size8]
  simp only [Result.andThen_ok, Int.toNat_natCast, sliced]
  rw [if_neg (by omega), show o2 - o = 16 by omega]
  simp only [Option.map_some, Addr.add_mid]
  rw [show 0 + o * 1 = o by omega]
theorem run_neq_blocks {o : Oper} {a : Go.Act} (t2 : TypeId) (x y : Operand) (ho : o.op = .binOp .neq 22 x y t2) (b : List UInt8) (hb : b.length = 16) (hx : a.eval x = .agg (ubs b).toArray) (hy : a.eval y = .agg (ubs b).toArray) (w : World) :
    (execOp a.eval o).run Tryd.prog w = .ok (.value (.bool false)) w :=
  run_neq_op _ _ x y ho _ _ hx hy guard16 false w (by rw [run_neq_struct, run_eq_block w b b hb hb 9998]; simp)
end Go.Proofs.YtnaihcoafgigcaaDoor
