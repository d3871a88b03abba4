/-
  The program's field: doubling, product, inverse, substitute.
  The program's blocks: sum, bytes replaced by a table's, rows turned, columns mixed.
  The program's tables: substitutes, and the bytes that have them.
  The program's originals, walked.
  The program's next round key.
-/
import Derived.Test.YtnaihcoafgigcaaDoorZ1
import Derived.StillTailTactics
import Derived.BigQuiet
import Derived.Deep.MidRow
import Derived.Test.YtnaihcoafgigcaaDoorX0
import Derived.Great.Walk
namespace Go.Proofs.YtnaihcoafgigcaaDoor
open Go.RowKit

theorem dbl_x (x : UInt8) (h : 128 ≤ x.toNat) : dbl x = xr (UInt8.ofNat (x.toNat * 2 % 256)) 27 := by
  have hl := x.toNat_lt
  rw [dbl_high x h, xr_eq, show x.toNat * 2 % 256 = (x.toNat - 128) * 2 by omega]
set_option maxRecDepth 100000 in
theorem pdouble_any (x : UInt8) (w : World) :
    Calls Tryd.prog 41 #[.int .u8 (x.toNat : Int)] w fun e w' => e = .returned (.int .u8 ((dbl x).toNat : Int)) ∧ w' = w := by
  have hlt := x.toNat_lt
  have hs : binOp .shr 5 (.int .u8 (x.toNat : Int)) (.int .u64 7) = pure (.int .u8 ((x.toNat / 2 ^ 7 : Nat) : Int)) := b_shr 5 x.toNat 7 (by omega)
  have hl : binOp .shl 5 (.int .u8 (x.toNat : Int)) (.int .u64 1) = pure (.int .u8 ((x.toNat * 2 ^ 1 % 256 : Nat) : Int)) := b_shl8 5 x.toNat 1 (by omega)
  rw [show x.toNat * 2 ^ 1 % 256 = x.toNat * 2 % 256 by rfl] at hl
  obtain ⟨q, hq⟩ : ∃ q, q = x.toNat / 2 ^ 7 := ⟨_, rfl⟩
  rw [← hq] at hs
  by_cases h : 128 ≤ x.toNat
  · have hx := b_xr 5 (UInt8.ofNat (x.toNat * 2 % 256)) 27
    rw [← dbl_x x h, of_toNat _ (by omega)] at hx
    replace hx : binOp .xor 5 (.int .u8 ((x.toNat * 2 % 256 : Nat) : Int)) (.int .u8 27) = pure (.int .u8 ((dbl x).toNat : Int)) := hx
    obtain ⟨y, hy⟩ : ∃ y, y = dbl x := ⟨_, rfl⟩
    obtain ⟨m, hm⟩ : ∃ m, m = x.toNat * 2 % 256 := ⟨_, rfl⟩
    rw [← hy] at hx ⊢
    rw [← hm] at hx hl
    have c1 : ((q : Int) == 1) = true := by simp; omega
    clear hy hm hq
    go_enter Tryd.func41, Tryd.ntmps41
    go_wp2
    go_ret
    exact ⟨rfl, rfl⟩
  · have e1 : ((dbl x).toNat : Int) = ((x.toNat * 2 % 256 : Nat) : Int) := by rw [dbl_low x h, of_toNat _ (by omega)]; omega
    obtain ⟨m, hm⟩ : ∃ m, m = x.toNat * 2 % 256 := ⟨_, rfl⟩
    rw [e1, ← hm]
    rw [← hm] at hl
    have c1 : ((q : Int) == 1) = false := by simp; omega
    clear hm hq e1
    go_enter Tryd.func41, Tryd.ntmps41
    go_wp2
    go_ret
    exact ⟨rfl, rfl⟩
theorem b_shrI (t : TypeId) (a k : Nat) (h : k ≤ 8) : binOp .shr t (.int .u8 (a : Int)) (.int .i64 (k : Int)) = pure (.int .u8 ((a / 2 ^ k : Nat) : Int)) := by
  simp only [binOp]
  unfold Op.shift
  rw [if_neg (by omega)]
  simp only
  congr 2
  show (a : Int).fdiv (2 ^ (min (k : Int).toNat 8)) = _
  rw [Int.toNat_natCast, Nat.min_eq_left h, Int.fdiv_eq_ediv_of_nonneg _ (Int.pow_nonneg (by omega)), Int.natCast_ediv, Int.natCast_pow]
  rfl
theorem b_one (t : TypeId) (q : Nat) (h : q < 256) : binOp .and t (.int .u8 (q : Int)) (.int .u8 1) = pure (.int .u8 ((q % 2 : Nat) : Int)) := by
  simp only [binOp_and, Op.intBits]
  show (pure (.int .u8 (IntKind.u8.wrap ((BitVec.ofInt 8 (q : Int) &&& BitVec.ofInt 8 1).toNat : Int))) : Sem Value) = _
  congr 2
  rw [BitVec.ofInt_natCast, show (BitVec.ofInt 8 1) = BitVec.ofNat 8 1 by rfl, BitVec.toNat_and, BitVec.toNat_ofNat, BitVec.toNat_ofNat, Nat.mod_eq_of_lt (by omega), show 1 % 2 ^ 8 = 1 by rfl, Nat.and_one_is_mod]
  simp [IntKind.wrap, IntKind.signed, IntKind.bits]
  omega
/-- A power whose exponent is 254, step by step. -/
def sqk (a : UInt8) : Nat → UInt8
  | 0 => a
  | k + 1 => prod (sqk a k) (sqk a k)
def pwk (a : UInt8) : Nat → UInt8
  | 0 => 1
  | k + 1 => prod (pwk a k) (sqk a (k + 1))
theorem sqk_zero (a : UInt8) : sqk a 0 = a := rfl
theorem sqk_succ (a : UInt8) (k : Nat) : sqk a (k + 1) = prod (sqk a k) (sqk a k) := rfl
theorem pwk_zero (a : UInt8) : pwk a 0 = 1 := rfl
theorem pwk_succ (a : UInt8) (k : Nat) : pwk a (k + 1) = prod (pwk a k) (sqk a (k + 1)) := rfl
theorem pwk_inv (a : UInt8) : pwk a 7 = inv a := by
  rw [inv_iT]
  have := all_bytes (p := fun a => pwk a 7 == iT a) (by decide +kernel) a
  simpa using this
attribute [irreducible] sqk pwk
/-- A byte turned left by up to seven places. -/
def rotN (x : UInt8) (k : Nat) : UInt8 := UInt8.ofNat (x.toNat * 2 ^ k % 256 ||| x.toNat / 2 ^ (8 - k))
set_option maxRecDepth 100000 in
set_option maxHeartbeats 1000000 in
theorem rotl8_any (x : UInt8) (k : Nat) (hk : k < 8) (w : World) :
    Calls Tryd.prog 70 #[.int .u8 (x.toNat : Int), .int .i64 (k : Int)] w fun e w' => e = .returned (.int .u8 ((rotN x k).toNat : Int)) ∧ w' = w := by
  have hxl := x.toNat_lt
  have hs1 := b_shl8 5 x.toNat k (by omega)
  have hs2 := b_shr 5 x.toNat (8 - k) (by omega)
  rw [show ((8 - k : Nat) : Int) = 8 - (k : Int) by omega] at hs2
  have hdl : x.toNat / 2 ^ (8 - k) < 256 := by have := Nat.div_le_self x.toNat (2 ^ (8 - k)); omega
  have ho := b_or 5 (x.toNat * 2 ^ k % 256) (x.toNat / 2 ^ (8 - k)) (Nat.mod_lt _ (by omega)) hdl
  obtain ⟨y, hy⟩ : ∃ y, y = rotN x k := ⟨_, rfl⟩
  have hy2 : UInt8.ofNat (x.toNat * 2 ^ k % 256 ||| x.toNat / 2 ^ (8 - k)) = y := by rw [hy]; unfold rotN; rfl
  rw [hy2] at ho
  obtain ⟨p, hp⟩ : ∃ p, p = x.toNat * 2 ^ k % 256 := ⟨_, rfl⟩
  obtain ⟨q, hq⟩ : ∃ q, q = x.toNat / 2 ^ (8 - k) := ⟨_, rfl⟩
  rw [← hp] at hs1 ho
  rw [← hq] at hs2 ho hdl
  have h7 : binOp .and 57 (.int .u64 (k : Int)) (.int .u64 7) = pure (.int .u64 (k : Int)) := by
    simp only [binOp_and, Op.intBits]
    show (pure (.int .u64 (IntKind.u64.wrap ((BitVec.ofInt 64 (k : Int) &&& BitVec.ofInt 64 7).toNat : Int))) : Sem Value) = _
    congr 2
    rw [BitVec.ofInt_natCast, show (BitVec.ofInt 64 7) = BitVec.ofNat 64 7 by rfl, BitVec.toNat_and, BitVec.toNat_ofNat, BitVec.toNat_ofNat, Nat.mod_eq_of_lt (by omega), show 7 % 2 ^ 64 = 2 ^ 3 - 1 by rfl, Nat.and_two_pow_sub_one_eq_mod, Nat.mod_eq_of_lt (by omega)]
    simp [IntKind.wrap, IntKind.signed, IntKind.bits]
    omega
  rw [← hy]
  have hpl : p < 256 := by rw [hp]; exact Nat.mod_lt _ (by omega)
  clear hy hy2 hp hq
  go_enter Tryd.func70, Tryd.ntmps70
  go_wp2
  go_ret
  exact ⟨rfl, rfl⟩
/-- A substitute of the byte with the inverse x, k turns of it. -/
def psk (x : UInt8) : Nat → UInt8
  | 0 => 99
  | k + 1 => xr (psk x k) (rotN x k)
theorem psk_zero (x : UInt8) : psk x 0 = 99 := rfl
theorem psk_succ (x : UInt8) (k : Nat) : psk x (k + 1) = xr (psk x k) (rotN x k) := rfl
/-- The substitute of the byte with the inverse x. -/
def soT (x : UInt8) : UInt8 := sT (iT x)
theorem iT_iT (x : UInt8) : iT (iT x) = x := by
  have := all_bytes (p := fun a => iT (iT a) == a) (by decide +kernel) x
  simpa using this
theorem psk_soT (x : UInt8) : psk x 5 = soT x := by
  have h : subk x 4 = soT x := by
    rw [soT, ← sub_sT, sub, inv_iT, iT_iT]
  rw [← h, psk_succ, psk_succ, psk_succ, psk_succ, psk_succ, psk_zero, subk_succ, subk_succ, subk_succ, subk_succ, subk_zero]
  simp only [xr_eq]
  have h0 : rotN x 0 = x := by
    have := all_bytes (p := fun a => rotN a 0 == a) (by decide +kernel) x
    simpa using this
  have hr : ∀ k, rotN x k = rotB x k := fun k => by unfold rotN rotB; rfl
  rw [h0, hr, hr, hr, hr]
  congr 4
  exact UInt8.xor_comm _ _
attribute [irreducible] rotN psk
set_option maxRecDepth 100000 in
set_option maxHeartbeats 1000000 in
theorem substituteOf_any (x : UInt8) (w : World) :
    Calls Tryd.prog 57 #[.int .u8 (x.toNat : Int)] w fun e w' => e = .returned (.int .u8 ((soT x).toNat : Int)) ∧ w' = w := by
  have HR := hid (fun k (h : k < 8) => rotl8_any x k h w)
  have HE := hid (psk_soT x)
  go_enter Tryd.func57, Tryd.ntmps57
  go_wp2
  go_loop [3, 5] (fun vo vk => ∃ (k : Nat) (o : UInt8), k ≤ 5 ∧ vk = .int .i64 k ∧ vo = .int .u8 (o.toNat : Int) ∧ Hid (psk x k = o)) (fun _ vk => 5 - (intOf vk).toNat)
  case atStart => exact ⟨0, 99, by omega, rfl, rfl, psk_zero x⟩
  case round =>
    obtain ⟨k, o, hk, rfl, rfl, HO⟩ := hrel
    by_cases hlt : k < 5
    · have C := HR.out k (by omega)
      obtain ⟨y, hy⟩ : ∃ y, y = rotN x k := ⟨_, rfl⟩
      rw [← hy] at C
      have hx := b_xr 5 o y
      obtain ⟨z, hz⟩ : ∃ z, z = xr o y := ⟨_, rfl⟩
      rw [← hz] at hx
      have HZ := hid (show psk x (k + 1) = z by rw [psk_succ, HO.out, ← hy, hz])
      replace C := hid C
      clear hy hz HO
      go_wp2_with (go_at_call 70; refine C.out.mono ?_; rintro e w' ⟨rfl, hw⟩; rw [hw])
      go_round
      case rel => exact ⟨k + 1, z, by omega, by go_num, rfl, HZ⟩
      case measure => simp [intOf]; omega
    · obtain rfl : k = 5 := by omega
      have HQ := hid (HE.out.symm.trans HO.out)
      go_wp2
      go_ret
      exact ⟨by rw [HQ.out]; rfl, rfl⟩
theorem soT_inv (a : UInt8) : soT (inv a) = sT a := by rw [soT, inv_iT, iT_iT]
end Go.Proofs.YtnaihcoafgigcaaDoor

namespace Go.Proofs.YtnaihcoafgigcaaDoor
open Go.RowKit

/-- The sum of two blocks. -/
def xorF (a b : List UInt8) (i : Nat) : UInt8 := xr (a.getD i 0) (b.getD i 0)
def xorL (a b : List UInt8) : List UInt8 := mk16 (xorF a b)
theorem xorL_length (a b : List UInt8) : (xorL a b).length = 16 := mk16_length _
theorem size16_of {l : List UInt8} (h : l.length = 16) : (Tryd.prog.info? 22).map (·.size) = some (ubs l).toArray.size := by rw [size16]; simp [ubs_length, h]
/-- Three blocks of the call's own. -/
structure Tri (w : World) (x y z : List UInt8) (wr : World) : Prop where
  a0 : At wr w.heap.size (ubs x).toArray 22
  a1 : At wr (w.heap.size + 1) (ubs y).toArray 22
  a2 : At wr (w.heap.size + 2) (ubs z).toArray 22
  below : Below w.heap.size w wr
theorem Tri.start (w : World) (x y z : List UInt8) : Tri w x y z (((w.alloc (.cells (ubs x).toArray 22)).alloc (.cells (ubs y).toArray 22)).alloc (.cells (ubs z).toArray 22)) :=
  ⟨((At.new _ _ _).alloc _).alloc _, (At.new_at (by simp)).alloc _, At.new_at (by simp), (((Below.refl _ _).alloc (Nat.le_refl _) _).alloc (by simp) _).alloc (by simp; omega) _⟩
theorem Tri.drewN {w wr : World} {x y z : List UInt8} (h : Tri w x y z wr) (n : Nat) : Tri w x y z (wr.drewN n) := ⟨h.a0, h.a1, h.a2, below_drewN h.below n⟩
theorem Tri.put {w wr : World} {x y z : List UInt8} (h : Tri w x y z wr) (i : Nat) (b : UInt8) : Tri w (x.set i b) y z (wr.setCell ⟨w.heap.size, i, none⟩ (.int .u8 (b.toNat : Int))) :=
  ⟨at_ub_put h.a0 i b, h.a1.far (p := ⟨w.heap.size, i, none⟩) (by simp) _, h.a2.far (p := ⟨w.heap.size, i, none⟩) (by simp) _, h.below.setCell (by simp) _⟩
theorem Tri.put2 {w wr : World} {x y z : List UInt8} (h : Tri w x y z wr) (i : Nat) (b : UInt8) : Tri w x y (z.set i b) (wr.setCell ⟨w.heap.size + 2, i, none⟩ (.int .u8 (b.toNat : Int))) :=
  ⟨h.a0.far (p := ⟨w.heap.size + 2, i, none⟩) (by simp) _, h.a1.far (p := ⟨w.heap.size + 2, i, none⟩) (by simp) _, at_ub_put h.a2 i b, h.below.setCell (by simp) _⟩
set_option maxRecDepth 100000 in
set_option maxHeartbeats 1000000 in
theorem psum_any (a b : List UInt8) (w : World) (ha : a.length = 16) (hb : b.length = 16) :
    Calls Tryd.prog 82 #[.agg (ubs a).toArray, .agg (ubs b).toArray] w fun e w' => e = .returned (.agg (ubs (xorL a b)).toArray) ∧ Below w.heap.size w w' := by
  have H0 := hid (Tri.start w a b n16)
  have HL := hid ha
  have HLB := hid hb
  have hz := noughts16
  have HZ := hid (size16_of (xorL_length a b))
  have HLN := hid (xorL_length a b)
  clear ha hb
  go_enter Tryd.func82, Tryd.ntmps82
  go_wp2
  clear hz
  go_loopw [6] (fun vi wr => ∃ j : Nat, j ≤ 16 ∧ vi = .int .i64 j ∧ Tri w (upd a (xorF a b) j) b n16 wr) (fun vi _ => 16 - (intOf vi).toNat)
  case atStart => exact ⟨0, by omega, rfl, by rw [upd_zero]; exact H0.out⟩
  case round =>
    clear H0
    obtain ⟨j, hj, rfl, hA⟩ := hrel
    have HA := hid hA
    clear hA
    by_cases hlt : j < 16
    · have hjb : j < a.length := by rw [HL.out]; exact hlt
      have c0 := at_ub_cell HA.out.a0 (i := j) (by rw [upd_length _ _ _ (by omega)]; exact hjb)
      rw [upd_get a _ j j (Nat.le_refl _) hjb] at c0
      have f0 := HA.out.a0.frozen j
      have c1 := at_ub_cell HA.out.a1 (i := j) (by rw [HLB.out]; exact hlt)
      have HN := hid (upd_succ a (xorF a b) j hjb)
      have hxx := b_xr 5 (a.getD j 0) (b.getD j 0)
      have hF : xr (a.getD j 0) (b.getD j 0) = xorF a b j := rfl
      rw [hF] at hxx
      obtain ⟨y, hy⟩ : ∃ y, y = xorF a b j := ⟨_, rfl⟩
      rw [← hy] at hxx HN
      obtain ⟨x1, hx1⟩ : ∃ x, x = a.getD j 0 := ⟨_, rfl⟩
      obtain ⟨x2, hx2⟩ : ∃ x, x = b.getD j 0 := ⟨_, rfl⟩
      rw [← hx1] at hxx c0
      rw [← hx2] at hxx c1
      clear hF hy hx1 hx2 hjb
      go_wp2
      refine wp_region_still_tail 8 (by kernel_rfl) (by kernel_rfl) ?_
      simp only [List.take_succ_cons, List.take_zero, List.drop_succ_cons, List.drop_zero]
      obtain ⟨W2, hW2⟩ : ∃ W2 : World, { wr with drawn := wr.drawn + 1 } = W2 := ⟨_, rfl⟩
      rw [hW2]
      have HB := hid (show Tri w (upd a (xorF a b) j) b n16 W2 by rw [← hW2]; exact HA.out.drewN 1)
      have d0 : W2.cell? ⟨w.heap.size, j, none⟩ = some (.int .u8 (x1.toNat : Int)) := by rw [← hW2]; exact c0
      have d1 : W2.cell? ⟨w.heap.size + 1, j, none⟩ = some (.int .u8 (x2.toNat : Int)) := by rw [← hW2]; exact c1
      have d2 : W2.frozen? ⟨w.heap.size, j, none⟩ = false := by rw [← hW2]; exact f0
      clear hW2 c0 c1 f0 HA
      repeat still_step
      refine wpStill_nil ?_
      go_wp2
      go_roundw
      case rel => exact ⟨j + 1, by omega, by go_num, by rw [HN.out]; exact HB.out.put j y⟩
      case measure => simp [intOf]; omega
    · obtain rfl : j = 16 := by omega
      have ha := HA.out
      rw [upd_all a _ HL.out] at ha
      have HA2 := hid (show Tri w (xorL a b) b n16 wr from ha)
      clear ha HA
      go_wp2_with (first
        | (refine wpList_load_row rfl _ (.tmp 2) rfl w.heap.size rfl 22 (ubs (xorL a b)).toArray (0, 0) _ HA2.out.a0 Tryd.underlying22 rfl HZ.out ?_)
        | (refine wpList_store_row rfl _ (.tmp 4) (.tmp 18) rfl (w.heap.size + 2) (ubs (xorL a b)).toArray rfl rfl 22 (ubs n16).toArray HA2.out.a2 HZ.out ?e5 (ubs_all _) ?e6; rotate_right))
      case e5 => simp [ubs_length, n16_length, HLN.out]
      refine bodyPost_ret (results_cell_row rfl _ _ (w.heap.size + 2) 22 (ubs (xorL a b)).toArray (0, 0) _ rfl (setRow_heap _ _ _ _ _ _ HA2.out.a2) Tryd.underlying22 rfl HZ.out) rfl ?_
      exact ⟨rfl, below_setRow HA2.out.below (by omega) _⟩
/-- An operation that yields a value. -/
theorem wpList_val {P : Program} {ops : Array Oper} {rest : List Oper} {o : Oper} {a : Go.Act} {w w' : World} {Q : Exit → Go.Act → World → Prop} (v : Value) (hg : o.guard = none) (hrun : (execOp a.eval o).run P w = .ok (.value v) w')
    (h : wpList P ops Q rest (a.put o.dst v) w') : wpList P ops Q (o :: rest) a w := by
  refine wpList_plain hg fun K hK => ?_
  unfold Oper.wp
  rw [hrun]
  exact hK _ _ h
theorem info8 : (Tryd.prog.info? 5).map (·.size) = some 1 := by kernel_rfl
/-- A byte of an array that is a value. -/
theorem run_index_ub {o : Oper} {a : Go.Act} {W : World} (t : TypeId) (n : Nat) (x c : Operand) (ho : o.op = .index t x c) (hu : Tryd.prog.underlying t = some (.array n 5)) (bs : List UInt8) (hx : a.eval x = .agg (ubs bs).toArray)
    (i : Nat) (hc : a.eval c = .int .i64 (i : Int)) (hi : i < n) (hl : bs.length = n) : (execOp a.eval o).run Tryd.prog W = .ok (.value (.int .u8 ((bs.getD i 0).toNat : Int))) W := by
  unfold execOp
  simp only [ho, hx, hc]
  cases hq : Tryd.prog.info? 5 with
  | none => have := info8; rw [hq] at this; cases this
  | some inf =>
    have hs : inf.size = 1 := by have := info8; rw [hq] at this; simpa using this
    have he : (ubs bs)[i]? = some (.int .u8 ((bs.getD i 0).toNat : Int)) := by
      rw [ubs_get, List.getD_eq_getElem?_getD, List.getElem?_eq_getElem (by omega)]
      rfl
    simp [Instr.index, asIntOf, run_underlying hu, hi, part, sizeOf, typeInfo, hq, hs, he]
/-- Two blocks of the call's own. -/
structure Duo (w : World) (x z : List UInt8) (wr : World) : Prop where
  a0 : At wr w.heap.size (ubs x).toArray 22
  a1 : At wr (w.heap.size + 1) (ubs z).toArray 22
  below : Below w.heap.size w wr
theorem Duo.start (w : World) (x z : List UInt8) : Duo w x z ((w.alloc (.cells (ubs x).toArray 22)).alloc (.cells (ubs z).toArray 22)) :=
  ⟨(At.new _ _ _).alloc _, At.new_at (by simp), ((Below.refl _ _).alloc (Nat.le_refl _) _).alloc (by simp) _⟩
theorem Duo.drewN {w wr : World} {x z : List UInt8} (h : Duo w x z wr) (n : Nat) : Duo w x z (wr.drewN n) := ⟨h.a0, h.a1, below_drewN h.below n⟩
theorem Duo.put {w wr : World} {x z : List UInt8} (h : Duo w x z wr) (i : Nat) (b : UInt8) : Duo w (x.set i b) z (wr.setCell ⟨w.heap.size, i, none⟩ (.int .u8 (b.toNat : Int))) :=
  ⟨at_ub_put h.a0 i b, h.a1.far (p := ⟨w.heap.size, i, none⟩) (by simp) _, h.below.setCell (by simp) _⟩
/-- Bytes replaced by a table's. -/
def repF (tab b : List UInt8) (i : Nat) : UInt8 := tab.getD (b.getD i 0).toNat 0
def repL (tab b : List UInt8) : List UInt8 := mk16 (repF tab b)
theorem repL_length (tab b : List UInt8) : (repL tab b).length = 16 := mk16_length _
set_option maxRecDepth 100000 in
set_option maxHeartbeats 1000000 in
theorem preplaced_any (tab b : List UInt8) (T : Nat) (w : World) (ht : tab.length = 256) (hb : b.length = 16) (hT : At w T (ubs tab).toArray 95) :
    Calls Tryd.prog 84 #[.agg (ubs b).toArray, .pointer (some ⟨T, 0, none⟩)] w fun e w' => e = .returned (.agg (ubs (repL tab b)).toArray) ∧ Below w.heap.size w w' := by
  have H0 := hid (Duo.start w b n16)
  have HL := hid hb
  have HTL := hid ht
  have HT := hid hT
  have hz := noughts16
  have HZ := hid (size16_of (repL_length tab b))
  have HZB := hid (size16_of hb)
  have HLN := hid (repL_length tab b)
  clear hb ht hT
  go_enter Tryd.func84, Tryd.ntmps84
  go_wp2_with (refine wpList_load_row rfl _ (.tmp 2) rfl w.heap.size rfl 22 (ubs b).toArray (0, 0) _ H0.out.a0 Tryd.underlying22 rfl HZB.out ?_)
  clear hz
  go_loopw [8] (fun vi wr => ∃ j : Nat, j ≤ 16 ∧ vi = .int .i64 j ∧ Duo w (upd b (repF tab b) j) n16 wr) (fun vi _ => 16 - (intOf vi).toNat)
  case atStart => exact ⟨0, by omega, rfl, by rw [upd_zero]; exact H0.out⟩
  case round =>
    clear H0
    obtain ⟨j, hj, rfl, hA⟩ := hrel
    have HA := hid hA
    clear hA
    by_cases hlt : j < 16
    · have hjb : j < b.length := by rw [HL.out]; exact hlt
      have c0 := at_ub_cell HA.out.a0 (i := j) (by rw [upd_length _ _ _ (by omega)]; exact hjb)
      have f0 := HA.out.a0.frozen j
      have HN := hid (upd_succ b (repF tab b) j hjb)
      have hF : tab.getD (b.getD j 0).toNat 0 = repF tab b j := rfl
      have hxl := (b.getD j 0).toNat_lt
      have c1 := at_ub_cell (HT.out.new_ HA.out.below) (i := (b.getD j 0).toNat) (by rw [HTL.out]; omega)
      rw [hF] at c1
      obtain ⟨y, hy⟩ : ∃ y, y = repF tab b j := ⟨_, rfl⟩
      rw [← hy] at c1 HN
      have HI := hid (fun (o : Oper) (a : Go.Act) (W : World) (h1 : o.op = .index 22 (.tmp 7) (.tmp 8)) (h2 : a.eval (.tmp 7) = .agg (ubs b).toArray) (h3 : a.eval (.tmp 8) = .int .i64 (j : Int)) => run_index_ub (o := o) (a := a) (W := W) _ 16 _ _ h1 Tryd.underlying22 b h2 j h3 hlt HL.out)
      obtain ⟨x1, hx1⟩ : ∃ x, x = b.getD j 0 := ⟨_, rfl⟩
      rw [← hx1] at c1 HI hxl
      obtain ⟨x2, hx2⟩ : ∃ x, x = (upd b (repF tab b) j).getD j 0 := ⟨_, rfl⟩
      rw [← hx2] at c0
      clear hF hy hx1 hx2 hjb
      go_wp2_with (refine wpList_val _ rfl (HI.out _ _ _ rfl rfl rfl) ?_)
      go_roundw
      case rel => exact ⟨j + 1, by omega, by go_num, by rw [HN.out]; exact HA.out.put j y⟩
      case measure => simp [intOf]; omega
    · obtain rfl : j = 16 := by omega
      have ha := HA.out
      rw [upd_all b _ HL.out] at ha
      have HA2 := hid (show Duo w (repL tab b) n16 wr from ha)
      clear ha HA
      go_wp2_with (first
        | (refine wpList_load_row rfl _ (.tmp 2) rfl w.heap.size rfl 22 (ubs (repL tab b)).toArray (0, 0) _ HA2.out.a0 Tryd.underlying22 rfl HZ.out ?_)
        | (refine wpList_store_row rfl _ (.tmp 4) (.tmp 20) rfl (w.heap.size + 1) (ubs (repL tab b)).toArray rfl rfl 22 (ubs n16).toArray HA2.out.a1 HZ.out ?e5 (ubs_all _) ?e6; rotate_right))
      case e5 => simp [ubs_length, n16_length, HLN.out]
      refine bodyPost_ret (results_cell_row rfl _ _ (w.heap.size + 1) 22 (ubs (repL tab b)).toArray (0, 0) _ rfl (setRow_heap _ _ _ _ _ _ HA2.out.a1) Tryd.underlying22 rfl HZ.out) rfl ?_
      exact ⟨rfl, below_setRow HA2.out.below (by omega) _⟩
/-- Rows turned k times. -/
def turF (k : Nat) (b : List UInt8) (i : Nat) : UInt8 := b.getD ((i + 4 * (i % 4) * k) % 16) 0
def turL (k : Nat) (b : List UInt8) : List UInt8 := mk16 (turF k b)
theorem turL_length (k : Nat) (b : List UInt8) : (turL k b).length = 16 := mk16_length _
set_option maxRecDepth 100000 in
set_option maxHeartbeats 1000000 in
theorem pturned_any (b : List UInt8) (k : Nat) (w : World) (hb : b.length = 16) (hk : k ≤ 3) :
    Calls Tryd.prog 83 #[.agg (ubs b).toArray, .int .i64 (k : Int)] w fun e w' => e = .returned (.agg (ubs (turL k b)).toArray) ∧ Below w.heap.size w w' := by
  have H0 := hid (Tri.start w b n16 n16)
  have HL := hid hb
  have hz := noughts16
  have HZ := hid (size16_of (turL_length k b))
  have HLN := hid (turL_length k b)
  clear hb
  go_enter Tryd.func83, Tryd.ntmps83
  go_wp2
  clear hz
  go_loopw [8] (fun vi wr => ∃ j : Nat, j ≤ 16 ∧ vi = .int .i64 j ∧ Tri w b n16 (upd n16 (turF k b) j) wr) (fun vi _ => 16 - (intOf vi).toNat)
  case atStart => exact ⟨0, by omega, rfl, by rw [upd_zero]; exact H0.out⟩
  case round =>
    clear H0
    obtain ⟨j, hj, rfl, hA⟩ := hrel
    have HA := hid hA
    clear hA
    by_cases hlt : j < 16
    · obtain ⟨r, hr⟩ : ∃ r, r = j % 4 := ⟨_, rfl⟩
      obtain ⟨m, hm⟩ : ∃ m, m = 4 * r * k := ⟨_, rfl⟩
      obtain ⟨i, hi⟩ : ∃ i, i = (j + m) % 16 := ⟨_, rfl⟩
      have hrl : r < 4 := by omega
      have hml : m ≤ 36 := by
        have : 4 * r * k ≤ 12 * 3 := Nat.mul_le_mul (by omega) hk
        omega
      have e1 : (j : Int) % 4 = (r : Int) := by omega
      have e2 : 4 * (r : Int) * (k : Int) = (m : Int) := by rw [hm]; simp
      have e3 : ((j : Int) + (m : Int)) % 16 = (i : Int) := by omega
      have hil : i < 16 := by omega
      have c0 := at_ub_cell HA.out.a0 (i := i) (by rw [HL.out]; exact hil)
      have c2 := at_ub_cell HA.out.a2 (i := j) (by rw [upd_length _ _ _ (by rw [n16_length]; omega), n16_length]; exact hlt)
      have f0 := HA.out.a2.frozen j
      have HN := hid (upd_succ n16 (turF k b) j (by rw [n16_length]; exact hlt))
      have hF : b.getD i 0 = turF k b j := by unfold turF; rw [hi, hm, hr]
      rw [hF] at c0
      obtain ⟨y, hy⟩ : ∃ y, y = turF k b j := ⟨_, rfl⟩
      rw [← hy] at c0 HN
      clear hF hy hm hi hr
      go_wp2
      go_roundw
      case rel => exact ⟨j + 1, by omega, by go_num, by rw [HN.out]; exact HA.out.put2 j y⟩
      case measure => simp [intOf]; omega
    · obtain rfl : j = 16 := by omega
      have ha := HA.out
      rw [upd_all n16 _ n16_length] at ha
      have HA2 := hid (show Tri w b n16 (turL k b) wr from ha)
      clear ha HA
      go_wp2_with (first
        | (refine wpList_load_row rfl _ (.tmp 5) rfl (w.heap.size + 2) rfl 22 (ubs (turL k b)).toArray (0, 0) _ HA2.out.a2 Tryd.underlying22 rfl HZ.out ?_)
        | (refine wpList_store_row rfl _ (.tmp 4) (.tmp 25) rfl (w.heap.size + 1) (ubs (turL k b)).toArray rfl rfl 22 (ubs n16).toArray HA2.out.a1 HZ.out ?e5 (ubs_all _) ?e6; rotate_right))
      case e5 => simp [ubs_length, n16_length, HLN.out]
      refine bodyPost_ret (results_cell_row rfl _ _ (w.heap.size + 1) 22 (ubs (turL k b)).toArray (0, 0) _ rfl (setRow_heap _ _ _ _ _ _ HA2.out.a1) Tryd.underlying22 rfl HZ.out) rfl ?_
      exact ⟨rfl, below_setRow HA2.out.below (by omega) _⟩
theorem run_size8 (W : World) : (sizeOf 5).run Tryd.prog W = .ok 1 W := by
  cases hq : Tryd.prog.info? 5 with
  | none => have := info8; rw [hq] at this; cases this
  | some inf =>
    have hs : inf.size = 1 := by have := info8; rw [hq] at this; simpa using this
    simp [sizeOf, typeInfo, hq, hs]
theorem arrayLen16 : Tryd.prog.arrayLen 22 = 16 := by kernel_rfl
theorem elem16 : Tryd.prog.elem 22 = 5 := by kernel_rfl
/-- Four bytes of a block. -/
theorem run_slice16 (s m m4 : Nat) (h4 : m4 = m + 4) (h16 : m4 ≤ 16) (W : World) : (Instr.sliceAt 22 (.pointer (some ⟨s, 0, none⟩)) (some (.int .i64 (m : Int))) (some (.int .i64 (m4 : Int))) none).run Tryd.prog W = .ok (.slice (some ⟨s, m, none⟩) 4 (16 - m)) W := by
  have h := run_sliceAt_array_lh (P := Tryd.prog) W 22 ⟨s, 0, none⟩ (by kernel_rfl) .i64 .i64 (m : Int) (m4 : Int) (by omega) (by omega) (by rw [arrayLen16]; omega)
  rw [h, elem16, run_size8, arrayLen16]
  simp only [Result.andThen_ok, Int.toNat_natCast, slicedAt]
  rw [if_neg (by omega), Addr.add_mid, show 0 + m * 1 = m by omega, show m4 - m = 4 by omega]
/-- Columns mixed, as the program does it. -/
def pmF (s : List UInt8) (i : Nat) : UInt8 :=
  xr (xr (xr (dbl (xr (s.getD i 0) (s.getD (4 * (i / 4) + (i + 1) % 4) 0))) (s.getD (4 * (i / 4) + (i + 1) % 4) 0)) (s.getD (4 * (i / 4) + (i + 2) % 4) 0)) (s.getD (4 * (i / 4) + (i + 3) % 4) 0)
theorem pm_mix (s : List UInt8) : mk16 (pmF s) = mixL s := by
  refine mk16_congr fun i hi => ?_
  unfold mixF pmF mix0 mix1 mix2 mix3
  simp only [xr_eq, dbl_xor]
  rcases (by omega : i % 4 = 0 ∨ i % 4 = 1 ∨ i % 4 = 2 ∨ i % 4 = 3) with e | e | e | e
  · rw [if_pos e, show (i + 1) % 4 = 1 by omega, show (i + 2) % 4 = 2 by omega, show (i + 3) % 4 = 3 by omega, show s.getD i 0 = s.getD (4 * (i / 4)) 0 by congr 1; omega]
  · rw [if_neg (by omega), if_pos e, show (i + 1) % 4 = 2 by omega, show (i + 2) % 4 = 3 by omega, show (i + 3) % 4 = 0 by omega, show s.getD i 0 = s.getD (4 * (i / 4) + 1) 0 by congr 1; omega, Nat.add_zero]
    ac_rfl
  · rw [if_neg (by omega), if_neg (by omega), if_pos e, show (i + 1) % 4 = 3 by omega, show (i + 2) % 4 = 0 by omega, show (i + 3) % 4 = 1 by omega, show s.getD i 0 = s.getD (4 * (i / 4) + 2) 0 by congr 1; omega, Nat.add_zero]
    ac_rfl
  · rw [if_neg (by omega), if_neg (by omega), if_neg (by omega), show (i + 1) % 4 = 0 by omega, show (i + 2) % 4 = 1 by omega, show (i + 3) % 4 = 2 by omega, show s.getD i 0 = s.getD (4 * (i / 4) + 3) 0 by congr 1; omega, Nat.add_zero]
    ac_rfl
set_option maxRecDepth 100000 in
set_option maxHeartbeats 1000000 in
theorem pmixed_any (b : List UInt8) (w : World) (hb : b.length = 16) :
    Calls Tryd.prog 85 #[.agg (ubs b).toArray] w fun e w' => e = .returned (.agg (ubs (mixL b)).toArray) ∧ Below w.heap.size w w' := by
  have H0 := hid (Tri.start w b n16 n16)
  have HL := hid hb
  have HE := hid (pm_mix b)
  have hz := noughts16
  have HZ := hid (size16_of (mixL_length b))
  have HZB := hid (size16_of hb)
  have HLN := hid (mixL_length b)
  clear hb
  go_enter Tryd.func85, Tryd.ntmps85
  go_wp2_with (refine wpList_load_row rfl _ (.tmp 1) rfl w.heap.size rfl 22 (ubs b).toArray (0, 0) _ H0.out.a0 Tryd.underlying22 rfl HZB.out ?_)
  clear hz
  go_loopw [11] (fun vi wr => ∃ j : Nat, j ≤ 16 ∧ vi = .int .i64 j ∧ Tri w b n16 (upd n16 (pmF b) j) wr) (fun vi _ => 16 - (intOf vi).toNat)
  case atStart => exact ⟨0, by omega, rfl, by rw [upd_zero]; exact H0.out⟩
  case round =>
    clear H0
    obtain ⟨j, hj, rfl, hA⟩ := hrel
    have HA := hid hA
    clear hA
    by_cases hlt : j < 16
    · obtain ⟨q, hq⟩ : ∃ q, q = j / 4 := ⟨_, rfl⟩
      obtain ⟨m, hm⟩ : ∃ m, m = 4 * q := ⟨_, rfl⟩
      obtain ⟨m4, hm4⟩ : ∃ m4, m4 = m + 4 := ⟨_, rfl⟩
      obtain ⟨i1, hi1⟩ : ∃ i, i = (j + 1) % 4 := ⟨_, rfl⟩
      obtain ⟨i2, hi2⟩ : ∃ i, i = (j + 2) % 4 := ⟨_, rfl⟩
      obtain ⟨i3, hi3⟩ : ∃ i, i = (j + 3) % 4 := ⟨_, rfl⟩
      have e1 : (j : Int) / 4 = (q : Int) := by omega
      have e2 : (q : Int) * 4 = (m : Int) := by omega
      have e3 : (m : Int) + 4 = (m4 : Int) := by omega
      have e4 : ((j : Int) + 1) % 4 = (i1 : Int) := by omega
      have e5 : ((j : Int) + 2) % 4 = (i2 : Int) := by omega
      have e6 : ((j : Int) + 3) % 4 = (i3 : Int) := by omega
      have l1 : i1 < 4 := by omega
      have l2 : i2 < 4 := by omega
      have l3 : i3 < 4 := by omega
      have lm : m ≤ 12 := by omega
      have hsl := run_slice16 w.heap.size m m4 hm4 (by omega)
      have c1 := at_ub_cell HA.out.a0 (i := m + i1) (by rw [HL.out]; omega)
      have c2 := at_ub_cell HA.out.a0 (i := m + i2) (by rw [HL.out]; omega)
      have c3 := at_ub_cell HA.out.a0 (i := m + i3) (by rw [HL.out]; omega)
      have d2 := at_ub_cell HA.out.a2 (i := j) (by rw [upd_length _ _ _ (by rw [n16_length]; omega), n16_length]; exact hlt)
      have f0 := HA.out.a2.frozen j
      have HN := hid (upd_succ n16 (pmF b) j (by rw [n16_length]; exact hlt))
      have hF : pmF b j = xr (xr (xr (dbl (xr (b.getD j 0) (b.getD (m + i1) 0))) (b.getD (m + i1) 0)) (b.getD (m + i2) 0)) (b.getD (m + i3) 0) := by unfold pmF; rw [hm, hq, hi1, hi2, hi3]
      rw [hF] at HN
      have HI := hid (fun (o : Oper) (a : Go.Act) (W : World) (h1 : o.op = .index 22 (.tmp 10) (.tmp 11)) (h2 : a.eval (.tmp 10) = .agg (ubs b).toArray) (h3 : a.eval (.tmp 11) = .int .i64 (j : Int)) => run_index_ub (o := o) (a := a) (W := W) _ 16 _ _ h1 Tryd.underlying22 b h2 j h3 hlt HL.out)
      obtain ⟨x0, hx0⟩ : ∃ x, x = b.getD j 0 := ⟨_, rfl⟩
      obtain ⟨x1, hx1⟩ : ∃ x, x = b.getD (m + i1) 0 := ⟨_, rfl⟩
      obtain ⟨x2, hx2⟩ : ∃ x, x = b.getD (m + i2) 0 := ⟨_, rfl⟩
      obtain ⟨x3, hx3⟩ : ∃ x, x = b.getD (m + i3) 0 := ⟨_, rfl⟩
      rw [← hx0, ← hx1, ← hx2, ← hx3] at HN
      rw [← hx0] at HI
      rw [← hx1] at c1
      rw [← hx2] at c2
      rw [← hx3] at c3
      have X1 := b_xr 5 x0 x1
      obtain ⟨y1, hy1⟩ : ∃ x, x = xr x0 x1 := ⟨_, rfl⟩
      rw [← hy1] at X1 HN
      have HD := hid (fun (W : World) => pdouble_any y1 W)
      obtain ⟨y2, hy2⟩ : ∃ x, x = dbl y1 := ⟨_, rfl⟩
      rw [← hy2] at HD HN
      have X2 := b_xr 5 y2 x1
      obtain ⟨y3, hy3⟩ : ∃ x, x = xr y2 x1 := ⟨_, rfl⟩
      rw [← hy3] at X2 HN
      have X3 := b_xr 5 y3 x2
      obtain ⟨y4, hy4⟩ : ∃ x, x = xr y3 x2 := ⟨_, rfl⟩
      rw [← hy4] at X3 HN
      have X4 := b_xr 5 y4 x3
      obtain ⟨y5, hy5⟩ : ∃ x, x = xr y4 x3 := ⟨_, rfl⟩
      rw [← hy5] at X4 HN
      clear hF hq hm hm4 hi1 hi2 hi3 hx0 hx1 hx2 hx3 hy1 hy2 hy3 hy4 hy5
      go_wp2_with (refine wpList_val _ rfl (HI.out _ _ _ rfl rfl rfl) ?_)
      go_quiet (fail)
      have HB := hid (HA.out.drewN nq)
      generalize wr.drewN nq = V at HB ⊢
      have g2 : V.cell? ⟨w.heap.size + 1 + 1, j, none⟩ = some (.int .u8 (((upd n16 (pmF b) j).getD j 0).toNat : Int)) := at_ub_cell HB.out.a2 (i := j) (by rw [upd_length _ _ _ (by rw [n16_length]; omega), n16_length]; exact hlt)
      have g0 : V.frozen? ⟨w.heap.size + 1 + 1, j, none⟩ = false := HB.out.a2.frozen j
      obtain ⟨y6, hy6⟩ : ∃ x, x = (upd n16 (pmF b) j).getD j 0 := ⟨_, rfl⟩
      rw [← hy6] at g2
      clear c1 c2 c3 d2 f0 hy6
      go_wp2_with (go_at_call 41; refine (HD.out _).mono ?_; rintro e w' ⟨rfl, hw⟩; rw [hw]; clear hw)
      go_roundw
      case rel => exact ⟨j + 1, by omega, by go_num, by rw [HN.out]; exact HB.out.put2 j y5⟩
      case measure => simp [intOf]; omega
    · obtain rfl : j = 16 := by omega
      have ha := HA.out
      rw [upd_all n16 _ n16_length, HE.out] at ha
      have HA2 := hid (show Tri w b n16 (mixL b) wr from ha)
      clear ha HA
      go_wp2_with (first
        | (refine wpList_load_row rfl _ (.tmp 3) rfl (w.heap.size + 2) rfl 22 (ubs (mixL b)).toArray (0, 0) _ HA2.out.a2 Tryd.underlying22 rfl HZ.out ?_)
        | (refine wpList_store_row rfl _ (.tmp 2) (.tmp 54) rfl (w.heap.size + 1) (ubs (mixL b)).toArray rfl rfl 22 (ubs n16).toArray HA2.out.a1 HZ.out ?e5 (ubs_all _) ?e6; rotate_right))
      case e5 => simp [ubs_length, n16_length, HLN.out]
      refine bodyPost_ret (results_cell_row rfl _ _ (w.heap.size + 1) 22 (ubs (mixL b)).toArray (0, 0) _ rfl (setRow_heap _ _ _ _ _ _ HA2.out.a1) Tryd.underlying22 rfl HZ.out) rfl ?_
      exact ⟨rfl, below_setRow HA2.out.below (by omega) _⟩
end Go.Proofs.YtnaihcoafgigcaaDoor

namespace Go.Proofs.YtnaihcoafgigcaaDoor
open Go.RowKit

def n256 : List UInt8 := List.replicate 256 0
theorem n256_length : n256.length = 256 := List.length_replicate
theorem zero256 : (Tryd.prog.info? 95).bind (·.zero) = some (.agg (ubs n256).toArray) := by kernel_rfl
theorem size256 : (Tryd.prog.info? 95).map (·.size) = some 256 := by kernel_rfl
theorem size256_of {l : List UInt8} (h : l.length = 256) : (Tryd.prog.info? 95).map (·.size) = some (ubs l).toArray.size := by rw [size256]; simp [ubs_length, h]
/-- The powers of 3; those that have been written down. -/
def pw3 : Nat → UInt8
  | 0 => 1
  | k + 1 => xr (pw3 k) (dbl (pw3 k))
def powL : Nat → List UInt8
  | 0 => n256
  | k + 1 => (powL k).set k (pw3 k)
theorem pw3_zero : pw3 0 = 1 := rfl
theorem pw3_succ (k : Nat) : pw3 (k + 1) = xr (pw3 k) (dbl (pw3 k)) := rfl
theorem powL_zero : powL 0 = n256 := rfl
theorem powL_succ (k : Nat) : powL (k + 1) = (powL k).set k (pw3 k) := rfl
theorem powL_length (k : Nat) : (powL k).length = 256 := by
  induction k with
  | zero => exact n256_length
  | succ k ih => rw [powL_succ, List.length_set, ih]
theorem powL_get (k i : Nat) (h : i < k) (hk : k ≤ 256) : (powL k).getD i 0 = pw3 i := by
  induction k with
  | zero => omega
  | succ k ih =>
    rw [powL_succ]
    by_cases hi : i = k
    · subst hi
      simp [powL_length, show i < 256 by omega]
    · have := ih (by omega) (by omega)
      rw [← this]
      simp [show k ≠ i by omega]
/-- The table in the making. -/
def tabk : Nat → List UInt8
  | 0 => n256.set 0 (soT 0)
  | k + 1 => (tabk k).set (pw3 k).toNat (soT (pw3 (255 - k)))
theorem tabk_zero : tabk 0 = n256.set 0 (soT 0) := rfl
theorem tabk_succ (k : Nat) : tabk (k + 1) = (tabk k).set (pw3 k).toNat (soT (pw3 (255 - k))) := rfl
theorem tabk_length (k : Nat) : (tabk k).length = 256 := by
  induction k with
  | zero => rw [tabk_zero, List.length_set, n256_length]
  | succ k ih => rw [tabk_succ, List.length_set, ih]
theorem tabk_all : tabk 256 = STab := by decide +kernel
theorem STab_length : STab.length = 256 := by decide +kernel
/-- The other table in the making. -/
def orgk : Nat → List UInt8
  | 0 => n256
  | k + 1 => (orgk k).set (sT (UInt8.ofNat k)).toNat (UInt8.ofNat k)
theorem orgk_zero : orgk 0 = n256 := rfl
theorem orgk_succ (k : Nat) : orgk (k + 1) = (orgk k).set (sT (UInt8.ofNat k)).toNat (UInt8.ofNat k) := rfl
theorem orgk_length (k : Nat) : (orgk k).length = 256 := by
  induction k with
  | zero => exact n256_length
  | succ k ih => rw [orgk_succ, List.length_set, ih]
theorem orgk_all : orgk 256 = RTab := by decide +kernel
theorem RTab_length : RTab.length = 256 := by decide +kernel
attribute [irreducible] pw3 powL tabk orgk n256
theorem run_index_ubT {o : Oper} {a : Go.Act} {W : World} (x c : Operand) (ho : o.op = .index 95 x c) (bs : List UInt8) (hx : a.eval x = .agg (ubs bs).toArray)
    (i : Nat) (hc : a.eval c = .int .i64 (i : Int)) (hi : i < 256) (hl : bs.length = 256) : (execOp a.eval o).run Tryd.prog W = .ok (.value (.int .u8 ((bs.getD i 0).toNat : Int))) W :=
  run_index_ub _ 256 x c ho Tryd.underlying95 bs hx i hc hi hl
structure Sb1 (w : World) (p : List UInt8) (wr : World) : Prop where
  a0 : At wr w.heap.size (ubs n256).toArray 95
  a1 : At wr (w.heap.size + 1) (ubs p).toArray 95
  size : wr.heap.size = w.heap.size + 2
  below : Below w.heap.size w wr
theorem Sb1.start (w : World) : Sb1 w n256 ((w.alloc (.cells (ubs n256).toArray 95)).alloc (.cells (ubs n256).toArray 95)) :=
  ⟨(At.new _ _ _).alloc _, At.new_at (by simp), by simp, ((Below.refl _ _).alloc (Nat.le_refl _) _).alloc (by simp) _⟩
theorem Sb1.put {w wr : World} {p : List UInt8} (h : Sb1 w p wr) (i : Nat) (b : UInt8) : Sb1 w (p.set i b) (wr.setCell ⟨w.heap.size + 1, i, none⟩ (.int .u8 (b.toNat : Int))) :=
  ⟨h.a0.far (p := ⟨w.heap.size + 1, i, none⟩) (by simp) _, at_ub_put h.a1 i b, by rw [← h.size]; simp, h.below.setCell (by simp) _⟩
structure Sb2 (w : World) (p t : List UInt8) (wr : World) : Prop where
  a0 : At wr w.heap.size (ubs n256).toArray 95
  a1 : At wr (w.heap.size + 1) (ubs p).toArray 95
  a2 : At wr (w.heap.size + 2) (ubs t).toArray 95
  below : Below w.heap.size w wr
theorem Sb1.next {w wr : World} {p : List UInt8} (h : Sb1 w p wr) : Sb2 w p n256 (wr.alloc (.cells (ubs n256).toArray 95)) :=
  ⟨h.a0.alloc _, h.a1.alloc _, At.new_at h.size.symm, h.below.alloc (by rw [h.size]; omega) _⟩
theorem Sb2.put {w wr : World} {p t : List UInt8} (h : Sb2 w p t wr) (i : Nat) (b : UInt8) : Sb2 w p (t.set i b) (wr.setCell ⟨w.heap.size + 2, i, none⟩ (.int .u8 (b.toNat : Int))) :=
  ⟨h.a0.far (p := ⟨w.heap.size + 2, i, none⟩) (by simp) _, h.a1.far (p := ⟨w.heap.size + 2, i, none⟩) (by simp) _, at_ub_put h.a2 i b, h.below.setCell (by simp) _⟩
set_option maxRecDepth 100000 in
set_option maxHeartbeats 1000000 in
theorem substitutes_any (w : World) : Calls Tryd.prog 39 #[] w fun e w' => e = .returned (.agg (ubs STab).toArray) ∧ Below w.heap.size w w' := by
  have H0 := hid (Sb1.start w)
  have HD := hid (fun x W => pdouble_any x W)
  have HS := hid (fun x W => substituteOf_any x W)
  have HS0 := hid (fun W => show Calls Tryd.prog 57 #[.int .u8 0] W (fun e w' => e = .returned (.int .u8 ((soT 0).toNat : Int)) ∧ w' = W) from substituteOf_any 0 W)
  have HAL := hid (fun (o : Oper) (a : Go.Act) (W : World) (h : o.op = .alloc 95) => run_alloc_of (o := o) (a := a) (W := W) _ h _ zero256)
  go_enter Tryd.func39, Tryd.ntmps39
  go_wp2_with (refine Great.wpList_allocTo rfl _ rfl _ _ (HAL.out _ _ _ rfl) ?_)
  go_loopw [2, 7] (fun vp vi wr => ∃ (k : Nat) (p : UInt8), k ≤ 256 ∧ vi = .int .i64 k ∧ vp = .int .u8 (p.toNat : Int) ∧ Hid (pw3 k = p) ∧ Sb1 w (powL k) wr) (fun _ vi _ => 256 - (intOf vi).toNat)
  case atStart => exact ⟨0, 1, by omega, rfl, rfl, pw3_zero, by rw [powL_zero]; exact H0.out⟩
  case round =>
    clear H0
    obtain ⟨k, p, hk, rfl, rfl, HP, hA⟩ := hrel
    have HA := hid hA
    clear hA
    by_cases hlt : k < 256
    · have c0 := at_ub_cell HA.out.a1 (i := k) (by rw [powL_length]; exact hlt)
      have f0 := HA.out.a1.frozen k
      have HN := hid (powL_succ k)
      have HC := HD.out p
      have HPS := hid (pw3_succ k)
      have hx := b_xr 5 p (dbl p)
      obtain ⟨q, hq⟩ : ∃ q, q = xr p (dbl p) := ⟨_, rfl⟩
      obtain ⟨d, hd⟩ : ∃ d, d = dbl p := ⟨_, rfl⟩
      have HQ := hid (show pw3 (k + 1) = q by rw [HPS.out, HP.out, hq])
      rw [← hq] at hx
      rw [← hd] at hx HC
      rw [HP.out] at HN
      replace HC := hid HC
      obtain ⟨x0, hx0⟩ : ∃ x, x = (powL k).getD k 0 := ⟨_, rfl⟩
      rw [← hx0] at c0
      clear hq hd HPS HP hx0
      go_wp2_with (go_at_call 41; refine (HC.out _).mono ?_; rintro e w' ⟨rfl, hw⟩; rw [hw]; clear hw)
      go_roundw
      case rel => exact ⟨k + 1, q, by omega, by go_num, rfl, HQ, by rw [HN.out]; exact HA.out.put k p⟩
      case measure => simp [intOf]; omega
    · obtain rfl : k = 256 := by omega
      obtain ⟨pl, hpl⟩ : ∃ pl, pl = powL 256 := ⟨_, rfl⟩
      have HPL := hid (show pl.length = 256 by rw [hpl, powL_length])
      have HPG := hid (fun i (h : i < 256) => show pl.getD i 0 = pw3 i by rw [hpl, powL_get 256 i h (by omega)])
      rw [← hpl] at HA
      have HB := hid HA.out.next
      have HNW := hid HA.out.size
      have HZP := hid (size256_of HPL.out)
      clear hpl
      have b0 := at_ub_cell HB.out.a2 (i := 0) (by rw [n256_length]; omega)
      have g0 := HB.out.a2.frozen 0
      obtain ⟨x0, hx0⟩ : ∃ x, x = n256.getD 0 0 := ⟨_, rfl⟩
      rw [← hx0] at b0
      obtain ⟨s0, hs0⟩ : ∃ x, x = soT 0 := ⟨_, rfl⟩
      rw [← hs0] at HS0
      have HT0 := hid (show tabk 0 = n256.set 0 s0 by rw [tabk_zero, hs0])
      clear hx0 hs0
      go_wp2_with (first
        | (refine Great.wpList_allocTo rfl _ rfl _ _ (HAL.out _ _ _ rfl) ?_; rw [HNW.out]; generalize (wr.alloc (.cells (ubs n256).toArray 95)) = W1 at HB b0 g0 ⊢)
        | (go_at_call 57; refine (HS0.out _).mono ?_; rintro e w' ⟨rfl, hw⟩; rw [hw]; clear hw)
        | (have HB2 := hid (show Sb2 w pl (tabk 0) (W1.setCell ⟨w.heap.size + 2, 0, none⟩ (.int .u8 (s0.toNat : Int))) by rw [HT0.out]; exact HB.out.put 0 s0); generalize (W1.setCell ⟨w.heap.size + 2, 0, none⟩ (.int .u8 (s0.toNat : Int))) = W2 at HB2 ⊢; clear b0 g0; refine wpList_load_row rfl _ (.tmp 1) rfl (w.heap.size + 1) rfl 95 (ubs pl).toArray (0, 0) _ HB2.out.a1 Tryd.underlying95 rfl HZP.out ?_))
      clear HB HNW
      go_loopw [21] (fun vi wr => ∃ k : Nat, k ≤ 256 ∧ vi = .int .i64 k ∧ Sb2 w pl (tabk k) wr) (fun vi _ => 256 - (intOf vi).toNat)
      case atStart => exact ⟨0, by omega, rfl, HB2.out⟩
      case round =>
        clear HB2
        obtain ⟨k, hk, rfl, hA⟩ := hrel
        have HA := hid hA
        clear hA
        by_cases hlt : k < 256
        · have HN := hid (tabk_succ k)
          have hxl := (pw3 k).toNat_lt
          have c1 := at_ub_cell HA.out.a1 (i := 255 - k) (by rw [HPL.out]; omega)
          have c2 := at_ub_cell HA.out.a2 (i := (pw3 k).toNat) (by rw [tabk_length]; omega)
          have f2 := HA.out.a2.frozen (pw3 k).toNat
          have HI := hid (fun (o : Oper) (a : Go.Act) (W : World) (h1 : o.op = .index 95 (.tmp 20) (.tmp 21)) (h2 : a.eval (.tmp 20) = .agg (ubs pl).toArray) (h3 : a.eval (.tmp 21) = .int .i64 (k : Int)) => run_index_ubT (o := o) (a := a) (W := W) _ _ h1 pl h2 k h3 hlt HPL.out)
          rw [HPG.out k hlt] at HI
          rw [HPG.out (255 - k) (by omega)] at c1
          have HC := HS.out (pw3 (255 - k))
          obtain ⟨x, hx⟩ : ∃ x, x = pw3 k := ⟨_, rfl⟩
          obtain ⟨y, hy⟩ : ∃ y, y = pw3 (255 - k) := ⟨_, rfl⟩
          obtain ⟨z, hz⟩ : ∃ z, z = soT (pw3 (255 - k)) := ⟨_, rfl⟩
          rw [← hz] at HN HC
          rw [← hx] at HI HN c2 f2 hxl
          rw [← hy] at HC c1
          replace HC := hid HC
          obtain ⟨x0, hx0⟩ : ∃ x0, x0 = (tabk k).getD x.toNat 0 := ⟨_, rfl⟩
          rw [← hx0] at c2
          obtain ⟨m, hm⟩ : ∃ m, m = 255 - k := ⟨_, rfl⟩
          rw [← hm] at c1
          have e1 : 255 - (k : Int) = (m : Int) := by omega
          have hml : m < 256 := by omega
          clear hx hy hz hx0 hm
          go_wp2_with (first
            | (refine wpList_val _ rfl (HI.out _ _ _ rfl rfl rfl) ?_)
            | (go_at_call 57; refine (HC.out _).mono ?_; rintro e w' ⟨rfl, hw⟩; rw [hw]; clear hw))
          go_roundw
          case rel => exact ⟨k + 1, by omega, by go_num, by rw [HN.out]; exact HA.out.put x.toNat z⟩
          case measure => simp [intOf]; omega
        · obtain rfl : k = 256 := by omega
          have ha := HA.out
          rw [tabk_all] at ha
          have HA2 := hid ha
          have HZ := hid (size256_of STab_length)
          clear ha HA
          go_wp2_with (first
            | (refine wpList_load_row rfl _ (.tmp 4) rfl (w.heap.size + 2) rfl 95 (ubs STab).toArray (0, 0) _ HA2.out.a2 Tryd.underlying95 rfl HZ.out ?_)
            | (refine wpList_store_row rfl _ (.tmp 0) (.tmp 33) rfl w.heap.size (ubs STab).toArray rfl rfl 95 (ubs n256).toArray HA2.out.a0 HZ.out ?e5 (ubs_all _) ?e6; rotate_right))
          case e5 => simp [ubs_length, n256_length, STab_length]
          refine bodyPost_ret (results_cell_row rfl _ _ w.heap.size 95 (ubs STab).toArray (0, 0) _ rfl (setRow_heap _ _ _ _ _ _ HA2.out.a0) Tryd.underlying95 rfl HZ.out) rfl ?_
          exact ⟨rfl, below_setRow HA2.out.below (by omega) _⟩
structure Or1 (w : World) (p : List UInt8) (wr : World) : Prop where
  a0 : At wr w.heap.size (ubs n256).toArray 95
  a1 : At wr (w.heap.size + 1) (ubs p).toArray 95
  below : Below w.heap.size w wr
theorem Or1.start {w wr : World} (h : Below ((w.alloc (.cells (ubs n256).toArray 95)).alloc (.cells (ubs n256).toArray 95)).heap.size ((w.alloc (.cells (ubs n256).toArray 95)).alloc (.cells (ubs n256).toArray 95)) wr) : Or1 w n256 wr :=
  ⟨((At.new _ _ _).alloc _).new_ h, At.new_ (At.new_at (by simp)) h, (((Below.refl _ _).alloc (Nat.le_refl _) _).alloc (by simp) _).trans (h.mono (by simp; omega))⟩
theorem Or1.put {w wr : World} {p : List UInt8} (h : Or1 w p wr) (i : Nat) (b : UInt8) : Or1 w (p.set i b) (wr.setCell ⟨w.heap.size + 1, i, none⟩ (.int .u8 (b.toNat : Int))) :=
  ⟨h.a0.far (p := ⟨w.heap.size + 1, i, none⟩) (by simp) _, at_ub_put h.a1 i b, h.below.setCell (by simp) _⟩
theorem STab_get (k : Nat) (h : k < 256) : STab.getD k 0 = sT (UInt8.ofNat k) := by
  unfold sT
  rw [show (UInt8.ofNat k).toNat = k by have := of_toNat k h; omega]
theorem wrap8 (k : Nat) (h : k < 256) : IntKind.u8.wrap (k : Int) = (k : Int) := by
  simp [IntKind.wrap, IntKind.signed, IntKind.bits]
  omega
end Go.Proofs.YtnaihcoafgigcaaDoor

namespace Go.Proofs.YtnaihcoafgigcaaDoor
open Go.RowKit

end Go.Proofs.YtnaihcoafgigcaaDoor

namespace Go.Proofs.YtnaihcoafgigcaaDoor
open Go.RowKit

theorem upd_lt (b : List UInt8) (f : Nat → UInt8) (j i : Nat) (h : i < j) : (upd b f j).getD i 0 = f i := by
  unfold upd
  rw [List.getD_eq_getElem?_getD, List.getElem?_append_left (by simp; exact h)]
  simp [h]
/-- The first word's bytes, before the factor; the bytes of the round key behind k. -/
def nx0 (k : List UInt8) (i : Nat) : UInt8 := xr (k.getD i 0) (sT (k.getD (12 + (i + 1) % 4) 0))
def nx (k : List UInt8) (f : UInt8) : Nat → UInt8
  | 0 => xr (nx0 k 0) f
  | 1 => nx0 k 1
  | 2 => nx0 k 2
  | 3 => nx0 k 3
  | i + 4 => xr (k.getD (i + 4) 0) (nx k f i)
def nxL (k : List UInt8) (f : UInt8) : List UInt8 := mk16 (nx k f)
theorem nxL_length (k : List UInt8) (f : UInt8) : (nxL k f).length = 16 := mk16_length _
theorem nx_four (k : List UInt8) (f : UInt8) (i : Nat) : nx k f (i + 4) = xr (k.getD (i + 4) 0) (nx k f i) := by rw [nx]
theorem nx_first (k : List UInt8) (f : UInt8) : (upd k (nx0 k) 4).set 0 (xr (nx0 k 0) f) = upd k (nx k f) 4 := by
  unfold upd
  rw [show (List.range 4).map (nx0 k) = [nx0 k 0, nx0 k 1, nx0 k 2, nx0 k 3] from rfl, show (List.range 4).map (nx k f) = [nx k f 0, nx k f 1, nx k f 2, nx k f 3] from rfl]
  rw [nx, nx, nx, nx]
  rfl
attribute [irreducible] nx nx0
set_option maxRecDepth 100000 in
set_option maxHeartbeats 1000000 in
theorem next_any (k : List UInt8) (f : UInt8) (T : Nat) (w : World) (hk : k.length = 16) (hT : At w T (ubs STab).toArray 95) :
    Calls Tryd.prog 40 #[.agg (ubs k).toArray, .pointer (some ⟨T, 0, none⟩), .int .u8 (f.toNat : Int)] w fun e w' => e = .returned (.agg (ubs (nxL k f)).toArray) ∧ Below w.heap.size w w' := by
  have H0 := hid (Duo.start w k n16)
  have HL := hid hk
  have HT := hid hT
  have hz := noughts16
  have HZ := hid (size16_of (nxL_length k f))
  have HLN := hid (nxL_length k f)
  clear hk hT
  go_enter Tryd.func40, Tryd.ntmps40
  go_wp2
  clear hz
  go_loopw [9] (fun vi wr => ∃ j : Nat, j ≤ 4 ∧ vi = .int .i64 j ∧ Duo w (upd k (nx0 k) j) n16 wr) (fun vi _ => 4 - (intOf vi).toNat)
  case atStart => exact ⟨0, by omega, rfl, by rw [upd_zero]; exact H0.out⟩
  case round =>
    clear H0
    obtain ⟨j, hj, rfl, hA⟩ := hrel
    have HA := hid hA
    clear hA
    have hul := upd_length k (nx0 k) j (by rw [HL.out]; omega)
    by_cases hlt : j < 4
    · obtain ⟨r, hr⟩ : ∃ r, r = (j + 1) % 4 := ⟨_, rfl⟩
      obtain ⟨m, hm⟩ : ∃ m, m = 12 + r := ⟨_, rfl⟩
      obtain ⟨j1, hj1⟩ : ∃ m, m = j + 1 := ⟨_, rfl⟩
      have HJ1 := hid hj1
      have e0 : IntKind.i64.wrap ((j : Int) + 1) = (j1 : Int) := by rw [IntKind.wrap_i64] <;> omega
      have e1 : (j1 : Int).tmod 4 = (r : Int) := by rw [Int.tmod_eq_emod_of_nonneg (by omega)]; omega
      have e2 : IntKind.i64.wrap (12 + (r : Int)) = (m : Int) := by rw [IntKind.wrap_i64] <;> omega
      have hml : m < 16 := by omega
      have hmi : (m : Int) < 16 := by omega
      have hj16 : (j : Int) < 16 := by omega
      have hjb : j < k.length := by rw [HL.out]; omega
      have c0 := at_ub_cell HA.out.a0 (i := j) (by rw [hul]; exact hjb)
      rw [upd_get k _ j j (Nat.le_refl _) hjb] at c0
      have c1 := at_ub_cell HA.out.a0 (i := m) (by rw [hul, HL.out]; exact hml)
      rw [upd_get k _ j m (by omega) (by rw [HL.out]; exact hml)] at c1
      have f0 := HA.out.a0.frozen j
      have hxl : ((k.getD m 0).toNat : Int) < 256 := by have := (k.getD m 0).toNat_lt; omega
      have c2 := at_ub_cell (HT.out.new_ HA.out.below) (i := (k.getD m 0).toNat) (by rw [STab_length]; have := (k.getD m 0).toNat_lt; omega)
      rw [show STab.getD (k.getD m 0).toNat 0 = sT (k.getD m 0) from rfl] at c2
      have HN := hid (upd_succ k (nx0 k) j hjb)
      have hF : xr (k.getD j 0) (sT (k.getD m 0)) = nx0 k j := by rw [hm, hr, nx0]
      have hxx := b_xr 5 (k.getD j 0) (sT (k.getD m 0))
      rw [hF] at hxx
      obtain ⟨y, hy⟩ : ∃ y, y = nx0 k j := ⟨_, rfl⟩
      rw [← hy] at hxx HN
      obtain ⟨x0, hx0⟩ : ∃ x, x = k.getD j 0 := ⟨_, rfl⟩
      obtain ⟨x1, hx1⟩ : ∃ x, x = k.getD m 0 := ⟨_, rfl⟩
      rw [← hx1] at c1 c2 hxx hxl
      obtain ⟨x2, hx2⟩ : ∃ x, x = sT x1 := ⟨_, rfl⟩
      rw [← hx2] at hxx c2
      rw [← hx0] at hxx c0
      clear hF hy hx0 hx1 hx2 hm hr hul hjb hj1
      go_wp2
      refine wp_region_still_tail 15 (by kernel_rfl) (by kernel_rfl) ?_
      simp only [List.take_succ_cons, List.take_zero, List.drop_succ_cons, List.drop_zero]
      obtain ⟨W2, hW2⟩ : ∃ W2 : World, { wr with drawn := wr.drawn + 1 } = W2 := ⟨_, rfl⟩
      rw [hW2]
      have HB := hid (show Duo w (upd k (nx0 k) j) n16 W2 by rw [← hW2]; exact HA.out.drewN 1)
      have d0 : W2.cell? ⟨w.heap.size, j, none⟩ = some (.int .u8 (x0.toNat : Int)) := by rw [← hW2]; exact c0
      have d1 : W2.cell? ⟨w.heap.size, m, none⟩ = some (.int .u8 (x1.toNat : Int)) := by rw [← hW2]; exact c1
      have d3 : W2.cell? ⟨T, x1.toNat, none⟩ = some (.int .u8 (x2.toNat : Int)) := by rw [← hW2]; exact c2
      have d2 : W2.frozen? ⟨w.heap.size, j, none⟩ = false := by rw [← hW2]; exact f0
      clear hW2 c0 c1 c2 f0 HA
      repeat still_step
      refine wpStill_nil ?_
      go_wp2
      go_roundw
      case rel => exact ⟨j1, by have := HJ1.out; omega, rfl, by rw [HJ1.out, HN.out]; exact HB.out.put j y⟩
      case measure => have := HJ1.out; simp [intOf]; omega
    · obtain rfl : j = 4 := by omega
      have c0 := at_ub_cell HA.out.a0 (i := 0) (by rw [hul, HL.out]; omega)
      rw [upd_lt k _ 4 0 (by omega)] at c0
      have f0 := HA.out.a0.frozen 0
      have HN := hid (nx_first k f)
      have hxx := b_xr 5 (nx0 k 0) f
      obtain ⟨y, hy⟩ : ∃ y, y = xr (nx0 k 0) f := ⟨_, rfl⟩
      obtain ⟨x0, hx0⟩ : ∃ x, x = nx0 k 0 := ⟨_, rfl⟩
      rw [← hy] at hxx HN
      rw [← hx0] at hxx c0
      clear hy hx0 hul
      go_wp2
      have H1 := hid (show Duo w (upd k (nx k f) 4) n16 (wr.setCell ⟨w.heap.size, 0, none⟩ (.int .u8 (y.toNat : Int))) by rw [← HN.out]; exact HA.out.put 0 y)
      generalize wr.setCell ⟨w.heap.size, 0, none⟩ (.int .u8 (y.toNat : Int)) = W1 at H1 ⊢
      clear HA c0 f0 HN
      rw [show ((4 : Nat) : Int) = 4 from rfl]
      go_loopw [33] (fun vi wr => ∃ j : Nat, j ≤ 12 ∧ vi = .int .i64 j ∧ Duo w (upd k (nx k f) (j + 4)) n16 wr) (fun vi _ => 12 - (intOf vi).toNat)
      case atStart => exact ⟨0, by omega, rfl, H1.out⟩
      case round =>
        clear H1
        obtain ⟨j, hj, rfl, hA⟩ := hrel
        have HA := hid hA
        clear hA
        have hul := upd_length k (nx k f) (j + 4) (by rw [HL.out]; omega)
        by_cases hlt : j < 12
        · obtain ⟨m, hm⟩ : ∃ m, m = j + 4 := ⟨_, rfl⟩
          have e1 : IntKind.i64.wrap ((j : Int) + 4) = (m : Int) := by rw [IntKind.wrap_i64] <;> omega
          have hml : m < 16 := by omega
          have hmi : (m : Int) < 16 := by omega
          have hj16 : (j : Int) < 16 := by omega
          have hmb : m < k.length := by rw [HL.out]; exact hml
          rw [← hm] at HA hul
          have c0 := at_ub_cell HA.out.a0 (i := m) (by rw [hul]; exact hmb)
          rw [upd_get k _ m m (Nat.le_refl _) hmb] at c0
          have c1 := at_ub_cell HA.out.a0 (i := j) (by rw [hul, HL.out]; omega)
          rw [upd_lt k _ m j (by omega)] at c1
          have f0 := HA.out.a0.frozen m
          have HN := hid (upd_succ k (nx k f) m hmb)
          have hF : xr (k.getD m 0) (nx k f j) = nx k f m := by rw [hm, nx_four]
          have hxx := b_xr 5 (k.getD m 0) (nx k f j)
          rw [hF] at hxx
          obtain ⟨y, hy⟩ : ∃ y, y = nx k f m := ⟨_, rfl⟩
          rw [← hy] at hxx HN
          obtain ⟨x0, hx0⟩ : ∃ x, x = k.getD m 0 := ⟨_, rfl⟩
          obtain ⟨x1, hx1⟩ : ∃ x, x = nx k f j := ⟨_, rfl⟩
          rw [← hx1] at c1 hxx
          rw [← hx0] at hxx c0
          have HM := hid hm
          clear hF hy hx0 hx1 hm hul hmb
          go_wp2
          refine wp_region_still_tail 9 (by kernel_rfl) (by kernel_rfl) ?_
          simp only [List.take_succ_cons, List.take_zero, List.drop_succ_cons, List.drop_zero]
          obtain ⟨W2, hW2⟩ : ∃ W2 : World, { wr with drawn := wr.drawn + 1 } = W2 := ⟨_, rfl⟩
          rw [hW2]
          have HB := hid (show Duo w (upd k (nx k f) m) n16 W2 by rw [← hW2]; exact HA.out.drewN 1)
          have d0 : W2.cell? ⟨w.heap.size, m, none⟩ = some (.int .u8 (x0.toNat : Int)) := by rw [← hW2]; exact c0
          have d1 : W2.cell? ⟨w.heap.size, j, none⟩ = some (.int .u8 (x1.toNat : Int)) := by rw [← hW2]; exact c1
          have d2 : W2.frozen? ⟨w.heap.size, m, none⟩ = false := by rw [← hW2]; exact f0
          clear hW2 c0 c1 f0 HA
          repeat still_step
          refine wpStill_nil ?_
          go_wp2
          go_roundw
          case rel => exact ⟨j + 1, by omega, by go_num, by rw [show j + 1 + 4 = m + 1 by have := HM.out; omega, HN.out]; exact HB.out.put m y⟩
          case measure => simp [intOf]; omega
        · obtain rfl : j = 12 := by omega
          have ha := HA.out
          rw [show 12 + 4 = 16 by rfl, upd_all k _ HL.out] at ha
          have HA2 := hid (show Duo w (nxL k f) n16 wr from ha)
          clear ha HA hul
          go_wp2_with (first
            | (refine wpList_load_row rfl _ (.tmp 3) rfl w.heap.size rfl 22 (ubs (nxL k f)).toArray (0, 0) _ HA2.out.a0 Tryd.underlying22 rfl HZ.out ?_)
            | (refine wpList_store_row rfl _ (.tmp 6) (.tmp 46) rfl (w.heap.size + 1) (ubs (nxL k f)).toArray rfl rfl 22 (ubs n16).toArray HA2.out.a1 HZ.out ?e5 (ubs_all _) ?e6; rotate_right))
          case e5 => simp [ubs_length, n16_length, HLN.out]
          refine bodyPost_ret (results_cell_row rfl _ _ (w.heap.size + 1) 22 (ubs (nxL k f)).toArray (0, 0) _ rfl (setRow_heap _ _ _ _ _ _ HA2.out.a1) Tryd.underlying22 rfl HZ.out) rfl ?_
          exact ⟨rfl, below_setRow HA2.out.below (by omega) _⟩
end Go.Proofs.YtnaihcoafgigcaaDoor
