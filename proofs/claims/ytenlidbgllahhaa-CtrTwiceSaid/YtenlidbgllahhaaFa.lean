/-
  The program's field: doubling, product, inverse, substitute.
-/
import Derived.Test.YtenlidbgllahhaaEe
import Derived.Test.YtenlidbgllahhaaEm
namespace Go.Proofs.Ytenlidbgllahhaa
open Go.RowKit

theorem dbl_x (x : UInt8) (h : 128 ≤ x.toNat) : dbl x = xr (UInt8.ofNat (x.toNat * 2 % 256)) 27 := by
  have hl := x.toNat_lt
  rw [dbl_high x h, xr_eq, show x.toNat * 2 % 256 = (x.toNat - 128) * 2 by omega]
set_option maxRecDepth 100000 in
theorem pdouble_any (x : UInt8) (w : World) :
    Calls Try.prog 29 #[.int .u8 (x.toNat : Int)] w fun e w' => e = .returned (.int .u8 ((dbl x).toNat : Int)) ∧ w' = w := by
  have hlt := x.toNat_lt
  have hs : binOp .shr 5 (.int .u8 (x.toNat : Int)) (.int .u64 7) = pure (.int .u8 ((x.toNat / 2 ^ 7 : Nat) : Int)) := b_shr 5 x.toNat 7 (by omega)
  have hl : binOp .shl 5 (.int .u8 (x.toNat : Int)) (.int .u64 1) = pure (.int .u8 ((x.toNat * 2 ^ 1 % 256 : Nat) : Int)) := b_shl 5 x.toNat 1 (by omega)
  rw [show x.toNat * 2 ^ 1 % 256 = x.toNat * 2 % 256 by rfl] at hl
  obtain ⟨q, hq⟩ : ∃ q, q = x.toNat / 2 ^ 7 := ⟨_, rfl⟩
  rw [← hq] at hs
  by_cases h : 128 ≤ x.toNat
  · have hx := b_xr 5 (UInt8.ofNat (x.toNat * 2 % 256)) 27
    rw [← dbl_x x h, of_toNat _ (by omega)] at hx
    replace hx : binOp .xor 5 (.int .u8 ((x.toNat * 2 % 256 : Nat) : Int)) (.int .u8 27) = pure (.int .u8 ((dbl x).toNat : Int)) := hx
    obtain ⟨y, hy⟩ : ∃ y, y = dbl x := ⟨_, rfl⟩
    obtain ⟨m, hm⟩ : ∃ m, m = x.toNat * 2 % 256 := ⟨_, rfl⟩
    rw [← hy] at hx ⊢
    rw [← hm] at hx hl
    have c1 : ((q : Int) == 1) = true := by simp; omega
    clear hy hm hq
    go_enter Try.func29, Try.ntmps29
    go_wp2
    go_ret
    exact ⟨rfl, rfl⟩
  · have e1 : ((dbl x).toNat : Int) = ((x.toNat * 2 % 256 : Nat) : Int) := by rw [dbl_low x h, of_toNat _ (by omega)]; omega
    obtain ⟨m, hm⟩ : ∃ m, m = x.toNat * 2 % 256 := ⟨_, rfl⟩
    rw [e1, ← hm]
    rw [← hm] at hl
    have c1 : ((q : Int) == 1) = false := by simp; omega
    clear hm hq e1
    go_enter Try.func29, Try.ntmps29
    go_wp2
    go_ret
    exact ⟨rfl, rfl⟩
theorem b_shrI (t : TypeId) (a k : Nat) (h : k ≤ 8) : binOp .shr t (.int .u8 (a : Int)) (.int .i64 (k : Int)) = pure (.int .u8 ((a / 2 ^ k : Nat) : Int)) := by
  simp only [binOp]
  unfold Op.shift
  rw [if_neg (by omega)]
  simp only
  congr 2
  show (a : Int).fdiv (2 ^ (min (k : Int).toNat 8)) = _
  rw [Int.toNat_natCast, Nat.min_eq_left h, Int.fdiv_eq_ediv_of_nonneg _ (Int.pow_nonneg (by omega)), Int.natCast_ediv, Int.natCast_pow]
  rfl
theorem b_one (t : TypeId) (q : Nat) (h : q < 256) : binOp .and t (.int .u8 (q : Int)) (.int .u8 1) = pure (.int .u8 ((q % 2 : Nat) : Int)) := by
  simp only [binOp_and, Op.intBits]
  show (pure (.int .u8 (IntKind.u8.wrap ((BitVec.ofInt 8 (q : Int) &&& BitVec.ofInt 8 1).toNat : Int))) : Sem Value) = _
  congr 2
  rw [BitVec.ofInt_natCast, show (BitVec.ofInt 8 1) = BitVec.ofNat 8 1 by rfl, BitVec.toNat_and, BitVec.toNat_ofNat, BitVec.toNat_ofNat, Nat.mod_eq_of_lt (by omega), show 1 % 2 ^ 8 = 1 by rfl, Nat.and_one_is_mod]
  simp [IntKind.wrap, IntKind.signed, IntKind.bits]
  omega
set_option maxRecDepth 100000 in
set_option maxHeartbeats 1000000 in
theorem pproduct_any (a b : UInt8) (w : World) :
    Calls Try.prog 10 #[.int .u8 (a.toNat : Int), .int .u8 (b.toNat : Int)] w fun e w' => e = .returned (.int .u8 ((prod a b).toNat : Int)) ∧ w' = w := by
  have HD := hid (fun x => pdouble_any x w)
  have HE := hid (prod_eq a b)
  go_enter Try.func10, Try.ntmps10
  go_wp2
  go_loop [1, 5, 7] (fun vb vo vk => ∃ (k : Nat) (o x : UInt8), k ≤ 8 ∧ vk = .int .i64 k ∧ vo = .int .u8 (o.toNat : Int) ∧ vb = .int .u8 (x.toNat : Int) ∧ Hid (prodk a b k = o) ∧ Hid (dblk b k = x)) (fun _ _ vk => 8 - (intOf vk).toNat)
  case atStart => exact ⟨0, 0, b, by omega, rfl, rfl, rfl, prodk_zero a b, dblk_zero b⟩
  case round =>
    obtain ⟨k, o, x, hk, rfl, rfl, rfl, HO, HX⟩ := hrel
    by_cases hlt : k < 8
    · have hs := b_shrI 5 a.toNat k (by omega)
      have hx := b_xr 5 o x
      obtain ⟨z, hz⟩ : ∃ z, z = xr o x := ⟨_, rfl⟩
      rw [← hz] at hx
      have HS := hid (dblk_succ b k)
      obtain ⟨y, hy⟩ : ∃ y, y = dbl x := ⟨_, rfl⟩
      have HC := HD.out x
      have HY := hid (show dblk b (k + 1) = y by rw [HS.out, HX.out, hy])
      rw [← hy] at HC
      replace HC := hid HC
      clear hy HS
      rcases Bool.eq_false_or_eq_true (bitB a k) with hb | hb
      · have HZ := hid (show prodk a b (k + 1) = z by rw [prodk_yes a b k hb, HO.out, HX.out, hz, xr_eq])
        unfold bitB at hb
        obtain ⟨q, hq⟩ : ∃ q, q = a.toNat / 2 ^ k := ⟨_, rfl⟩
        rw [← hq] at hs hb
        have hqb : q < 256 := by rw [hq]; have := Nat.div_le_self a.toNat (2 ^ k); have := a.toNat_lt; omega
        have ho := b_one 5 q hqb
        obtain ⟨u, hu⟩ : ∃ u, u = q % 2 := ⟨_, rfl⟩
        rw [← hu] at ho
        have c1 : ((u : Int) == 1) = true := by simp at hb ⊢; omega
        clear hz hq hb hu HO HX
        go_wp2_with (go_at_call 29; refine HC.out.mono ?_; rintro e w' ⟨rfl, hw⟩; rw [hw])
        go_round
        case rel => exact ⟨k + 1, z, y, by omega, by go_num, rfl, rfl, HZ, HY⟩
        case measure => simp [intOf]; omega
      · have HZ := hid (show prodk a b (k + 1) = o by rw [prodk_no a b k hb, HO.out])
        unfold bitB at hb
        obtain ⟨q, hq⟩ : ∃ q, q = a.toNat / 2 ^ k := ⟨_, rfl⟩
        rw [← hq] at hs hb
        have hqb : q < 256 := by rw [hq]; have := Nat.div_le_self a.toNat (2 ^ k); have := a.toNat_lt; omega
        have ho := b_one 5 q hqb
        obtain ⟨u, hu⟩ : ∃ u, u = q % 2 := ⟨_, rfl⟩
        rw [← hu] at ho
        have c1 : ((u : Int) == 1) = false := by simp at hb ⊢; omega
        clear hz hq hb hu HO HX
        go_wp2_with (go_at_call 29; refine HC.out.mono ?_; rintro e w' ⟨rfl, hw⟩; rw [hw])
        go_round
        case rel => exact ⟨k + 1, o, y, by omega, by go_num, rfl, rfl, HZ, HY⟩
        case measure => simp [intOf]; omega
    · obtain rfl : k = 8 := by omega
      have HQ := hid (HE.out.symm.trans HO.out)
      go_wp2
      go_ret
      exact ⟨by rw [HQ.out]; rfl, rfl⟩
/-- A power whose exponent is 254, step by step. -/
def sqk (a : UInt8) : Nat → UInt8
  | 0 => a
  | k + 1 => prod (sqk a k) (sqk a k)
def pwk (a : UInt8) : Nat → UInt8
  | 0 => 1
  | k + 1 => prod (pwk a k) (sqk a (k + 1))
theorem sqk_zero (a : UInt8) : sqk a 0 = a := rfl
theorem sqk_succ (a : UInt8) (k : Nat) : sqk a (k + 1) = prod (sqk a k) (sqk a k) := rfl
theorem pwk_zero (a : UInt8) : pwk a 0 = 1 := rfl
theorem pwk_succ (a : UInt8) (k : Nat) : pwk a (k + 1) = prod (pwk a k) (sqk a (k + 1)) := rfl
theorem pwk_inv (a : UInt8) : pwk a 7 = inv a := by
  rw [inv_iT]
  have := all_bytes (p := fun a => pwk a 7 == iT a) (by decide +kernel) a
  simpa using this
attribute [irreducible] sqk pwk
set_option maxRecDepth 100000 in
set_option maxHeartbeats 1000000 in
theorem pinverse_any (a : UInt8) (w : World) :
    Calls Try.prog 12 #[.int .u8 (a.toNat : Int)] w fun e w' => e = .returned (.int .u8 ((inv a).toNat : Int)) ∧ w' = w := by
  have HP := hid (fun x y => pproduct_any x y w)
  have HE := hid (pwk_inv a)
  go_enter Try.func12, Try.ntmps12
  go_wp2
  go_loop [0, 3, 4] (fun va vo vk => ∃ (k : Nat) (o x : UInt8), k ≤ 7 ∧ vk = .int .i64 k ∧ vo = .int .u8 (o.toNat : Int) ∧ va = .int .u8 (x.toNat : Int) ∧ Hid (pwk a k = o) ∧ Hid (sqk a k = x)) (fun _ _ vk => 7 - (intOf vk).toNat)
  case atStart => exact ⟨0, 1, a, by omega, rfl, rfl, rfl, pwk_zero a, sqk_zero a⟩
  case round =>
    obtain ⟨k, o, x, hk, rfl, rfl, rfl, HO, HX⟩ := hrel
    by_cases hlt : k < 7
    · have C1 := HP.out x x
      obtain ⟨y, hy⟩ : ∃ y, y = prod x x := ⟨_, rfl⟩
      rw [← hy] at C1
      have C2 := HP.out o y
      obtain ⟨z, hz⟩ : ∃ z, z = prod o y := ⟨_, rfl⟩
      rw [← hz] at C2
      have HY := hid (show sqk a (k + 1) = y by rw [sqk_succ, HX.out, hy])
      have HZ := hid (show pwk a (k + 1) = z by rw [pwk_succ, HO.out, HY.out, hz])
      replace C1 := hid C1
      replace C2 := hid C2
      clear hy hz HO HX
      go_wp2_with (first
        | (go_at_call 10; ((with_reducible refine C1.out.mono ?_); rintro e w' ⟨rfl, hw⟩; rw [hw]))
        | (go_at_call 10; ((with_reducible refine C2.out.mono ?_); rintro e w' ⟨rfl, hw⟩; rw [hw])))
      go_round
      case rel => exact ⟨k + 1, z, y, by omega, by go_num, rfl, rfl, HZ, HY⟩
      case measure => simp [intOf]; omega
    · obtain rfl : k = 7 := by omega
      have HQ := hid (HE.out.symm.trans HO.out)
      go_wp2
      go_ret
      exact ⟨by rw [HQ.out]; rfl, rfl⟩
/-- A byte turned left by up to seven places. -/
def rotN (x : UInt8) (k : Nat) : UInt8 := UInt8.ofNat (x.toNat * 2 ^ k % 256 ||| x.toNat / 2 ^ (8 - k))
set_option maxRecDepth 100000 in
set_option maxHeartbeats 1000000 in
theorem rotl_any (x : UInt8) (k : Nat) (hk : k < 8) (w : World) :
    Calls Try.prog 40 #[.int .u8 (x.toNat : Int), .int .i64 (k : Int)] w fun e w' => e = .returned (.int .u8 ((rotN x k).toNat : Int)) ∧ w' = w := by
  have hxl := x.toNat_lt
  have hs1 := b_shl 5 x.toNat k (by omega)
  have hs2 := b_shr 5 x.toNat (8 - k) (by omega)
  rw [show ((8 - k : Nat) : Int) = 8 - (k : Int) by omega] at hs2
  have hdl : x.toNat / 2 ^ (8 - k) < 256 := by have := Nat.div_le_self x.toNat (2 ^ (8 - k)); omega
  have ho := b_or 5 (x.toNat * 2 ^ k % 256) (x.toNat / 2 ^ (8 - k)) (Nat.mod_lt _ (by omega)) hdl
  obtain ⟨y, hy⟩ : ∃ y, y = rotN x k := ⟨_, rfl⟩
  have hy2 : UInt8.ofNat (x.toNat * 2 ^ k % 256 ||| x.toNat / 2 ^ (8 - k)) = y := by rw [hy]; unfold rotN; rfl
  rw [hy2] at ho
  obtain ⟨p, hp⟩ : ∃ p, p = x.toNat * 2 ^ k % 256 := ⟨_, rfl⟩
  obtain ⟨q, hq⟩ : ∃ q, q = x.toNat / 2 ^ (8 - k) := ⟨_, rfl⟩
  rw [← hp] at hs1 ho
  rw [← hq] at hs2 ho hdl
  have h7 : binOp .and 49 (.int .u64 (k : Int)) (.int .u64 7) = pure (.int .u64 (k : Int)) := by
    simp only [binOp_and, Op.intBits]
    show (pure (.int .u64 (IntKind.u64.wrap ((BitVec.ofInt 64 (k : Int) &&& BitVec.ofInt 64 7).toNat : Int))) : Sem Value) = _
    congr 2
    rw [BitVec.ofInt_natCast, show (BitVec.ofInt 64 7) = BitVec.ofNat 64 7 by rfl, BitVec.toNat_and, BitVec.toNat_ofNat, BitVec.toNat_ofNat, Nat.mod_eq_of_lt (by omega), show 7 % 2 ^ 64 = 2 ^ 3 - 1 by rfl, Nat.and_two_pow_sub_one_eq_mod, Nat.mod_eq_of_lt (by omega)]
    simp [IntKind.wrap, IntKind.signed, IntKind.bits]
    omega
  rw [← hy]
  have hpl : p < 256 := by rw [hp]; exact Nat.mod_lt _ (by omega)
  clear hy hy2 hp hq
  go_enter Try.func40, Try.ntmps40
  go_wp2
  go_ret
  exact ⟨rfl, rfl⟩
/-- A substitute of the byte with the inverse x, k turns of it. -/
def psk (x : UInt8) : Nat → UInt8
  | 0 => 99
  | k + 1 => xr (psk x k) (rotN x k)
theorem psk_zero (x : UInt8) : psk x 0 = 99 := rfl
theorem psk_succ (x : UInt8) (k : Nat) : psk x (k + 1) = xr (psk x k) (rotN x k) := rfl
/-- The substitute of the byte with the inverse x. -/
def soT (x : UInt8) : UInt8 := sT (iT x)
theorem iT_iT (x : UInt8) : iT (iT x) = x := by
  have := all_bytes (p := fun a => iT (iT a) == a) (by decide +kernel) x
  simpa using this
theorem psk_soT (x : UInt8) : psk x 5 = soT x := by
  have h : subk x 4 = soT x := by
    rw [soT, ← sub_sT, sub, inv_iT, iT_iT]
  rw [← h, psk_succ, psk_succ, psk_succ, psk_succ, psk_succ, psk_zero, subk_succ, subk_succ, subk_succ, subk_succ, subk_zero]
  simp only [xr_eq]
  have h0 : rotN x 0 = x := by
    have := all_bytes (p := fun a => rotN a 0 == a) (by decide +kernel) x
    simpa using this
  have hr : ∀ k, rotN x k = rotB x k := fun k => by unfold rotN rotB; rfl
  rw [h0, hr, hr, hr, hr]
  congr 4
  exact UInt8.xor_comm _ _
attribute [irreducible] rotN psk
set_option maxRecDepth 100000 in
set_option maxHeartbeats 1000000 in
theorem substituteOf_any (x : UInt8) (w : World) :
    Calls Try.prog 31 #[.int .u8 (x.toNat : Int)] w fun e w' => e = .returned (.int .u8 ((soT x).toNat : Int)) ∧ w' = w := by
  have HR := hid (fun k (h : k < 8) => rotl_any x k h w)
  have HE := hid (psk_soT x)
  go_enter Try.func31, Try.ntmps31
  go_wp2
  go_loop [3, 5] (fun vo vk => ∃ (k : Nat) (o : UInt8), k ≤ 5 ∧ vk = .int .i64 k ∧ vo = .int .u8 (o.toNat : Int) ∧ Hid (psk x k = o)) (fun _ vk => 5 - (intOf vk).toNat)
  case atStart => exact ⟨0, 99, by omega, rfl, rfl, psk_zero x⟩
  case round =>
    obtain ⟨k, o, hk, rfl, rfl, HO⟩ := hrel
    by_cases hlt : k < 5
    · have C := HR.out k (by omega)
      obtain ⟨y, hy⟩ : ∃ y, y = rotN x k := ⟨_, rfl⟩
      rw [← hy] at C
      have hx := b_xr 5 o y
      obtain ⟨z, hz⟩ : ∃ z, z = xr o y := ⟨_, rfl⟩
      rw [← hz] at hx
      have HZ := hid (show psk x (k + 1) = z by rw [psk_succ, HO.out, ← hy, hz])
      replace C := hid C
      clear hy hz HO
      go_wp2_with (go_at_call 40; refine C.out.mono ?_; rintro e w' ⟨rfl, hw⟩; rw [hw])
      go_round
      case rel => exact ⟨k + 1, z, by omega, by go_num, rfl, HZ⟩
      case measure => simp [intOf]; omega
    · obtain rfl : k = 5 := by omega
      have HQ := hid (HE.out.symm.trans HO.out)
      go_wp2
      go_ret
      exact ⟨by rw [HQ.out]; rfl, rfl⟩
theorem soT_inv (a : UInt8) : soT (inv a) = sT a := by rw [soT, inv_iT, iT_iT]
set_option maxRecDepth 100000 in
theorem psub_any (a : UInt8) (w : World) :
    Calls Try.prog 14 #[.int .u8 (a.toNat : Int)] w fun e w' => e = .returned (.int .u8 ((sT a).toNat : Int)) ∧ w' = w := by
  have HI := pinverse_any a w
  have HS := substituteOf_any (inv a) w
  rw [soT_inv] at HS
  obtain ⟨x, hx⟩ : ∃ x, x = inv a := ⟨_, rfl⟩
  rw [← hx] at HI HS
  replace HI := hid HI
  replace HS := hid HS
  clear hx
  go_enter Try.func14, Try.ntmps14
  go_wp2_with (first
    | (go_at_call 12; refine HI.out.mono ?_; rintro e w' ⟨rfl, hw⟩; rw [hw])
    | (go_at_call 31; refine HS.out.mono ?_; rintro e w' ⟨rfl, hw⟩; rw [hw]))
  go_ret
  exact ⟨rfl, rfl⟩
end Go.Proofs.Ytenlidbgllahhaa
