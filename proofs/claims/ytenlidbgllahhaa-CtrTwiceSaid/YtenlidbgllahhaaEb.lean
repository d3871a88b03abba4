/-
  The document's Inverse and Sub.
-/
import Derived.Test.YtenlidbgllahhaaEa
namespace Go.Proofs.Ytenlidbgllahhaa
open Go.RowKit

theorem of_toNat (x : Nat) (h : x < 256) : ((UInt8.ofNat x).toNat : Int) = (x : Int) := by rw [UInt8.toNat_ofNat']; omega
/-- The first of the last k elements whose product with a is 1. -/
def invs (a : UInt8) : Nat → UInt8
  | 0 => 0
  | k + 1 => if prod a (UInt8.ofNat (255 - k)) = 1 then UInt8.ofNat (255 - k) else invs a k
def inv (a : UInt8) : UInt8 := invs a 255
theorem invs_zero (a : UInt8) : invs a 0 = 0 := rfl
theorem invs_yes (a : UInt8) (x : Nat) (h : x ≤ 255) (hp : prod a (UInt8.ofNat x) = 1) : invs a (256 - x) = UInt8.ofNat x := by
  rw [show 256 - x = (255 - x) + 1 by omega, invs, show 255 - (255 - x) = x by omega, if_pos hp]
theorem invs_no (a : UInt8) (x : Nat) (h : x ≤ 255) (hp : prod a (UInt8.ofNat x) ≠ 1) : invs a (256 - x) = invs a (256 - (x + 1)) := by
  rw [show 256 - x = (255 - x) + 1 by omega, invs, show 255 - (255 - x) = x by omega, if_neg hp]
  congr 1
  omega
theorem inv_eq (a : UInt8) : invs a (256 - 1) = inv a := rfl
attribute [irreducible] invs
set_option maxRecDepth 100000 in
set_option maxHeartbeats 1000000 in
theorem inverse_any (a : UInt8) (w : World) :
    Calls Try.prog 13 #[.int .u8 (a.toNat : Int)] w fun e w' => e = .returned (.int .u8 ((inv a).toNat : Int)) ∧ w' = w := by
  have HP := hid (fun (x : Nat) (h : x < 256) (p : UInt8) (hp : prod a (UInt8.ofNat x) = p) => show Calls Try.prog 11 #[.int .u8 (a.toNat : Int), .int .u8 (x : Int)] w (fun e w' => e = .returned (.int .u8 (p.toNat : Int)) ∧ w' = w) by
    have := product_any a (UInt8.ofNat x) w
    rw [of_toNat x h, hp] at this
    exact this)
  obtain ⟨r, hr⟩ : ∃ r, r = inv a := ⟨_, rfl⟩
  have H0 := hid ((inv_eq a).trans hr.symm)
  rw [← hr]
  clear hr
  go_enter Try.func13, Try.ntmps13
  go_wp2
  go_loop [3] (fun vx => ∃ x : Nat, 1 ≤ x ∧ x ≤ 256 ∧ vx = .int .i64 x ∧ Hid (invs a (256 - x) = r)) (fun vx => 256 - (intOf vx).toNat)
  case atStart => exact ⟨1, by omega, by omega, rfl, H0⟩
  case round =>
    clear H0
    obtain ⟨x, h1, h2, rfl, HX⟩ := hrel
    by_cases hlt : x < 256
    · obtain ⟨p, hp⟩ : ∃ p, p = prod a (UInt8.ofNat x) := ⟨_, rfl⟩
      have HC := hid (HP.out x hlt p hp.symm)
      have hpl := p.toNat_lt
      by_cases hp1 : p = 1
      · have HR := hid (show r = UInt8.ofNat x by rw [← HX.out, invs_yes a x (by omega) (by rw [← hp, hp1])])
        have c1 : ((p.toNat : Int) == 1) = true := by rw [hp1]; rfl
        clear hp1 hp HX
        go_wp2_with (go_at_call 11; refine HC.out.mono ?_; rintro e w' ⟨rfl, hw⟩; rw [hw])
        go_ret
        exact ⟨by rw [HR.out, of_toNat x hlt]; rfl, rfl⟩
      · have HR := hid (show invs a (256 - (x + 1)) = r by rw [← HX.out, invs_no a x (by omega) (by rw [← hp]; exact hp1)])
        have c1 : ((p.toNat : Int) == 1) = false := by
          rw [beq_eq_false_iff_ne]
          intro e
          exact hp1 (UInt8.toNat_inj.1 (by show p.toNat = 1; omega))
        clear hp1 hp HX
        go_wp2_with (go_at_call 11; refine HC.out.mono ?_; rintro e w' ⟨rfl, hw⟩; rw [hw])
        go_round
        case rel => exact ⟨x + 1, by omega, by omega, by go_num, HR⟩
        case measure => simp [intOf]; omega
    · obtain rfl : x = 256 := by omega
      have HR := hid (show r = 0 by rw [← HX.out]; exact invs_zero a)
      go_wp2
      go_ret
      exact ⟨by rw [HR.out]; rfl, rfl⟩
/-- A byte turned left. -/
def rotB (x : UInt8) (k : Nat) : UInt8 := UInt8.ofNat (x.toNat * 2 ^ k % 256 ||| x.toNat / 2 ^ (8 - k))
def subk (x : UInt8) : Nat → UInt8
  | 0 => x ^^^ 99
  | k + 1 => subk x k ^^^ rotB x (k + 1)
def sub (a : UInt8) : UInt8 := subk (inv a) 4
theorem subk_zero (x : UInt8) : subk x 0 = x ^^^ 99 := rfl
theorem subk_succ (x : UInt8) (k : Nat) : subk x (k + 1) = subk x k ^^^ rotB x (k + 1) := rfl
theorem b_shl (t : TypeId) (a k : Nat) (h : k ≤ 8) : binOp .shl t (.int .u8 (a : Int)) (.int .u64 (k : Int)) = pure (.int .u8 ((a * 2 ^ k % 256 : Nat) : Int)) := by
  simp only [binOp]
  unfold Op.shift
  rw [if_neg (by omega)]
  simp only
  congr 2
  show IntKind.u8.wrap ((a : Int) * 2 ^ (min (k : Int).toNat 8)) = _
  rw [Int.toNat_natCast, Nat.min_eq_left h, Int.natCast_emod, Int.natCast_mul, Int.natCast_pow]
  simp [IntKind.wrap, IntKind.signed, IntKind.bits]
theorem b_or (t : TypeId) (a b : Nat) (ha : a < 256) (hb : b < 256) : binOp .or t (.int .u8 (a : Int)) (.int .u8 (b : Int)) = pure (.int .u8 ((UInt8.ofNat (a ||| b)).toNat : Int)) := by
  simp only [binOp_or, Op.intBits]
  show (pure (.int .u8 (IntKind.u8.wrap ((BitVec.ofInt 8 (a : Int) ||| BitVec.ofInt 8 (b : Int)).toNat : Int))) : Sem Value) = _
  congr 2
  have h3 : a ||| b < 2 ^ 8 := Nat.or_lt_two_pow ha hb
  rw [BitVec.ofInt_natCast, BitVec.ofInt_natCast, BitVec.toNat_or, BitVec.toNat_ofNat, BitVec.toNat_ofNat, Nat.mod_eq_of_lt (by omega), Nat.mod_eq_of_lt (by omega), of_toNat _ (by omega)]
  simp [IntKind.wrap, IntKind.signed, IntKind.bits]
  omega
attribute [irreducible] subk rotB
set_option maxRecDepth 100000 in
set_option maxHeartbeats 1000000 in
theorem subR_any (a : UInt8) (w : World) :
    Calls Try.prog 15 #[.int .u8 (a.toNat : Int)] w fun e w' => e = .returned (.int .u8 ((sub a).toNat : Int)) ∧ w' = w := by
  have hi := inverse_any a w
  obtain ⟨x, hx⟩ : ∃ x, x = inv a := ⟨_, rfl⟩
  have HE := hid (show subk x 4 = sub a by rw [hx]; rfl)
  rw [← hx] at hi
  have HI := hid hi
  have h0 := b_xor 5 x 99
  replace h0 : binOp .xor 5 (.int .u8 (x.toNat : Int)) (.int .u8 99) = pure (.int .u8 ((x ^^^ 99).toNat : Int)) := h0
  obtain ⟨o0, ho0⟩ : ∃ o, o = x ^^^ 99 := ⟨_, rfl⟩
  rw [← ho0] at h0
  have H0 := hid ((subk_zero x).trans ho0.symm)
  have hxl := x.toNat_lt
  clear hi hx ho0
  go_enter Try.func15, Try.ntmps15
  go_wp2_with (go_at_call 13; refine HI.out.mono ?_; rintro e w' ⟨rfl, hw⟩; rw [hw])
  go_loop [4, 5] (fun vo vk => ∃ (k : Nat) (o : UInt8), k ≤ 4 ∧ vk = .int .i64 ((k : Int) + 1) ∧ vo = .int .u8 (o.toNat : Int) ∧ Hid (subk x k = o)) (fun _ vk => 8 - (intOf vk).toNat)
  case atStart => exact ⟨0, o0, by omega, rfl, rfl, H0⟩
  case round =>
    clear H0 h0
    obtain ⟨k, o, hk, rfl, rfl, HO⟩ := hrel
    by_cases hlt : k < 4
    · have HS := hid (subk_succ x k)
      have hs1 : binOp .shl 5 (.int .u8 (x.toNat : Int)) (.int .u64 ((k : Int) + 1)) = pure (.int .u8 ((x.toNat * 2 ^ (k + 1) % 256 : Nat) : Int)) := b_shl 5 x.toNat (k + 1) (by omega)
      have hs2 := b_shr 5 x.toNat (8 - (k + 1)) (by omega)
      rw [show ((8 - (k + 1) : Nat) : Int) = 8 - ((k : Int) + 1) by omega] at hs2
      have hdl : x.toNat / 2 ^ (8 - (k + 1)) < 256 := by have := Nat.div_le_self x.toNat (2 ^ (8 - (k + 1))); omega
      have ho := b_or 5 (x.toNat * 2 ^ (k + 1) % 256) (x.toNat / 2 ^ (8 - (k + 1))) (Nat.mod_lt _ (by omega)) hdl
      obtain ⟨y, hy⟩ : ∃ y, y = rotB x (k + 1) := ⟨_, rfl⟩
      have hy2 : UInt8.ofNat (x.toNat * 2 ^ (k + 1) % 256 ||| x.toNat / 2 ^ (8 - (k + 1))) = y := by rw [hy]; unfold rotB; rfl
      rw [hy2] at ho
      obtain ⟨p, hp⟩ : ∃ p, p = x.toNat * 2 ^ (k + 1) % 256 := ⟨_, rfl⟩
      obtain ⟨q, hq⟩ : ∃ q, q = x.toNat / 2 ^ (8 - (k + 1)) := ⟨_, rfl⟩
      rw [← hp] at hs1 ho
      rw [← hq] at hs2 ho hdl
      have hxx := b_xor 5 o y
      obtain ⟨z, hz⟩ : ∃ z, z = o ^^^ y := ⟨_, rfl⟩
      rw [← hz] at hxx
      have HZ := hid (show subk x (k + 1) = z by rw [HS.out, HO.out, ← hy, hz])
      have hpl : p < 256 := by rw [hp]; exact Nat.mod_lt _ (by omega)
      clear hy hy2 hp hq hz HS HO
      go_wp2
      go_round
      case rel => exact ⟨k + 1, z, by omega, by go_num, rfl, HZ⟩
      case measure => simp [intOf]; omega
    · obtain rfl : k = 4 := by omega
      have HQ := hid (HE.out.symm.trans HO.out)
      go_wp2
      go_ret
      exact ⟨by rw [HQ.out]; rfl, rfl⟩
end Go.Proofs.Ytenlidbgllahhaa
