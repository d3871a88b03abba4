/-
  Bytes as values that the walk does not open; the field's elements; nothing here but Double, Product, Inverse, Sub speaks of the program.
-/
import Derived.Test.YtenlidbgllahhaaBase
import Derived.Test.YtenlidbgllahhaaProg
namespace Go.Proofs.Ytenlidbgllahhaa
open Go.RowKit

theorem b_xor (t : TypeId) (a b : UInt8) : binOp .xor t (.int .u8 (a.toNat : Int)) (.int .u8 (b.toNat : Int)) = pure (.int .u8 ((a ^^^ b).toNat : Int)) := by
  simp only [binOp_xor, Op.intBits]
  show (pure (.int .u8 (IntKind.u8.wrap ((BitVec.ofInt 8 (a.toNat : Int) ^^^ BitVec.ofInt 8 (b.toNat : Int)).toNat : Int))) : Sem Value) = _
  congr 2
  rw [BitVec.ofInt_natCast, BitVec.ofInt_natCast, BitVec.toNat_xor, UInt8.toNat_xor]
  have h1 := a.toNat_lt
  have h2 := b.toNat_lt
  have h3 : a.toNat ^^^ b.toNat < 2 ^ 8 := Nat.xor_lt_two_pow h1 h2
  simp [IntKind.wrap, IntKind.signed, IntKind.bits]
  omega
/-- Doubling in the field. -/
def dbl (x : UInt8) : UInt8 := if 128 ≤ x.toNat then UInt8.ofNat ((x.toNat - 128) * 2) ^^^ 27 else UInt8.ofNat (x.toNat * 2)
theorem dbl_high (x : UInt8) (h : 128 ≤ x.toNat) : dbl x = UInt8.ofNat ((x.toNat - 128) * 2) ^^^ 27 := by unfold dbl; rw [if_pos h]
theorem dbl_low (x : UInt8) (h : ¬ 128 ≤ x.toNat) : dbl x = UInt8.ofNat (x.toNat * 2) := by unfold dbl; rw [if_neg h]
theorem double_any (x : UInt8) (w : World) :
    Calls Try.prog 30 #[.int .u8 (x.toNat : Int)] w fun e w' => e = .returned (.int .u8 ((dbl x).toNat : Int)) ∧ w' = w := by
  have hlt := x.toNat_lt
  by_cases h : 128 ≤ x.toNat
  · have hx := b_xor 5 (UInt8.ofNat ((x.toNat - 128) * 2)) 27
    rw [← dbl_high x h] at hx
    obtain ⟨y, hy⟩ : ∃ y, y = dbl x := ⟨_, rfl⟩
    rw [← hy] at hx ⊢
    have e1 : ((UInt8.ofNat ((x.toNat - 128) * 2)).toNat : Int) = ((x.toNat : Int) - 128) * 2 := by rw [UInt8.toNat_ofNat']; omega
    rw [e1] at hx
    replace hx : binOp .xor 5 (.int .u8 (((x.toNat : Int) - 128) * 2)) (.int .u8 27) = pure (.int .u8 (y.toNat : Int)) := hx
    clear hy e1
    obtain ⟨n, hn⟩ : ∃ n, n = x.toNat := ⟨_, rfl⟩
    rw [← hn] at hx h hlt ⊢
    have c1 : decide ((128 : Int) ≤ (n : Int)) = true := by simp; omega
    clear hn
    go_enter Try.func30, Try.ntmps30
    go_wp2
    go_ret
    exact ⟨rfl, rfl⟩
  · have hd := dbl_low x h
    have e1 : ((dbl x).toNat : Int) = (x.toNat : Int) * 2 := by rw [hd, UInt8.toNat_ofNat']; omega
    rw [e1]
    obtain ⟨n, hn⟩ : ∃ n, n = x.toNat := ⟨_, rfl⟩
    rw [← hn] at h hlt ⊢
    have c1 : decide ((128 : Int) ≤ (n : Int)) = false := by simp; omega
    clear hn hd e1
    go_enter Try.func30, Try.ntmps30
    go_wp2
    go_ret
    exact ⟨rfl, rfl⟩
/-- Doubled k times; one bit; the product, k bits of it. -/
def dblk (b : UInt8) : Nat → UInt8
  | 0 => b
  | k + 1 => dbl (dblk b k)
theorem dblk_zero (b : UInt8) : dblk b 0 = b := rfl
theorem dblk_succ (b : UInt8) (k : Nat) : dblk b (k + 1) = dbl (dblk b k) := rfl
def bitB (a : UInt8) (k : Nat) : Bool := a.toNat / 2 ^ k % 2 == 1
def prodk (a b : UInt8) : Nat → UInt8
  | 0 => 0
  | k + 1 => if bitB a k then prodk a b k ^^^ dblk b k else prodk a b k
theorem prodk_zero (a b : UInt8) : prodk a b 0 = 0 := rfl
theorem prodk_yes (a b : UInt8) (k : Nat) (h : bitB a k = true) : prodk a b (k + 1) = prodk a b k ^^^ dblk b k := by rw [prodk, if_pos h]
theorem prodk_no (a b : UInt8) (k : Nat) (h : bitB a k = false) : prodk a b (k + 1) = prodk a b k := by rw [prodk, if_neg (by rw [h]; exact Bool.false_ne_true)]
def prod (a b : UInt8) : UInt8 := prodk a b 8
theorem prod_eq (a b : UInt8) : prodk a b 8 = prod a b := rfl
theorem b_shr (t : TypeId) (a k : Nat) (h : k ≤ 8) : binOp .shr t (.int .u8 (a : Int)) (.int .u64 (k : Int)) = pure (.int .u8 ((a / 2 ^ k : Nat) : Int)) := by
  simp only [binOp]
  unfold Op.shift
  rw [if_neg (by omega)]
  simp only
  congr 2
  show (a : Int).fdiv (2 ^ (min (k : Int).toNat 8)) = _
  rw [Int.toNat_natCast, Nat.min_eq_left h, Int.fdiv_eq_ediv_of_nonneg _ (Int.pow_nonneg (by omega)), Int.natCast_ediv, Int.natCast_pow]
  rfl
attribute [irreducible] prodk dblk dbl
set_option maxRecDepth 100000 in
set_option maxHeartbeats 1000000 in
theorem product_any (a b : UInt8) (w : World) :
    Calls Try.prog 11 #[.int .u8 (a.toNat : Int), .int .u8 (b.toNat : Int)] w fun e w' => e = .returned (.int .u8 ((prod a b).toNat : Int)) ∧ w' = w := by
  have HD := hid (fun x => double_any x w)
  have HE := hid (prod_eq a b)
  go_enter Try.func11, Try.ntmps11
  go_wp2
  go_loop [5, 6] (fun vo vk => ∃ (k : Nat) (o : UInt8), k ≤ 8 ∧ vk = .int .i64 k ∧ vo = .int .u8 (o.toNat : Int) ∧ Hid (prodk a b k = o)) (fun _ vk => 8 - (intOf vk).toNat)
  case atStart => exact ⟨0, 0, by omega, rfl, rfl, prodk_zero a b⟩
  case round =>
    obtain ⟨k, o, hk, rfl, rfl, HO⟩ := hrel
    by_cases hlt : k < 8
    · go_wp2
      go_loop [7, 8] (fun vx vi => ∃ (i : Nat) (x : UInt8), i ≤ k ∧ vi = .int .i64 i ∧ vx = .int .u8 (x.toNat : Int) ∧ Hid (dblk b i = x)) (fun _ vi => k - (intOf vi).toNat)
      case atStart => exact ⟨0, b, by omega, rfl, rfl, dblk_zero b⟩
      case round =>
        obtain ⟨i, x, hi, rfl, rfl, HX⟩ := hrel
        by_cases hik : i < k
        · have HS := hid (dblk_succ b i)
          obtain ⟨y, hy⟩ : ∃ y, y = dbl x := ⟨_, rfl⟩
          have HC := HD.out x
          have HY := hid (show dblk b (i + 1) = y by rw [HS.out, HX.out, hy])
          rw [← hy] at HC
          replace HC := hid HC
          clear hy HS HX
          go_wp2_with (go_at_call 30; refine HC.out.mono ?_; rintro e w' ⟨rfl, hw⟩; rw [hw])
          go_round
          case rel => exact ⟨i + 1, y, by omega, by go_num, rfl, HY⟩
          case measure => simp [intOf]; omega
        · obtain rfl : i = k := by omega
          have hs := b_shr 5 a.toNat i (by omega)
          have hx := b_xor 5 o x
          obtain ⟨z, hz⟩ : ∃ z, z = o ^^^ x := ⟨_, rfl⟩
          rw [← hz] at hx
          rcases Bool.eq_false_or_eq_true (bitB a i) with hb | hb
          · have HZ := hid (show prodk a b (i + 1) = z by rw [prodk_yes a b i hb, HO.out, HX.out, hz])
            unfold bitB at hb
            obtain ⟨q, hq⟩ : ∃ q, q = a.toNat / 2 ^ i := ⟨_, rfl⟩
            rw [← hq] at hs hb
            have hqb : q ≤ 255 := by rw [hq]; have := Nat.div_le_self a.toNat (2 ^ i); have := a.toNat_lt; omega
            have c1 : ((q : Int) % 2 == 1) = true := by simp at hb ⊢; omega
            clear hz hq hb HO HX
            go_wp2
            go_round
            case rel => exact ⟨i + 1, z, by omega, by go_num, rfl, HZ⟩
            case measure => simp [intOf]; omega
          · have HZ := hid (show prodk a b (i + 1) = o by rw [prodk_no a b i hb, HO.out])
            unfold bitB at hb
            obtain ⟨q, hq⟩ : ∃ q, q = a.toNat / 2 ^ i := ⟨_, rfl⟩
            rw [← hq] at hs hb
            have hqb : q ≤ 255 := by rw [hq]; have := Nat.div_le_self a.toNat (2 ^ i); have := a.toNat_lt; omega
            have c1 : ((q : Int) % 2 == 1) = false := by simp at hb ⊢; omega
            clear hz hq hb HO HX
            go_wp2
            go_round
            case rel => exact ⟨i + 1, o, by omega, by go_num, rfl, HZ⟩
            case measure => simp [intOf]; omega
    · obtain rfl : k = 8 := by omega
      have HQ := hid (HE.out.symm.trans HO.out)
      go_wp2
      go_ret
      exact ⟨by rw [HQ.out]; rfl, rfl⟩
end Go.Proofs.Ytenlidbgllahhaa
