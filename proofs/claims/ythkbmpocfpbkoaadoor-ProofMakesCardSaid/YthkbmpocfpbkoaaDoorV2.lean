/-
  Bytes as values that the walk does not open; the field's elements; nothing here but Double, Product, Inverse, Sub speaks of the program.
  The document's Inverse and Sub.
  The field's laws, by its basis; the tables of inverses and substitutes. Nothing here speaks of the program.
  Rows that are filled in their order; the document's adding of a round key.
  The document's encryption of a block.
  The document's round keys.
  Encryption backwards: each step's inverse, and both ways round. Nothing here speaks of the program.
  Numbers of many bytes, big-endian; the document's Next of layer 5.
  The program's field: doubling, product, inverse, substitute.
  The program's blocks: sum, bytes replaced by a table's, rows turned, columns mixed.
  The document's Next of layer 5, walked.
  The program's Next of layer 5, walked.
  The program's tables: substitutes, and the bytes that have them.
  The program's originals, walked.
  The program's next round key.
  The document's encryption of a block, walked.
  The document's round keys, walked.
  Counters add up; streams; the document's Stream of layer 5.
  The document's Turn of layer 5.
-/
import Derived.Test.YthkbmpocfpbkoaaDoorY1
import Derived.Test.YthkbmpocfpbkoaaDoorProg
import Derived.BigQuiet
import Derived.Deep.Cut
import Derived.StillTailTactics
import Derived.Deep.MidRow
import Derived.Test.YthkbmpocfpbkoaaDoorX0
namespace Go.Proofs.YthkbmpocfpbkoaaDoor
open Go.RowKit

/-- Doubling in the field. -/
def dbl (x : UInt8) : UInt8 := if 128 ≤ x.toNat then UInt8.ofNat ((x.toNat - 128) * 2) ^^^ 27 else UInt8.ofNat (x.toNat * 2)
theorem dbl_high (x : UInt8) (h : 128 ≤ x.toNat) : dbl x = UInt8.ofNat ((x.toNat - 128) * 2) ^^^ 27 := by unfold dbl; rw [if_pos h]
theorem dbl_low (x : UInt8) (h : ¬ 128 ≤ x.toNat) : dbl x = UInt8.ofNat (x.toNat * 2) := by unfold dbl; rw [if_neg h]
/-- Doubled k times; one bit; the product, k bits of it. -/
def dblk (b : UInt8) : Nat → UInt8
  | 0 => b
  | k + 1 => dbl (dblk b k)
theorem dblk_zero (b : UInt8) : dblk b 0 = b := rfl
theorem dblk_succ (b : UInt8) (k : Nat) : dblk b (k + 1) = dbl (dblk b k) := rfl
def bitB (a : UInt8) (k : Nat) : Bool := a.toNat / 2 ^ k % 2 == 1
def prodk (a b : UInt8) : Nat → UInt8
  | 0 => 0
  | k + 1 => if bitB a k then prodk a b k ^^^ dblk b k else prodk a b k
theorem prodk_zero (a b : UInt8) : prodk a b 0 = 0 := rfl
theorem prodk_yes (a b : UInt8) (k : Nat) (h : bitB a k = true) : prodk a b (k + 1) = prodk a b k ^^^ dblk b k := by rw [prodk, if_pos h]
theorem prodk_no (a b : UInt8) (k : Nat) (h : bitB a k = false) : prodk a b (k + 1) = prodk a b k := by rw [prodk, if_neg (by rw [h]; exact Bool.false_ne_true)]
def prod (a b : UInt8) : UInt8 := prodk a b 8
theorem prod_eq (a b : UInt8) : prodk a b 8 = prod a b := rfl
theorem b_shr (t : TypeId) (a k : Nat) (h : k ≤ 8) : binOp .shr t (.int .u8 (a : Int)) (.int .u64 (k : Int)) = pure (.int .u8 ((a / 2 ^ k : Nat) : Int)) := by
  simp only [binOp]
  unfold Op.shift
  rw [if_neg (by omega)]
  simp only
  congr 2
  show (a : Int).fdiv (2 ^ (min (k : Int).toNat 8)) = _
  rw [Int.toNat_natCast, Nat.min_eq_left h, Int.fdiv_eq_ediv_of_nonneg _ (Int.pow_nonneg (by omega)), Int.natCast_ediv, Int.natCast_pow]
  rfl
attribute [irreducible] prodk dblk dbl
end Go.Proofs.YthkbmpocfpbkoaaDoor

namespace Go.Proofs.YthkbmpocfpbkoaaDoor
open Go.RowKit

theorem of_toNat (x : Nat) (h : x < 256) : ((UInt8.ofNat x).toNat : Int) = (x : Int) := by rw [UInt8.toNat_ofNat']; omega
/-- The first of the last k elements whose product with a is 1. -/
def invs (a : UInt8) : Nat → UInt8
  | 0 => 0
  | k + 1 => if prod a (UInt8.ofNat (255 - k)) = 1 then UInt8.ofNat (255 - k) else invs a k
def inv (a : UInt8) : UInt8 := invs a 255
theorem invs_zero (a : UInt8) : invs a 0 = 0 := rfl
theorem invs_yes (a : UInt8) (x : Nat) (h : x ≤ 255) (hp : prod a (UInt8.ofNat x) = 1) : invs a (256 - x) = UInt8.ofNat x := by
  rw [show 256 - x = (255 - x) + 1 by omega, invs, show 255 - (255 - x) = x by omega, if_pos hp]
theorem invs_no (a : UInt8) (x : Nat) (h : x ≤ 255) (hp : prod a (UInt8.ofNat x) ≠ 1) : invs a (256 - x) = invs a (256 - (x + 1)) := by
  rw [show 256 - x = (255 - x) + 1 by omega, invs, show 255 - (255 - x) = x by omega, if_neg hp]
  congr 1
  omega
theorem inv_eq (a : UInt8) : invs a (256 - 1) = inv a := rfl
attribute [irreducible] invs
/-- A byte turned left. -/
def rotB (x : UInt8) (k : Nat) : UInt8 := UInt8.ofNat (x.toNat * 2 ^ k % 256 ||| x.toNat / 2 ^ (8 - k))
def subk (x : UInt8) : Nat → UInt8
  | 0 => x ^^^ 99
  | k + 1 => subk x k ^^^ rotB x (k + 1)
def sub (a : UInt8) : UInt8 := subk (inv a) 4
theorem subk_zero (x : UInt8) : subk x 0 = x ^^^ 99 := rfl
theorem subk_succ (x : UInt8) (k : Nat) : subk x (k + 1) = subk x k ^^^ rotB x (k + 1) := rfl
theorem b_shl8 (t : TypeId) (a k : Nat) (h : k ≤ 8) : binOp .shl t (.int .u8 (a : Int)) (.int .u64 (k : Int)) = pure (.int .u8 ((a * 2 ^ k % 256 : Nat) : Int)) := by
  simp only [binOp]
  unfold Op.shift
  rw [if_neg (by omega)]
  simp only
  congr 2
  show IntKind.u8.wrap ((a : Int) * 2 ^ (min (k : Int).toNat 8)) = _
  rw [Int.toNat_natCast, Nat.min_eq_left h, Int.natCast_emod, Int.natCast_mul, Int.natCast_pow]
  simp [IntKind.wrap, IntKind.signed, IntKind.bits]
theorem b_or (t : TypeId) (a b : Nat) (ha : a < 256) (hb : b < 256) : binOp .or t (.int .u8 (a : Int)) (.int .u8 (b : Int)) = pure (.int .u8 ((UInt8.ofNat (a ||| b)).toNat : Int)) := by
  simp only [binOp_or, Op.intBits]
  show (pure (.int .u8 (IntKind.u8.wrap ((BitVec.ofInt 8 (a : Int) ||| BitVec.ofInt 8 (b : Int)).toNat : Int))) : Sem Value) = _
  congr 2
  have h3 : a ||| b < 2 ^ 8 := Nat.or_lt_two_pow ha hb
  rw [BitVec.ofInt_natCast, BitVec.ofInt_natCast, BitVec.toNat_or, BitVec.toNat_ofNat, BitVec.toNat_ofNat, Nat.mod_eq_of_lt (by omega), Nat.mod_eq_of_lt (by omega), of_toNat _ (by omega)]
  simp [IntKind.wrap, IntKind.signed, IntKind.bits]
  omega
attribute [irreducible] subk rotB
end Go.Proofs.YthkbmpocfpbkoaaDoor

namespace Go.Proofs.YthkbmpocfpbkoaaDoor
open Go.RowKit

/-- The bit with number j. -/
def bitU (j : Nat) : UInt8 := UInt8.ofNat (2 ^ j)
/-- A byte out of its lowest k bits. -/
def partX (x : UInt8) : Nat → UInt8
  | 0 => 0
  | k + 1 => if bitB x k then partX x k ^^^ bitU k else partX x k
theorem all_bytes {p : UInt8 → Bool} (h : ((List.range 256).all fun n => p (UInt8.ofNat n)) = true) (x : UInt8) : p x = true := by
  have := List.all_eq_true.1 h x.toNat (List.mem_range.2 x.toNat_lt)
  rwa [UInt8.ofNat_toNat] at this
theorem part_all (x : UInt8) : partX x 8 = x := by
  have := all_bytes (p := fun x => partX x 8 == x) (by decide +kernel) x
  simpa using this
theorem byte_ind {P : UInt8 → Prop} (h0 : P 0) (hb : ∀ j, j < 8 → P (bitU j)) (hx : ∀ a b, P a → P b → P (a ^^^ b)) (x : UInt8) : P x := by
  have : ∀ k, k ≤ 8 → P (partX x k) := by
    intro k
    induction k with
    | zero => exact fun _ => h0
    | succ k ih =>
      intro hk
      rw [partX]
      split
      · exact hx _ _ (ih (by omega)) (hb k (by omega))
      · exact ih (by omega)
  rw [← part_all x]
  exact this 8 (Nat.le_refl _)
theorem x_left (a b c : UInt8) : a ^^^ (b ^^^ c) = b ^^^ (a ^^^ c) := by rw [← UInt8.xor_assoc, UInt8.xor_comm a b, UInt8.xor_assoc]
theorem x_four (a b c d : UInt8) : (a ^^^ b) ^^^ (c ^^^ d) = (a ^^^ c) ^^^ (b ^^^ d) := by simp only [UInt8.xor_assoc, x_left b c d]
theorem x_zero (a : UInt8) : a ^^^ 0 = a := by simp
theorem dbl_bit {j : Nat} (h : j < 8) (a : UInt8) : dbl (a ^^^ bitU j) = dbl a ^^^ dbl (bitU j) := by
  have h1 : ((List.range 8).all fun j => (List.range 256).all fun n => dbl (UInt8.ofNat n ^^^ bitU j) == dbl (UInt8.ofNat n) ^^^ dbl (bitU j)) = true := by decide +kernel
  have := all_bytes (p := fun a => dbl (a ^^^ bitU j) == dbl a ^^^ dbl (bitU j)) (List.all_eq_true.1 h1 j (List.mem_range.2 h)) a
  simpa using this
theorem dbl_zero : dbl 0 = 0 := by decide +kernel
theorem dbl_xor (a b : UInt8) : dbl (a ^^^ b) = dbl a ^^^ dbl b := by
  revert a
  refine byte_ind (P := fun b => ∀ a, dbl (a ^^^ b) = dbl a ^^^ dbl b) (fun a => by rw [dbl_zero, x_zero, x_zero]) (fun j h a => dbl_bit h a) (fun b c hb hc a => ?_) b
  rw [← UInt8.xor_assoc, hc, hb, hc b, UInt8.xor_assoc]
theorem dblk_xor (a b : UInt8) (k : Nat) : dblk (a ^^^ b) k = dblk a k ^^^ dblk b k := by
  induction k with
  | zero => simp [dblk_zero]
  | succ k ih => rw [dblk_succ, dblk_succ, dblk_succ, ih, dbl_xor]
theorem prodk_step (a b : UInt8) (k : Nat) : prodk a b (k + 1) = prodk a b k ^^^ (if bitB a k then dblk b k else 0) := by
  rcases Bool.eq_false_or_eq_true (bitB a k) with h | h
  · rw [prodk_yes a b k h, if_pos h]
  · rw [prodk_no a b k h, if_neg (by rw [h]; exact Bool.false_ne_true), x_zero]
theorem prodk_right (a b c : UInt8) (k : Nat) : prodk a (b ^^^ c) k = prodk a b k ^^^ prodk a c k := by
  induction k with
  | zero => simp [prodk_zero]
  | succ k ih =>
    rw [prodk_step, prodk_step, prodk_step, ih, x_four, dblk_xor]
    congr 1
    split <;> simp
theorem bitB_test (a : UInt8) (k : Nat) : bitB a k = a.toNat.testBit k := by
  rw [bitB, Nat.testBit_eq_decide_div_mod_eq, Bool.eq_iff_iff]
  simp
theorem bitB_xor (a b : UInt8) (k : Nat) : bitB (a ^^^ b) k = (bitB a k ^^ bitB b k) := by
  rw [bitB_test, bitB_test, bitB_test, UInt8.toNat_xor, Nat.testBit_xor]
theorem prodk_left (a b c : UInt8) (k : Nat) : prodk (a ^^^ b) c k = prodk a c k ^^^ prodk b c k := by
  induction k with
  | zero => simp [prodk_zero]
  | succ k ih =>
    rw [prodk_step, prodk_step, prodk_step, ih, x_four, bitB_xor]
    congr 1
    rcases Bool.eq_false_or_eq_true (bitB a k) with h | h <;> rcases Bool.eq_false_or_eq_true (bitB b k) with h' | h' <;> simp [h, h']
theorem prod_right (a b c : UInt8) : prod a (b ^^^ c) = prod a b ^^^ prod a c := prodk_right a b c 8
theorem prod_left (a b c : UInt8) : prod (a ^^^ b) c = prod a c ^^^ prod b c := prodk_left a b c 8
theorem prod_nought (a : UInt8) : prod a 0 = 0 := by
  have := prod_right a 0 0
  simpa using this
theorem nought_prod (a : UInt8) : prod 0 a = 0 := by
  have := prod_left 0 0 a
  simpa using this
theorem comm_bits : ((List.range 8).all fun i => (List.range 8).all fun j => prod (bitU i) (bitU j) == prod (bitU j) (bitU i)) = true := by decide +kernel
theorem prod_comm (a b : UInt8) : prod a b = prod b a := by
  revert b
  refine byte_ind (P := fun a => ∀ b, prod a b = prod b a) (fun b => by rw [nought_prod, prod_nought]) (fun i hi b => ?_) (fun a c ha hc b => by rw [prod_left, prod_right, ha, hc]) a
  refine byte_ind (P := fun b => prod (bitU i) b = prod b (bitU i)) (by rw [nought_prod, prod_nought]) (fun j hj => ?_) (fun a c ha hc => by rw [prod_left, prod_right, ha, hc]) b
  have := List.all_eq_true.1 (List.all_eq_true.1 comm_bits i (List.mem_range.2 hi)) j (List.mem_range.2 hj)
  simpa using this
theorem assoc_bits : ((List.range 8).all fun i => (List.range 8).all fun j => (List.range 8).all fun k => prod (bitU i) (prod (bitU j) (bitU k)) == prod (prod (bitU i) (bitU j)) (bitU k)) = true := by decide +kernel
theorem prod_assoc (a b c : UInt8) : prod a (prod b c) = prod (prod a b) c := by
  revert b c
  refine byte_ind (P := fun a => ∀ b c, prod a (prod b c) = prod (prod a b) c) (fun b c => by rw [nought_prod, nought_prod, nought_prod]) (fun i hi b => ?_) (fun a d ha hd b c => by rw [prod_left, prod_left, prod_left, ha, hd]) a
  refine byte_ind (P := fun b => ∀ c, prod (bitU i) (prod b c) = prod (prod (bitU i) b) c) (fun c => by rw [nought_prod, prod_nought, nought_prod]) (fun j hj c => ?_) (fun a d ha hd c => by rw [prod_left, prod_right, prod_right, prod_left, ha, hd]) b
  refine byte_ind (P := fun c => prod (bitU i) (prod (bitU j) c) = prod (prod (bitU i) (bitU j)) c) (by rw [prod_nought, prod_nought, prod_nought]) (fun k hk => ?_) (fun a d ha hd => by rw [prod_right, prod_right, prod_right, ha, hd]) c
  have := List.all_eq_true.1 (List.all_eq_true.1 (List.all_eq_true.1 assoc_bits i (List.mem_range.2 hi)) j (List.mem_range.2 hj)) k (List.mem_range.2 hk)
  simpa using this
theorem prod_one (a : UInt8) : prod a 1 = a := by
  have := all_bytes (p := fun a => prod a 1 == a) (by decide +kernel) a
  simpa using this
/-- The inverses; the substitutes; the bytes that they are of. -/
def ITab : List UInt8 := [0, 1, 141, 246, 203, 82, 123, 209, 232, 79, 41, 192, 176, 225, 229, 199, 116, 180, 170, 75, 153, 43, 96, 95, 88, 63, 253, 204, 255, 64, 238, 178, 58, 110, 90, 241, 85, 77, 168, 201, 193, 10, 152, 21, 48, 68, 162, 194, 44, 69, 146, 108, 243, 57, 102, 66, 242, 53, 32, 111, 119, 187, 89, 25, 29, 254, 55, 103, 45, 49, 245, 105, 167, 100, 171, 19, 84, 37, 233, 9, 237, 92, 5, 202, 76, 36, 135, 191, 24, 62, 34, 240, 81, 236, 97, 23, 22, 94, 175, 211, 73, 166, 54, 67, 244, 71, 145, 223, 51, 147, 33, 59, 121, 183, 151, 133, 16, 181, 186, 60, 182, 112, 208, 6, 161, 250, 129, 130, 131, 126, 127, 128, 150, 115, 190, 86, 155, 158, 149, 217, 247, 2, 185, 164, 222, 106, 50, 109, 216, 138, 132, 114, 42, 20, 159, 136, 249, 220, 137, 154, 251, 124, 46, 195, 143, 184, 101, 72, 38, 200, 18, 74, 206, 231, 210, 98, 12, 224, 31, 239, 17, 117, 120, 113, 165, 142, 118, 61, 189, 188, 134, 87, 11, 40, 47, 163, 218, 212, 228, 15, 169, 39, 83, 4, 27, 252, 172, 230, 122, 7, 174, 99, 197, 219, 226, 234, 148, 139, 196, 213, 157, 248, 144, 107, 177, 13, 214, 235, 198, 14, 207, 173, 8, 78, 215, 227, 93, 80, 30, 179, 91, 35, 56, 52, 104, 70, 3, 140, 221, 156, 125, 160, 205, 26, 65, 28]
def STab : List UInt8 := [99, 124, 119, 123, 242, 107, 111, 197, 48, 1, 103, 43, 254, 215, 171, 118, 202, 130, 201, 125, 250, 89, 71, 240, 173, 212, 162, 175, 156, 164, 114, 192, 183, 253, 147, 38, 54, 63, 247, 204, 52, 165, 229, 241, 113, 216, 49, 21, 4, 199, 35, 195, 24, 150, 5, 154, 7, 18, 128, 226, 235, 39, 178, 117, 9, 131, 44, 26, 27, 110, 90, 160, 82, 59, 214, 179, 41, 227, 47, 132, 83, 209, 0, 237, 32, 252, 177, 91, 106, 203, 190, 57, 74, 76, 88, 207, 208, 239, 170, 251, 67, 77, 51, 133, 69, 249, 2, 127, 80, 60, 159, 168, 81, 163, 64, 143, 146, 157, 56, 245, 188, 182, 218, 33, 16, 255, 243, 210, 205, 12, 19, 236, 95, 151, 68, 23, 196, 167, 126, 61, 100, 93, 25, 115, 96, 129, 79, 220, 34, 42, 144, 136, 70, 238, 184, 20, 222, 94, 11, 219, 224, 50, 58, 10, 73, 6, 36, 92, 194, 211, 172, 98, 145, 149, 228, 121, 231, 200, 55, 109, 141, 213, 78, 169, 108, 86, 244, 234, 101, 122, 174, 8, 186, 120, 37, 46, 28, 166, 180, 198, 232, 221, 116, 31, 75, 189, 139, 138, 112, 62, 181, 102, 72, 3, 246, 14, 97, 53, 87, 185, 134, 193, 29, 158, 225, 248, 152, 17, 105, 217, 142, 148, 155, 30, 135, 233, 206, 85, 40, 223, 140, 161, 137, 13, 191, 230, 66, 104, 65, 153, 45, 15, 176, 84, 187, 22]
def RTab : List UInt8 := [82, 9, 106, 213, 48, 54, 165, 56, 191, 64, 163, 158, 129, 243, 215, 251, 124, 227, 57, 130, 155, 47, 255, 135, 52, 142, 67, 68, 196, 222, 233, 203, 84, 123, 148, 50, 166, 194, 35, 61, 238, 76, 149, 11, 66, 250, 195, 78, 8, 46, 161, 102, 40, 217, 36, 178, 118, 91, 162, 73, 109, 139, 209, 37, 114, 248, 246, 100, 134, 104, 152, 22, 212, 164, 92, 204, 93, 101, 182, 146, 108, 112, 72, 80, 253, 237, 185, 218, 94, 21, 70, 87, 167, 141, 157, 132, 144, 216, 171, 0, 140, 188, 211, 10, 247, 228, 88, 5, 184, 179, 69, 6, 208, 44, 30, 143, 202, 63, 15, 2, 193, 175, 189, 3, 1, 19, 138, 107, 58, 145, 17, 65, 79, 103, 220, 234, 151, 242, 207, 206, 240, 180, 230, 115, 150, 172, 116, 34, 231, 173, 53, 133, 226, 249, 55, 232, 28, 117, 223, 110, 71, 241, 26, 113, 29, 41, 197, 137, 111, 183, 98, 14, 170, 24, 190, 27, 252, 86, 62, 75, 198, 210, 121, 32, 154, 219, 192, 254, 120, 205, 90, 244, 31, 221, 168, 51, 136, 7, 199, 49, 177, 18, 16, 89, 39, 128, 236, 95, 96, 81, 127, 169, 25, 181, 74, 13, 45, 229, 122, 159, 147, 201, 156, 239, 160, 224, 59, 77, 174, 42, 245, 176, 200, 235, 187, 60, 131, 83, 153, 97, 23, 43, 4, 126, 186, 119, 214, 38, 225, 105, 20, 99, 85, 33, 12, 125]
def iT (a : UInt8) : UInt8 := ITab.getD a.toNat 0
def sT (a : UInt8) : UInt8 := STab.getD a.toNat 0
def rT (a : UInt8) : UInt8 := RTab.getD a.toNat 0
theorem iT_prod (a : UInt8) (h : a ≠ 0) : prod a (iT a) = 1 := by
  have := all_bytes (p := fun a => a == 0 || prod a (iT a) == 1) (by decide +kernel) a
  simpa [h] using this
theorem inv_unique (a x y : UInt8) (hx : prod a x = 1) (hy : prod a y = 1) : x = y := by
  have h : prod x (prod a y) = prod (prod a x) y := by rw [prod_assoc, prod_comm x a]
  rw [hx, hy, prod_one, prod_comm 1 y, prod_one] at h
  exact h
theorem invs_spec (a : UInt8) (k : Nat) : (∃ x, prod a x = 1 ∧ invs a k = x) ∨ (invs a k = 0 ∧ ∀ x : Nat, 256 - k ≤ x → x ≤ 255 → prod a (UInt8.ofNat x) ≠ 1) := by
  induction k with
  | zero => exact .inr ⟨invs_zero a, fun x h1 h2 => by omega⟩
  | succ k ih =>
    by_cases hp : prod a (UInt8.ofNat (255 - k)) = 1
    · refine .inl ⟨_, hp, ?_⟩
      rw [invs, if_pos hp]
    · rw [invs, if_neg hp]
      rcases ih with h | ⟨h1, h2⟩
      · exact .inl h
      · refine .inr ⟨h1, fun x hx hx2 => ?_⟩
        rcases Nat.lt_or_ge x (256 - k) with hl | hl
        · rwa [show x = 255 - k by omega]
        · exact h2 x hl hx2
theorem inv_zero : inv 0 = 0 := by
  rcases invs_spec 0 255 with ⟨x, hx, _⟩ | ⟨h, _⟩
  · rw [nought_prod] at hx
    exact absurd hx (by decide)
  · exact h
theorem inv_prod (a : UInt8) (h : a ≠ 0) : prod a (inv a) = 1 := by
  rcases invs_spec a 255 with ⟨x, hx, he⟩ | ⟨_, h2⟩
  · rw [inv, he]; exact hx
  · have h0 : iT a ≠ 0 := by
      intro e
      have := iT_prod a h
      rw [e, prod_nought] at this
      exact absurd this (by decide)
    refine absurd (iT_prod a h) ?_
    have := h2 (iT a).toNat (by
      have : (iT a).toNat ≠ 0 := fun e => h0 (UInt8.toNat_inj.1 e)
      omega) (by have := (iT a).toNat_lt; omega)
    rwa [UInt8.ofNat_toNat] at this
theorem inv_iT (a : UInt8) : inv a = iT a := by
  by_cases h : a = 0
  · subst h
    rw [inv_zero]
    decide +kernel
  · exact inv_unique a _ _ (inv_prod a h) (iT_prod a h)
theorem inv_inv (a : UInt8) : inv (inv a) = a := by
  rw [inv_iT, inv_iT]
  have := all_bytes (p := fun a => iT (iT a) == a) (by decide +kernel) a
  simpa using this
theorem sub_sT (a : UInt8) : sub a = sT a := by
  rw [sub, inv_iT]
  have := all_bytes (p := fun a => subk (iT a) 4 == sT a) (by decide +kernel) a
  simpa using this
theorem rT_sT (a : UInt8) : rT (sT a) = a := by
  have := all_bytes (p := fun a => rT (sT a) == a) (by decide +kernel) a
  simpa using this
theorem sT_rT (a : UInt8) : sT (rT a) = a := by
  have := all_bytes (p := fun a => sT (rT a) == a) (by decide +kernel) a
  simpa using this
theorem sub_inj (a b : UInt8) (h : sub a = sub b) : a = b := by
  rw [sub_sT, sub_sT] at h
  have := congrArg rT h
  rwa [rT_sT, rT_sT] at this
end Go.Proofs.YthkbmpocfpbkoaaDoor

namespace Go.Proofs.YthkbmpocfpbkoaaDoor
open Go.RowKit

/-- The first j bytes filled by f. -/
def upd (b : List UInt8) (f : Nat → UInt8) (j : Nat) : List UInt8 := (List.range j).map f ++ b.drop j
def mk16 (f : Nat → UInt8) : List UInt8 := (List.range 16).map f
theorem mk16_length (f : Nat → UInt8) : (mk16 f).length = 16 := by simp [mk16]
theorem mk16_get (f : Nat → UInt8) (i : Nat) (h : i < 16) : (mk16 f).getD i 0 = f i := by simp [mk16, h]
theorem mk16_self (b : List UInt8) (h : b.length = 16) : mk16 (fun i => b.getD i 0) = b := by
  refine List.ext_getElem (by rw [mk16_length, h]) fun i h1 h2 => ?_
  simp [mk16, h2]
theorem mk16_congr {f g : Nat → UInt8} (h : ∀ i, i < 16 → f i = g i) : mk16 f = mk16 g := List.map_congr_left fun i hi => h i (List.mem_range.1 hi)
theorem upd_zero (b : List UInt8) (f : Nat → UInt8) : upd b f 0 = b := by simp [upd]
theorem upd_length (b : List UInt8) (f : Nat → UInt8) (j : Nat) (h : j ≤ b.length) : (upd b f j).length = b.length := by simp [upd]; omega
theorem upd_all (b : List UInt8) (f : Nat → UInt8) (h : b.length = 16) : upd b f 16 = mk16 f := by simp [upd, mk16, ← h]
theorem upd_get (b : List UInt8) (f : Nat → UInt8) (j i : Nat) (h : j ≤ i) (_ : i < b.length) : (upd b f j).getD i 0 = b.getD i 0 := by
  unfold upd
  rw [List.getD_eq_getElem?_getD, List.getD_eq_getElem?_getD, List.getElem?_append_right (by simp; omega)]
  simp
  congr 2
  omega
theorem upd_succ (b : List UInt8) (f : Nat → UInt8) (j : Nat) (h : j < b.length) : upd b f (j + 1) = (upd b f j).set j (f j) := by
  have hl : ((List.range j).map f).length = j := by simp
  unfold upd
  rw [List.set_append_right _ _ (by omega), hl, Nat.sub_self, List.drop_eq_getElem_cons h, List.set_cons_zero, List.range_succ, List.map_append, List.append_assoc]
  rfl
attribute [irreducible] upd mk16
theorem noughts16 : #[Value.int .u8 0, .int .u8 0, .int .u8 0, .int .u8 0, .int .u8 0, .int .u8 0, .int .u8 0, .int .u8 0, .int .u8 0, .int .u8 0, .int .u8 0, .int .u8 0, .int .u8 0, .int .u8 0, .int .u8 0, .int .u8 0] = (ubs n16).toArray := rfl
section
variable {w : World} {g : Nat} {t : TypeId}
end
section
variable {P : Program} {ops : Array Oper} {Q : Exit → Act → World → Prop} {md : Region.Mode} {S : World → Prop} {z : Nat}
end
/-- A block with round key n added. -/
def addF (b keys : List UInt8) (n i : Nat) : UInt8 := b.getD i 0 ^^^ keys.getD (16 * n + i) 0
def addL (b keys : List UInt8) (n : Nat) : List UInt8 := mk16 (addF b keys n)
end Go.Proofs.YthkbmpocfpbkoaaDoor

namespace Go.Proofs.YthkbmpocfpbkoaaDoor
open Go.RowKit

/-- XOR that the walk does not open. -/
def xr (a b : UInt8) : UInt8 := a ^^^ b
theorem xr_eq (a b : UInt8) : xr a b = a ^^^ b := rfl
theorem b_xr (t : TypeId) (a b : UInt8) : binOp .xor t (.int .u8 (a.toNat : Int)) (.int .u8 (b.toNat : Int)) = pure (.int .u8 ((xr a b).toNat : Int)) := b_xor t a b
attribute [irreducible] xr
/-- Bytes substituted and moved; columns mixed; a round; all rounds. -/
def shF (b : List UInt8) (i : Nat) : UInt8 := sT (b.getD (4 * ((i / 4 + i % 4) % 4) + i % 4) 0)
def mix0 (p q u v : UInt8) : UInt8 := xr (xr (xr (xr (dbl p) (dbl q)) q) u) v
def mix1 (p q u v : UInt8) : UInt8 := xr (xr (xr (xr p (dbl q)) (dbl u)) u) v
def mix2 (p q u v : UInt8) : UInt8 := xr (xr (xr (xr p q) (dbl u)) (dbl v)) v
def mix3 (p q u v : UInt8) : UInt8 := xr (xr (xr (xr (dbl p) p) q) u) (dbl v)
def mixF (s : List UInt8) (i : Nat) : UInt8 :=
  (if i % 4 = 0 then mix0 else if i % 4 = 1 then mix1 else if i % 4 = 2 then mix2 else mix3) (s.getD (4 * (i / 4)) 0) (s.getD (4 * (i / 4) + 1) 0) (s.getD (4 * (i / 4) + 2) 0) (s.getD (4 * (i / 4) + 3) 0)
theorem mixF_at (s : List UInt8) (c : Nat) : mixF s (4 * c) = mix0 (s.getD (4 * c) 0) (s.getD (4 * c + 1) 0) (s.getD (4 * c + 2) 0) (s.getD (4 * c + 3) 0)
    ∧ mixF s (4 * c + 1) = mix1 (s.getD (4 * c) 0) (s.getD (4 * c + 1) 0) (s.getD (4 * c + 2) 0) (s.getD (4 * c + 3) 0)
    ∧ mixF s (4 * c + 2) = mix2 (s.getD (4 * c) 0) (s.getD (4 * c + 1) 0) (s.getD (4 * c + 2) 0) (s.getD (4 * c + 3) 0)
    ∧ mixF s (4 * c + 3) = mix3 (s.getD (4 * c) 0) (s.getD (4 * c + 1) 0) (s.getD (4 * c + 2) 0) (s.getD (4 * c + 3) 0) := by
  unfold mixF
  rw [show 4 * c % 4 = 0 by omega, show (4 * c + 1) % 4 = 1 by omega, show (4 * c + 2) % 4 = 2 by omega, show (4 * c + 3) % 4 = 3 by omega, show 4 * c / 4 = c by omega, show (4 * c + 1) / 4 = c by omega, show (4 * c + 2) / 4 = c by omega, show (4 * c + 3) / 4 = c by omega]
  exact ⟨rfl, rfl, rfl, rfl⟩
def shL (b : List UInt8) : List UInt8 := mk16 (shF b)
def mixL (s : List UInt8) : List UInt8 := mk16 (mixF s)
def roundL (keys : List UInt8) (n : Nat) (b : List UInt8) : List UInt8 := addL (if n < 10 then mixL (shL b) else shL b) keys n
def encK (keys b : List UInt8) : Nat → List UInt8
  | 0 => addL b keys 0
  | k + 1 => roundL keys (k + 1) (encK keys b k)
def encL (keys b : List UInt8) : List UInt8 := encK keys b 10
theorem encK_zero (keys b : List UInt8) : encK keys b 0 = addL b keys 0 := rfl
theorem encK_succ (keys b : List UInt8) (k : Nat) : encK keys b (k + 1) = roundL keys (k + 1) (encK keys b k) := rfl
theorem encL_eq (keys b : List UInt8) : encK keys b 10 = encL keys b := rfl
theorem addL_length (b keys : List UInt8) (n : Nat) : (addL b keys n).length = 16 := mk16_length _
theorem shL_length (b : List UInt8) : (shL b).length = 16 := mk16_length _
theorem mixL_length (b : List UInt8) : (mixL b).length = 16 := mk16_length _
theorem encK_length (keys b : List UInt8) (k : Nat) : (encK keys b k).length = 16 := by
  cases k with
  | zero => exact addL_length _ _ _
  | succ k => rw [encK_succ]; exact addL_length _ _ _
attribute [irreducible] encK
/-- The table of substitutes, read by a byte. -/
theorem sT_some (x : UInt8) : (⟨STab.toArray⟩ : ByteArray)[x.toNat]? = some (sT x) := by
  have h := all_bytes (p := fun x => (⟨STab.toArray⟩ : ByteArray)[x.toNat]? == some (sT x)) (by decide +kernel) x
  simpa using h
theorem run_sT {o : Oper} {a : Go.Act} {W : World} (s : ByteArray) (c : Operand) (ho : o.op = .index 9 (.const (.string s)) c) (hs : s = ⟨STab.toArray⟩) (x : UInt8) (hx : a.eval c = .int .u8 (x.toNat : Int)) :
    (execOp a.eval o).run Tryd.prog W = .ok (.value (.int .u8 ((sT x).toNat : Int))) W := by
  unfold execOp
  have e1 : a.eval (.const (.string s)) = .string s := rfl
  simp only [ho, hx, e1]
  subst hs
  have h := sT_some x
  simp [Instr.index, asIntOf, run_underlying Tryd.underlying9, h]
end Go.Proofs.YthkbmpocfpbkoaaDoor

namespace Go.Proofs.YthkbmpocfpbkoaaDoor
open Go.RowKit

/-- The bytes that word i is made with; word i; the round keys, n words of them made, and the factor. -/
def kt (ws : List UInt8) (i : Nat) (f : UInt8) : List UInt8 :=
  if i % 4 = 0 then [xr (sT (ws.getD (4 * i - 3) 0)) f, sT (ws.getD (4 * i - 2) 0), sT (ws.getD (4 * i - 1) 0), sT (ws.getD (4 * i - 4) 0)]
  else [ws.getD (4 * i - 4) 0, ws.getD (4 * i - 3) 0, ws.getD (4 * i - 2) 0, ws.getD (4 * i - 1) 0]
def kb (ws : List UInt8) (i : Nat) (f : UInt8) (j : Nat) : UInt8 := xr (ws.getD (4 * i - 16 + j) 0) ((kt ws i f).getD j 0)
def kw (ws : List UInt8) (i : Nat) (f : UInt8) (j : Nat) : List UInt8 := ws ++ (List.range j).map (kb ws i f)
def kf (i : Nat) (f : UInt8) : UInt8 := if i % 4 = 0 then dbl f else f
def ks (key : List UInt8) : Nat → List UInt8 × UInt8
  | 0 => (key, 1)
  | n + 1 => (kw (ks key n).1 (n + 4) (ks key n).2 4, kf (n + 4) (ks key n).2)
def keysL (key : List UInt8) : List UInt8 := (ks key 40).1
theorem ks_zero (key : List UInt8) : ks key 0 = (key, 1) := rfl
theorem ks_succ (key : List UInt8) (n : Nat) : ks key (n + 1) = (kw (ks key n).1 (n + 4) (ks key n).2 4, kf (n + 4) (ks key n).2) := rfl
theorem kw_zero (ws : List UInt8) (i : Nat) (f : UInt8) : kw ws i f 0 = ws := by simp [kw]
theorem kw_succ (ws : List UInt8) (i : Nat) (f : UInt8) (j : Nat) : kw ws i f (j + 1) = kw ws i f j ++ [kb ws i f j] := by simp [kw, List.range_succ]
theorem kw_length (ws : List UInt8) (i : Nat) (f : UInt8) (j : Nat) : (kw ws i f j).length = ws.length + j := by simp [kw]
theorem kw_get (ws : List UInt8) (i : Nat) (f : UInt8) (j k : Nat) (h : k < ws.length) : (kw ws i f j).getD k 0 = ws.getD k 0 := by
  unfold kw
  rw [List.getD_eq_getElem?_getD, List.getD_eq_getElem?_getD, List.getElem?_append_left h]
theorem kt_length (ws : List UInt8) (i : Nat) (f : UInt8) : (kt ws i f).length = 4 := by unfold kt; split <;> rfl
theorem kt_yes (ws : List UInt8) (i : Nat) (f : UInt8) (h : i % 4 = 0) : kt ws i f = [xr (sT (ws.getD (4 * i - 3) 0)) f, sT (ws.getD (4 * i - 2) 0), sT (ws.getD (4 * i - 1) 0), sT (ws.getD (4 * i - 4) 0)] := by rw [kt, if_pos h]
theorem kt_no (ws : List UInt8) (i : Nat) (f : UInt8) (h : ¬ i % 4 = 0) : kt ws i f = [ws.getD (4 * i - 4) 0, ws.getD (4 * i - 3) 0, ws.getD (4 * i - 2) 0, ws.getD (4 * i - 1) 0] := by rw [kt, if_neg h]
theorem ks_length (key : List UInt8) (h : key.length = 16) (n : Nat) : (ks key n).1.length = 16 + 4 * n := by
  induction n with
  | zero => exact h
  | succ n ih => rw [ks_succ, kw_length, ih]; omega
attribute [irreducible] ks kw kb kt
theorem lit4 (w : World) (a b c d : UInt8) : At (w.alloc (.cells #[.int .u8 (a.toNat : Int), .int .u8 (b.toNat : Int), .int .u8 (c.toNat : Int), .int .u8 (d.toNat : Int)] 5)) w.heap.size (ubs [a, b, c, d]).toArray 5 := At.new w _ _
/-- While a word is made: the keys so far, the bytes that it is made with. -/
structure KyW (w : World) (m : Nat) (ws : List UInt8) (v : Value) (ts : List UInt8) (T : Nat) (W : World) : Prop where
  o : Own1 w m ws v W
  t : At W T (ubs ts).toArray 5
  ne : v.ownBlock ≠ some T
theorem KyW.start {w W W2 : World} {m : Nat} {ws ts : List UInt8} {v : Value} (h : Own1 w m ws v W) (hb : Below W.heap.size W W2) (T : Nat) (hT : W.heap.size ≤ T) (ht : At W2 T (ubs ts).toArray 5) : KyW w m ws v ts T W2 :=
  ⟨⟨h.len, own_fr h.own (Fr.of_new (S := fun _ => False) hb) (fun _ _ h => h), h.below.trans (hb.mono h.below.size)⟩, ht, fun e => by have := (World.ownsRow.lt h.own T e).2; omega⟩
theorem KyW.next {w W W2 : World} {m : Nat} {ws ts : List UInt8} {v v2 : Value} {T : Nat} {b : UInt8} {o : Obj} (h : KyW w m ws v ts T W) (h2 : W2.ownsRow w.heap.size 5 1 v2 (m + 1) (ubs ws ++ ubs [b])) (hg : (W.alloc o).grownBy W2 v.ownBlock)
    (hb : v2.ownBlock = v.ownBlock ∨ v2.ownBlock = some (W.alloc o).heap.size) : KyW w (m + 1) (ws ++ [b]) v2 ts T W2 :=
  ⟨h.o.next h2 hg, (hg.block T (by have := h.t.lt; simp; omega) (fun e => h.ne e.symm)).trans (h.t.alloc o), fun e => by
    rcases hb with hb | hb
    · exact h.ne (hb ▸ e)
    · rw [hb] at e
      have := h.t.lt
      simp at e
      omega⟩
theorem KyW.drew {w W : World} {m : Nat} {ws ts : List UInt8} {v : Value} {T : Nat} (h : KyW w m ws v ts T W) (n : Nat) : KyW w m ws v ts T (W.drewN n) := ⟨⟨h.o.len, h.o.own, below_drewN h.o.below n⟩, h.t, h.ne⟩
end Go.Proofs.YthkbmpocfpbkoaaDoor

namespace Go.Proofs.YthkbmpocfpbkoaaDoor
open Go.RowKit

/-- A row of a matrix times a column. -/
def mixP (a b c d p q u v : UInt8) : UInt8 := prod a p ^^^ prod b q ^^^ prod c u ^^^ prod d v
theorem one_prod (a : UInt8) : prod 1 a = a := by rw [prod_comm, prod_one]
theorem dbl_prod (a : UInt8) : dbl a = prod 2 a := by
  have := all_bytes (p := fun a => dbl a == prod 2 a) (by decide +kernel) a
  simpa using this
theorem three_prod (a : UInt8) : prod 3 a = dbl a ^^^ a := by
  rw [show (3 : UInt8) = 2 ^^^ 1 by decide, prod_left, ← dbl_prod, one_prod]
theorem mix0_eq (p q u v : UInt8) : mix0 p q u v = mixP 2 3 1 1 p q u v := by
  unfold mix0 mixP
  rw [three_prod, ← dbl_prod, one_prod, one_prod]
  simp only [xr_eq, UInt8.xor_assoc]
theorem mix1_eq (p q u v : UInt8) : mix1 p q u v = mixP 1 2 3 1 p q u v := by
  unfold mix1 mixP
  rw [three_prod, ← dbl_prod, one_prod, one_prod]
  simp only [xr_eq, UInt8.xor_assoc]
theorem mix2_eq (p q u v : UInt8) : mix2 p q u v = mixP 1 1 2 3 p q u v := by
  unfold mix2 mixP
  rw [three_prod, ← dbl_prod, one_prod, one_prod]
  simp only [xr_eq, UInt8.xor_assoc]
theorem mix3_eq (p q u v : UInt8) : mix3 p q u v = mixP 3 1 1 2 p q u v := by
  unfold mix3 mixP
  rw [three_prod, ← dbl_prod, one_prod, one_prod]
  simp only [xr_eq, UInt8.xor_assoc]
theorem mixP_comp (a b c d a0 b0 c0 d0 a1 b1 c1 d1 a2 b2 c2 d2 a3 b3 c3 d3 p q u v : UInt8) :
    mixP a b c d (mixP a0 b0 c0 d0 p q u v) (mixP a1 b1 c1 d1 p q u v) (mixP a2 b2 c2 d2 p q u v) (mixP a3 b3 c3 d3 p q u v) =
      mixP (mixP a b c d a0 a1 a2 a3) (mixP a b c d b0 b1 b2 b3) (mixP a b c d c0 c1 c2 c3) (mixP a b c d d0 d1 d2 d3) p q u v := by
  unfold mixP
  simp only [prod_right, prod_left, prod_assoc]
  ac_rfl
theorem mixP_first (p q u v : UInt8) : mixP 1 0 0 0 p q u v = p := by unfold mixP; rw [one_prod, nought_prod, nought_prod, nought_prod]; simp
theorem mixP_second (p q u v : UInt8) : mixP 0 1 0 0 p q u v = q := by unfold mixP; rw [one_prod, nought_prod, nought_prod, nought_prod]; simp
theorem mixP_third (p q u v : UInt8) : mixP 0 0 1 0 p q u v = u := by unfold mixP; rw [one_prod, nought_prod, nought_prod, nought_prod]; simp
theorem mixP_fourth (p q u v : UInt8) : mixP 0 0 0 1 p q u v = v := by unfold mixP; rw [one_prod, nought_prod, nought_prod, nought_prod]; simp
/-- The inverse rows. -/
def imix0 (p q u v : UInt8) : UInt8 := mixP 14 11 13 9 p q u v
def imix1 (p q u v : UInt8) : UInt8 := mixP 9 14 11 13 p q u v
def imix2 (p q u v : UInt8) : UInt8 := mixP 13 9 14 11 p q u v
def imix3 (p q u v : UInt8) : UInt8 := mixP 11 13 9 14 p q u v
def imixF (s : List UInt8) (i : Nat) : UInt8 :=
  (if i % 4 = 0 then imix0 else if i % 4 = 1 then imix1 else if i % 4 = 2 then imix2 else imix3) (s.getD (4 * (i / 4)) 0) (s.getD (4 * (i / 4) + 1) 0) (s.getD (4 * (i / 4) + 2) 0) (s.getD (4 * (i / 4) + 3) 0)
def imixL (s : List UInt8) : List UInt8 := mk16 (imixF s)
theorem imixF_at (s : List UInt8) (c : Nat) : imixF s (4 * c) = imix0 (s.getD (4 * c) 0) (s.getD (4 * c + 1) 0) (s.getD (4 * c + 2) 0) (s.getD (4 * c + 3) 0)
    ∧ imixF s (4 * c + 1) = imix1 (s.getD (4 * c) 0) (s.getD (4 * c + 1) 0) (s.getD (4 * c + 2) 0) (s.getD (4 * c + 3) 0)
    ∧ imixF s (4 * c + 2) = imix2 (s.getD (4 * c) 0) (s.getD (4 * c + 1) 0) (s.getD (4 * c + 2) 0) (s.getD (4 * c + 3) 0)
    ∧ imixF s (4 * c + 3) = imix3 (s.getD (4 * c) 0) (s.getD (4 * c + 1) 0) (s.getD (4 * c + 2) 0) (s.getD (4 * c + 3) 0) := by
  unfold imixF
  rw [show 4 * c % 4 = 0 by omega, show (4 * c + 1) % 4 = 1 by omega, show (4 * c + 2) % 4 = 2 by omega, show (4 * c + 3) % 4 = 3 by omega, show 4 * c / 4 = c by omega, show (4 * c + 1) / 4 = c by omega, show (4 * c + 2) / 4 = c by omega, show (4 * c + 3) / 4 = c by omega]
  exact ⟨rfl, rfl, rfl, rfl⟩
/-- Columns one by one. -/
theorem mk16_cols {f : Nat → UInt8} {s : List UInt8} (h : s.length = 16) (hc : ∀ c, c < 4 → f (4 * c) = s.getD (4 * c) 0 ∧ f (4 * c + 1) = s.getD (4 * c + 1) 0 ∧ f (4 * c + 2) = s.getD (4 * c + 2) 0 ∧ f (4 * c + 3) = s.getD (4 * c + 3) 0) : mk16 f = s := by
  rw [← mk16_self s h]
  refine mk16_congr fun i hi => ?_
  obtain ⟨h0, h1, h2, h3⟩ := hc (i / 4) (by omega)
  rcases (by omega : i % 4 = 0 ∨ i % 4 = 1 ∨ i % 4 = 2 ∨ i % 4 = 3) with e | e | e | e
  · rwa [show 4 * (i / 4) = i by omega] at h0
  · rwa [show 4 * (i / 4) + 1 = i by omega] at h1
  · rwa [show 4 * (i / 4) + 2 = i by omega] at h2
  · rwa [show 4 * (i / 4) + 3 = i by omega] at h3
theorem imix_mix (s : List UInt8) (h : s.length = 16) : imixL (mixL s) = s := by
  refine mk16_cols h fun c hc => ?_
  obtain ⟨h0, h1, h2, h3⟩ := imixF_at (mixL s) c
  obtain ⟨m0, m1, m2, m3⟩ := mixF_at s c
  unfold mixL at h0 h1 h2 h3 ⊢
  rw [mk16_get _ _ (by omega), mk16_get _ _ (by omega), mk16_get _ _ (by omega), mk16_get _ _ (by omega), m0, m1, m2, m3, mix0_eq, mix1_eq, mix2_eq, mix3_eq] at h0 h1 h2 h3
  rw [h0, h1, h2, h3]
  unfold imix0 imix1 imix2 imix3
  refine ⟨?_, ?_, ?_, ?_⟩ <;> rw [mixP_comp]
  · exact (congrArg (fun t : UInt8 × UInt8 × UInt8 × UInt8 => mixP t.1 t.2.1 t.2.2.1 t.2.2.2 _ _ _ _) (show (_, _, _, _) = ((1 : UInt8), (0 : UInt8), (0 : UInt8), (0 : UInt8)) by decide +kernel)).trans (mixP_first _ _ _ _)
  · exact (congrArg (fun t : UInt8 × UInt8 × UInt8 × UInt8 => mixP t.1 t.2.1 t.2.2.1 t.2.2.2 _ _ _ _) (show (_, _, _, _) = ((0 : UInt8), (1 : UInt8), (0 : UInt8), (0 : UInt8)) by decide +kernel)).trans (mixP_second _ _ _ _)
  · exact (congrArg (fun t : UInt8 × UInt8 × UInt8 × UInt8 => mixP t.1 t.2.1 t.2.2.1 t.2.2.2 _ _ _ _) (show (_, _, _, _) = ((0 : UInt8), (0 : UInt8), (1 : UInt8), (0 : UInt8)) by decide +kernel)).trans (mixP_third _ _ _ _)
  · exact (congrArg (fun t : UInt8 × UInt8 × UInt8 × UInt8 => mixP t.1 t.2.1 t.2.2.1 t.2.2.2 _ _ _ _) (show (_, _, _, _) = ((0 : UInt8), (0 : UInt8), (0 : UInt8), (1 : UInt8)) by decide +kernel)).trans (mixP_fourth _ _ _ _)
theorem mix_imix (s : List UInt8) (h : s.length = 16) : mixL (imixL s) = s := by
  refine mk16_cols h fun c hc => ?_
  obtain ⟨h0, h1, h2, h3⟩ := mixF_at (imixL s) c
  obtain ⟨m0, m1, m2, m3⟩ := imixF_at s c
  unfold imixL at h0 h1 h2 h3 ⊢
  rw [mk16_get _ _ (by omega), mk16_get _ _ (by omega), mk16_get _ _ (by omega), mk16_get _ _ (by omega), m0, m1, m2, m3] at h0 h1 h2 h3
  rw [h0, h1, h2, h3, mix0_eq, mix1_eq, mix2_eq, mix3_eq]
  unfold imix0 imix1 imix2 imix3
  refine ⟨?_, ?_, ?_, ?_⟩ <;> rw [mixP_comp]
  · exact (congrArg (fun t : UInt8 × UInt8 × UInt8 × UInt8 => mixP t.1 t.2.1 t.2.2.1 t.2.2.2 _ _ _ _) (show (_, _, _, _) = ((1 : UInt8), (0 : UInt8), (0 : UInt8), (0 : UInt8)) by decide +kernel)).trans (mixP_first _ _ _ _)
  · exact (congrArg (fun t : UInt8 × UInt8 × UInt8 × UInt8 => mixP t.1 t.2.1 t.2.2.1 t.2.2.2 _ _ _ _) (show (_, _, _, _) = ((0 : UInt8), (1 : UInt8), (0 : UInt8), (0 : UInt8)) by decide +kernel)).trans (mixP_second _ _ _ _)
  · exact (congrArg (fun t : UInt8 × UInt8 × UInt8 × UInt8 => mixP t.1 t.2.1 t.2.2.1 t.2.2.2 _ _ _ _) (show (_, _, _, _) = ((0 : UInt8), (0 : UInt8), (1 : UInt8), (0 : UInt8)) by decide +kernel)).trans (mixP_third _ _ _ _)
  · exact (congrArg (fun t : UInt8 × UInt8 × UInt8 × UInt8 => mixP t.1 t.2.1 t.2.2.1 t.2.2.2 _ _ _ _) (show (_, _, _, _) = ((0 : UInt8), (0 : UInt8), (0 : UInt8), (1 : UInt8)) by decide +kernel)).trans (mixP_fourth _ _ _ _)
/-- Bytes moved back, and what they are the substitutes of. -/
def ishF (b : List UInt8) (i : Nat) : UInt8 := rT (b.getD (4 * ((i / 4 + 4 - i % 4) % 4) + i % 4) 0)
def ishL (b : List UInt8) : List UInt8 := mk16 (ishF b)
theorem ish_sh (b : List UInt8) (h : b.length = 16) : ishL (shL b) = b := by
  rw [← mk16_self b h]
  refine mk16_congr fun i hi => ?_
  unfold ishF shL
  rw [mk16_self b h, mk16_get _ _ (by omega)]
  unfold shF
  rw [rT_sT]
  congr 1
  omega
theorem sh_ish (b : List UInt8) (h : b.length = 16) : shL (ishL b) = b := by
  rw [← mk16_self b h]
  refine mk16_congr fun i hi => ?_
  unfold shF ishL
  rw [mk16_self b h, mk16_get _ _ (by omega)]
  unfold ishF
  rw [sT_rT]
  congr 1
  omega
theorem add_add (b keys : List UInt8) (n : Nat) (h : b.length = 16) : addL (addL b keys n) keys n = b := by
  unfold addL
  rw [← mk16_self b h]
  refine mk16_congr fun i hi => ?_
  unfold addF
  rw [mk16_get _ _ hi, mk16_get _ _ hi, UInt8.xor_assoc, UInt8.xor_self]
  simp
theorem imixL_length (b : List UInt8) : (imixL b).length = 16 := mk16_length _
theorem ishL_length (b : List UInt8) : (ishL b).length = 16 := mk16_length _
/-- A round backwards; all rounds backwards. -/
def iroundL (keys : List UInt8) (n : Nat) (x : List UInt8) : List UInt8 := ishL (if n < 10 then imixL (addL x keys n) else addL x keys n)
theorem iroundL_length (keys : List UInt8) (n : Nat) (x : List UInt8) : (iroundL keys n x).length = 16 := mk16_length _
theorem iround_round (keys : List UInt8) (n : Nat) (b : List UInt8) (h : b.length = 16) : iroundL keys n (roundL keys n b) = b := by
  unfold iroundL roundL
  by_cases hn : n < 10
  · rw [if_pos hn, if_pos hn, add_add _ _ _ (mixL_length _), imix_mix _ (shL_length _), ish_sh b h]
  · rw [if_neg hn, if_neg hn, add_add _ _ _ (shL_length _), ish_sh b h]
theorem round_iround (keys : List UInt8) (n : Nat) (x : List UInt8) (h : x.length = 16) : roundL keys n (iroundL keys n x) = x := by
  unfold iroundL roundL
  by_cases hn : n < 10
  · rw [if_pos hn, if_pos hn, sh_ish _ (imixL_length _), mix_imix _ (addL_length _ _ _), add_add x keys n h]
  · rw [if_neg hn, if_neg hn, sh_ish _ (addL_length _ _ _), add_add x keys n h]
def decK (keys x : List UInt8) : Nat → List UInt8
  | 0 => x
  | k + 1 => iroundL keys (10 - k) (decK keys x k)
def decL (keys x : List UInt8) : List UInt8 := addL (decK keys x 10) keys 0
theorem decK_zero (keys x : List UInt8) : decK keys x 0 = x := rfl
theorem decK_succ (keys x : List UInt8) (k : Nat) : decK keys x (k + 1) = iroundL keys (10 - k) (decK keys x k) := rfl
theorem decK_length (keys x : List UInt8) (h : x.length = 16) (k : Nat) : (decK keys x k).length = 16 := by
  cases k with
  | zero => exact h
  | succ k => exact iroundL_length _ _ _
theorem decL_length (keys x : List UInt8) : (decL keys x).length = 16 := addL_length _ _ _
theorem dec_enc (keys b : List UInt8) (h : b.length = 16) : decL keys (encL keys b) = b := by
  have : ∀ k, k ≤ 10 → decK keys (encL keys b) k = encK keys b (10 - k) := by
    intro k
    induction k with
    | zero => exact fun _ => rfl
    | succ k ih =>
      intro hk
      rw [decK_succ, ih (by omega), show 10 - k = (10 - (k + 1)) + 1 by omega, encK_succ, iround_round _ _ _ (encK_length _ _ _)]
  rw [decL, this 10 (Nat.le_refl _), Nat.sub_self, encK_zero, add_add _ _ _ h]
theorem enc_dec (keys x : List UInt8) (h : x.length = 16) : encL keys (decL keys x) = x := by
  have : ∀ k, k ≤ 10 → encK keys (decL keys x) k = decK keys x (10 - k) := by
    intro k
    induction k with
    | zero =>
      intro _
      rw [encK_zero, decL, add_add _ _ _ (decK_length _ _ h _)]
    | succ k ih =>
      intro hk
      rw [encK_succ, ih (by omega), show 10 - k = (10 - (k + 1)) + 1 by omega, decK_succ, show 10 - (10 - (k + 1)) = k + 1 by omega, round_iround _ _ _ (decK_length _ _ h _)]
  rw [← encL_eq, this 10 (Nat.le_refl _), Nat.sub_self, decK_zero]
end Go.Proofs.YthkbmpocfpbkoaaDoor

namespace Go.Proofs.YthkbmpocfpbkoaaDoor
open Go.RowKit

/-- The counter behind c by n. -/
def nextL (c : List UInt8) (n : Nat) : List UInt8 := toBE 16 (beN c + n)
theorem nextL_length (c : List UInt8) (n : Nat) : (nextL c n).length = 16 := toBE_length _ _
/-- The bytes written back, j of each half. -/
def nxk (c : List UInt8) (H S : Nat) : Nat → List UInt8
  | 0 => c
  | j + 1 => ((nxk c H S j).set (7 - j) (UInt8.ofNat (H / 256 ^ j))).set (15 - j) (UInt8.ofNat (S / 256 ^ j))
theorem nxk_zero (c : List UInt8) (H S : Nat) : nxk c H S 0 = c := rfl
theorem nxk_succ (c : List UInt8) (H S j : Nat) : nxk c H S (j + 1) = ((nxk c H S j).set (7 - j) (UInt8.ofNat (H / 256 ^ j))).set (15 - j) (UInt8.ofNat (S / 256 ^ j)) := rfl
theorem nxk_length (c : List UInt8) (H S j : Nat) : (nxk c H S j).length = c.length := by
  induction j with
  | zero => rfl
  | succ j ih => rw [nxk_succ, List.length_set, List.length_set, ih]
theorem nxk_get (c : List UInt8) (hc : c.length = 16) (H S j : Nat) (hj : j ≤ 8) (i : Nat) :
    (nxk c H S j).getD i 0 = if 7 - i < j ∧ i < 8 then UInt8.ofNat (H / 256 ^ (7 - i)) else if 15 - i < j ∧ 8 ≤ i ∧ i < 16 then UInt8.ofNat (S / 256 ^ (15 - i)) else c.getD i 0 := by
  induction j with
  | zero => rw [nxk_zero, if_neg (by omega), if_neg (by omega)]
  | succ j ih =>
    rw [nxk_succ, set_getD _ _ _ _ (by rw [List.length_set, nxk_length, hc]; omega), set_getD _ _ _ _ (by rw [nxk_length, hc]; omega), ih (by omega)]
    by_cases h1 : 15 - j = i
    · rw [if_pos h1, if_neg (show ¬ (7 - i < j + 1 ∧ i < 8) by omega), if_pos (by omega), show 15 - i = j by omega]
    · rw [if_neg h1]
      by_cases h2 : 7 - j = i
      · rw [if_pos h2, if_pos (by omega), show 7 - i = j by omega]
      · rw [if_neg h2]
        by_cases h3 : 7 - i < j ∧ i < 8
        · rw [if_pos h3, if_pos (by omega)]
        · rw [if_neg h3]
          by_cases h4 : 15 - i < j ∧ 8 ≤ i ∧ i < 16
          · rw [if_pos h4, if_neg (show ¬ (7 - i < j + 1 ∧ i < 8) by omega), if_pos (by omega)]
          · rw [if_neg h4, if_neg (show ¬ (7 - i < j + 1 ∧ i < 8) by omega), if_neg (by omega)]
/-- Both halves written back are the number's bytes. -/
theorem nxk_all (c : List UInt8) (hc : c.length = 16) (H S N : Nat) (hS : S = N % 18446744073709551616) (hH : H = N / 18446744073709551616 % 18446744073709551616) : nxk c H S 8 = toBE 16 N := by
  have hl : (nxk c H S 8).length = (toBE 16 N).length := by rw [nxk_length, hc, toBE_length]
  have hg : ∀ i, i < 16 → (nxk c H S 8).getD i 0 = (toBE 16 N).getD i 0 := by
    intro i hi
    rw [nxk_get c hc H S 8 (by omega), toBE_get 16 N i hi]
    by_cases h8 : i < 8
    · rw [if_pos (by omega)]
      apply ofNat_congr
      subst hH
      rcases (by omega : i = 0 ∨ i = 1 ∨ i = 2 ∨ i = 3 ∨ i = 4 ∨ i = 5 ∨ i = 6 ∨ i = 7) with rfl | rfl | rfl | rfl | rfl | rfl | rfl | rfl <;> simp only [show (256 : Nat) ^ (7 - 0) = 72057594037927936 by rfl, show (256 : Nat) ^ (7 - 1) = 281474976710656 by rfl, show (256 : Nat) ^ (7 - 2) = 1099511627776 by rfl, show (256 : Nat) ^ (7 - 3) = 4294967296 by rfl, show (256 : Nat) ^ (7 - 4) = 16777216 by rfl, show (256 : Nat) ^ (7 - 5) = 65536 by rfl, show (256 : Nat) ^ (7 - 6) = 256 by rfl, show (256 : Nat) ^ (7 - 7) = 1 by rfl,
        show (256 : Nat) ^ (16 - 1 - 0) = 18446744073709551616 * 72057594037927936 by rfl, show (256 : Nat) ^ (16 - 1 - 1) = 18446744073709551616 * 281474976710656 by rfl, show (256 : Nat) ^ (16 - 1 - 2) = 18446744073709551616 * 1099511627776 by rfl, show (256 : Nat) ^ (16 - 1 - 3) = 18446744073709551616 * 4294967296 by rfl, show (256 : Nat) ^ (16 - 1 - 4) = 18446744073709551616 * 16777216 by rfl, show (256 : Nat) ^ (16 - 1 - 5) = 18446744073709551616 * 65536 by rfl, show (256 : Nat) ^ (16 - 1 - 6) = 18446744073709551616 * 256 by rfl, show (256 : Nat) ^ (16 - 1 - 7) = 18446744073709551616 * 1 by rfl, ← Nat.div_div_eq_div_mul] <;> omega
    · rw [if_neg (by omega), if_pos (by omega)]
      apply ofNat_congr
      subst hS
      rcases (by omega : i = 8 ∨ i = 9 ∨ i = 10 ∨ i = 11 ∨ i = 12 ∨ i = 13 ∨ i = 14 ∨ i = 15) with rfl | rfl | rfl | rfl | rfl | rfl | rfl | rfl <;> simp only [show 15 - 8 = 7 by rfl, show 15 - 9 = 6 by rfl, show 15 - 10 = 5 by rfl, show 15 - 11 = 4 by rfl, show 15 - 12 = 3 by rfl, show 15 - 13 = 2 by rfl, show 15 - 14 = 1 by rfl, show 15 - 15 = 0 by rfl,
        show (256 : Nat) ^ 7 = 72057594037927936 by rfl, show (256 : Nat) ^ 6 = 281474976710656 by rfl, show (256 : Nat) ^ 5 = 1099511627776 by rfl, show (256 : Nat) ^ 4 = 4294967296 by rfl, show (256 : Nat) ^ 3 = 16777216 by rfl, show (256 : Nat) ^ 2 = 65536 by rfl, show (256 : Nat) ^ 1 = 256 by rfl, show (256 : Nat) ^ 0 = 1 by rfl] <;> omega
  refine List.ext_getElem hl fun i h1 h2 => ?_
  have := hg i (by rw [toBE_length] at h2; exact h2)
  simpa [List.getD_eq_getElem?_getD, h1, h2] using this
attribute [irreducible] nxk
end Go.Proofs.YthkbmpocfpbkoaaDoor

namespace Go.Proofs.YthkbmpocfpbkoaaDoor
open Go.RowKit

theorem dbl_x (x : UInt8) (h : 128 ≤ x.toNat) : dbl x = xr (UInt8.ofNat (x.toNat * 2 % 256)) 27 := by
  have hl := x.toNat_lt
  rw [dbl_high x h, xr_eq, show x.toNat * 2 % 256 = (x.toNat - 128) * 2 by omega]
theorem b_shrI (t : TypeId) (a k : Nat) (h : k ≤ 8) : binOp .shr t (.int .u8 (a : Int)) (.int .i64 (k : Int)) = pure (.int .u8 ((a / 2 ^ k : Nat) : Int)) := by
  simp only [binOp]
  unfold Op.shift
  rw [if_neg (by omega)]
  simp only
  congr 2
  show (a : Int).fdiv (2 ^ (min (k : Int).toNat 8)) = _
  rw [Int.toNat_natCast, Nat.min_eq_left h, Int.fdiv_eq_ediv_of_nonneg _ (Int.pow_nonneg (by omega)), Int.natCast_ediv, Int.natCast_pow]
  rfl
theorem b_one (t : TypeId) (q : Nat) (h : q < 256) : binOp .and t (.int .u8 (q : Int)) (.int .u8 1) = pure (.int .u8 ((q % 2 : Nat) : Int)) := by
  simp only [binOp_and, Op.intBits]
  show (pure (.int .u8 (IntKind.u8.wrap ((BitVec.ofInt 8 (q : Int) &&& BitVec.ofInt 8 1).toNat : Int))) : Sem Value) = _
  congr 2
  rw [BitVec.ofInt_natCast, show (BitVec.ofInt 8 1) = BitVec.ofNat 8 1 by rfl, BitVec.toNat_and, BitVec.toNat_ofNat, BitVec.toNat_ofNat, Nat.mod_eq_of_lt (by omega), show 1 % 2 ^ 8 = 1 by rfl, Nat.and_one_is_mod]
  simp [IntKind.wrap, IntKind.signed, IntKind.bits]
  omega
/-- A power whose exponent is 254, step by step. -/
def sqk (a : UInt8) : Nat → UInt8
  | 0 => a
  | k + 1 => prod (sqk a k) (sqk a k)
def pwk (a : UInt8) : Nat → UInt8
  | 0 => 1
  | k + 1 => prod (pwk a k) (sqk a (k + 1))
theorem sqk_zero (a : UInt8) : sqk a 0 = a := rfl
theorem sqk_succ (a : UInt8) (k : Nat) : sqk a (k + 1) = prod (sqk a k) (sqk a k) := rfl
theorem pwk_zero (a : UInt8) : pwk a 0 = 1 := rfl
theorem pwk_succ (a : UInt8) (k : Nat) : pwk a (k + 1) = prod (pwk a k) (sqk a (k + 1)) := rfl
theorem pwk_inv (a : UInt8) : pwk a 7 = inv a := by
  rw [inv_iT]
  have := all_bytes (p := fun a => pwk a 7 == iT a) (by decide +kernel) a
  simpa using this
attribute [irreducible] sqk pwk
/-- A byte turned left by up to seven places. -/
def rotN (x : UInt8) (k : Nat) : UInt8 := UInt8.ofNat (x.toNat * 2 ^ k % 256 ||| x.toNat / 2 ^ (8 - k))
/-- A substitute of the byte with the inverse x, k turns of it. -/
def psk (x : UInt8) : Nat → UInt8
  | 0 => 99
  | k + 1 => xr (psk x k) (rotN x k)
theorem psk_zero (x : UInt8) : psk x 0 = 99 := rfl
theorem psk_succ (x : UInt8) (k : Nat) : psk x (k + 1) = xr (psk x k) (rotN x k) := rfl
/-- The substitute of the byte with the inverse x. -/
def soT (x : UInt8) : UInt8 := sT (iT x)
theorem iT_iT (x : UInt8) : iT (iT x) = x := by
  have := all_bytes (p := fun a => iT (iT a) == a) (by decide +kernel) x
  simpa using this
theorem psk_soT (x : UInt8) : psk x 5 = soT x := by
  have h : subk x 4 = soT x := by
    rw [soT, ← sub_sT, sub, inv_iT, iT_iT]
  rw [← h, psk_succ, psk_succ, psk_succ, psk_succ, psk_succ, psk_zero, subk_succ, subk_succ, subk_succ, subk_succ, subk_zero]
  simp only [xr_eq]
  have h0 : rotN x 0 = x := by
    have := all_bytes (p := fun a => rotN a 0 == a) (by decide +kernel) x
    simpa using this
  have hr : ∀ k, rotN x k = rotB x k := fun k => by unfold rotN rotB; rfl
  rw [h0, hr, hr, hr, hr]
  congr 4
  exact UInt8.xor_comm _ _
attribute [irreducible] rotN psk
theorem soT_inv (a : UInt8) : soT (inv a) = sT a := by rw [soT, inv_iT, iT_iT]
end Go.Proofs.YthkbmpocfpbkoaaDoor

namespace Go.Proofs.YthkbmpocfpbkoaaDoor
open Go.RowKit

/-- The sum of two blocks. -/
def xorF (a b : List UInt8) (i : Nat) : UInt8 := xr (a.getD i 0) (b.getD i 0)
def xorL (a b : List UInt8) : List UInt8 := mk16 (xorF a b)
theorem xorL_length (a b : List UInt8) : (xorL a b).length = 16 := mk16_length _
/-- An operation that yields a value. -/
theorem wpList_val {P : Program} {ops : Array Oper} {rest : List Oper} {o : Oper} {a : Go.Act} {w w' : World} {Q : Exit → Go.Act → World → Prop} (v : Value) (hg : o.guard = none) (hrun : (execOp a.eval o).run P w = .ok (.value v) w')
    (h : wpList P ops Q rest (a.put o.dst v) w') : wpList P ops Q (o :: rest) a w := by
  refine wpList_plain hg fun K hK => ?_
  unfold Oper.wp
  rw [hrun]
  exact hK _ _ h
theorem info8 : (Tryd.prog.info? 5).map (·.size) = some 1 := by kernel_rfl
/-- A byte of an array that is a value. -/
theorem run_index_ub {o : Oper} {a : Go.Act} {W : World} (t : TypeId) (n : Nat) (x c : Operand) (ho : o.op = .index t x c) (hu : Tryd.prog.underlying t = some (.array n 5)) (bs : List UInt8) (hx : a.eval x = .agg (ubs bs).toArray)
    (i : Nat) (hc : a.eval c = .int .i64 (i : Int)) (hi : i < n) (hl : bs.length = n) : (execOp a.eval o).run Tryd.prog W = .ok (.value (.int .u8 ((bs.getD i 0).toNat : Int))) W := by
  unfold execOp
  simp only [ho, hx, hc]
  cases hq : Tryd.prog.info? 5 with
  | none => have := info8; rw [hq] at this; cases this
  | some inf =>
    have hs : inf.size = 1 := by have := info8; rw [hq] at this; simpa using this
    have he : (ubs bs)[i]? = some (.int .u8 ((bs.getD i 0).toNat : Int)) := by
      rw [ubs_get, List.getD_eq_getElem?_getD, List.getElem?_eq_getElem (by omega)]
      rfl
    simp [Instr.index, asIntOf, run_underlying hu, hi, part, sizeOf, typeInfo, hq, hs, he]
/-- Bytes replaced by a table's. -/
def repF (tab b : List UInt8) (i : Nat) : UInt8 := tab.getD (b.getD i 0).toNat 0
def repL (tab b : List UInt8) : List UInt8 := mk16 (repF tab b)
theorem repL_length (tab b : List UInt8) : (repL tab b).length = 16 := mk16_length _
/-- Rows turned k times. -/
def turF (k : Nat) (b : List UInt8) (i : Nat) : UInt8 := b.getD ((i + 4 * (i % 4) * k) % 16) 0
def turL (k : Nat) (b : List UInt8) : List UInt8 := mk16 (turF k b)
theorem turL_length (k : Nat) (b : List UInt8) : (turL k b).length = 16 := mk16_length _
theorem run_size8 (W : World) : (sizeOf 5).run Tryd.prog W = .ok 1 W := by
  cases hq : Tryd.prog.info? 5 with
  | none => have := info8; rw [hq] at this; cases this
  | some inf =>
    have hs : inf.size = 1 := by have := info8; rw [hq] at this; simpa using this
    simp [sizeOf, typeInfo, hq, hs]
/-- Columns mixed, as the program does it. -/
def pmF (s : List UInt8) (i : Nat) : UInt8 :=
  xr (xr (xr (dbl (xr (s.getD i 0) (s.getD (4 * (i / 4) + (i + 1) % 4) 0))) (s.getD (4 * (i / 4) + (i + 1) % 4) 0)) (s.getD (4 * (i / 4) + (i + 2) % 4) 0)) (s.getD (4 * (i / 4) + (i + 3) % 4) 0)
theorem pm_mix (s : List UInt8) : mk16 (pmF s) = mixL s := by
  refine mk16_congr fun i hi => ?_
  unfold mixF pmF mix0 mix1 mix2 mix3
  simp only [xr_eq, dbl_xor]
  rcases (by omega : i % 4 = 0 ∨ i % 4 = 1 ∨ i % 4 = 2 ∨ i % 4 = 3) with e | e | e | e
  · rw [if_pos e, show (i + 1) % 4 = 1 by omega, show (i + 2) % 4 = 2 by omega, show (i + 3) % 4 = 3 by omega, show s.getD i 0 = s.getD (4 * (i / 4)) 0 by congr 1; omega]
  · rw [if_neg (by omega), if_pos e, show (i + 1) % 4 = 2 by omega, show (i + 2) % 4 = 3 by omega, show (i + 3) % 4 = 0 by omega, show s.getD i 0 = s.getD (4 * (i / 4) + 1) 0 by congr 1; omega, Nat.add_zero]
    ac_rfl
  · rw [if_neg (by omega), if_neg (by omega), if_pos e, show (i + 1) % 4 = 3 by omega, show (i + 2) % 4 = 0 by omega, show (i + 3) % 4 = 1 by omega, show s.getD i 0 = s.getD (4 * (i / 4) + 2) 0 by congr 1; omega, Nat.add_zero]
    ac_rfl
  · rw [if_neg (by omega), if_neg (by omega), if_neg (by omega), show (i + 1) % 4 = 0 by omega, show (i + 2) % 4 = 1 by omega, show (i + 3) % 4 = 2 by omega, show s.getD i 0 = s.getD (4 * (i / 4) + 3) 0 by congr 1; omega, Nat.add_zero]
    ac_rfl
end Go.Proofs.YthkbmpocfpbkoaaDoor

namespace Go.Proofs.YthkbmpocfpbkoaaDoor
open Go.RowKit

theorem wrap64 (n : Nat) (h : n < 18446744073709551616) : IntKind.u64.wrap (n : Int) = (n : Int) := by
  simp [IntKind.wrap, IntKind.signed, IntKind.bits]
  omega
theorem wrap64' (n : Nat) : IntKind.u64.wrap (n : Int) = ((n % 18446744073709551616 : Nat) : Int) := by
  simp [IntKind.wrap, IntKind.signed, IntKind.bits]
theorem wrapB (n : Nat) : IntKind.u8.wrap (n : Int) = ((UInt8.ofNat n).toNat : Int) := by
  rw [UInt8.toNat_ofNat']
  simp [IntKind.wrap, IntKind.signed, IntKind.bits]
theorem beN_bound (l : List UInt8) (k : Nat) (hk : k ≤ 8) : beN (l.take k) < 18446744073709551616 := by
  refine Nat.lt_of_lt_of_le (beN_lt _) ?_
  have h1 : (l.take k).length ≤ 8 := by rw [List.length_take]; omega
  exact Nat.pow_le_pow_right (by omega) h1
theorem beN_halves (c : List UInt8) (hc : c.length = 16) : beN c = beN (c.take 8) * 18446744073709551616 + beN ((c.drop 8).take 8) := by
  have h1 : (c.drop 8).take 8 = c.drop 8 := List.take_of_length_le (by simp [hc])
  have h2 := beN_append (c.take 8) (c.drop 8)
  rw [List.take_append_drop] at h2
  rw [h1, h2]
  congr 2
  rw [List.length_drop, hc]
theorem drop_get (c : List UInt8) (k : Nat) : (c.drop 8).getD k 0 = c.getD (8 + k) 0 := by simp [List.getD_eq_getElem?_getD, List.getElem?_drop]
end Go.Proofs.YthkbmpocfpbkoaaDoor

namespace Go.Proofs.YthkbmpocfpbkoaaDoor
open Go.RowKit

/-- What is carried into byte 15 - j; the counter behind so many bytes. -/
def crk (c : List UInt8) (n : Nat) : Nat → Nat
  | 0 => n
  | j + 1 => ((c.getD (15 - j) 0).toNat + crk c n j) / 256
def cur (c : List UInt8) (n : Nat) : Nat → List UInt8
  | 0 => c
  | j + 1 => (cur c n j).set (15 - j) (UInt8.ofNat ((c.getD (15 - j) 0).toNat + crk c n j))
theorem crk_zero (c : List UInt8) (n : Nat) : crk c n 0 = n := rfl
theorem crk_succ (c : List UInt8) (n j : Nat) : crk c n (j + 1) = ((c.getD (15 - j) 0).toNat + crk c n j) / 256 := rfl
theorem cur_zero (c : List UInt8) (n : Nat) : cur c n 0 = c := rfl
theorem cur_succ (c : List UInt8) (n j : Nat) : cur c n (j + 1) = (cur c n j).set (15 - j) (UInt8.ofNat ((c.getD (15 - j) 0).toNat + crk c n j)) := rfl
theorem cur_length (c : List UInt8) (n j : Nat) : (cur c n j).length = c.length := by
  induction j with
  | zero => rfl
  | succ j ih => rw [cur_succ, List.length_set, ih]
theorem crk_lt (c : List UInt8) (n j : Nat) (h : n < 18446744073709551616) : crk c n j < 18446744073709551616 := by
  induction j with
  | zero => exact h
  | succ j ih => rw [crk_succ]; have := (c.getD (15 - j) 0).toNat_lt; omega
theorem drop_beN (c : List UInt8) (hc : c.length = 16) (j : Nat) (hj : j < 16) : beN (c.drop (15 - j)) = (c.getD (15 - j) 0).toNat * 256 ^ j + beN (c.drop (16 - j)) := by
  have h : 15 - j < c.length := by omega
  have e : c.drop (15 - j) = c.getD (15 - j) 0 :: c.drop (16 - j) := by
    rw [List.drop_eq_getElem_cons h, show 15 - j + 1 = 16 - j by omega]
    congr 1
    simp [h]
  rw [e, beN_cons, List.length_drop, hc, show 16 - (16 - j) = j by omega]
theorem crk_eq (c : List UInt8) (hc : c.length = 16) (n j : Nat) (hj : j ≤ 16) : crk c n j = (beN (c.drop (16 - j)) + n) / 256 ^ j := by
  induction j with
  | zero => rw [crk_zero, show (16 - 0) = c.length by omega, List.drop_length, beN_nil]; simp
  | succ j ih =>
    rw [crk_succ, ih (by omega), show 16 - (j + 1) = 15 - j by omega, drop_beN c hc j (by omega), Nat.pow_succ, ← Nat.div_div_eq_div_mul, Nat.add_assoc, Nat.mul_comm, Nat.mul_add_div (Nat.pow_pos (by omega))]
theorem cur_get (c : List UInt8) (hc : c.length = 16) (n j : Nat) (hj : j ≤ 16) (i : Nat) (hi : i < 16) : (cur c n j).getD i 0 = if 15 - i < j then UInt8.ofNat ((c.getD i 0).toNat + crk c n (15 - i)) else c.getD i 0 := by
  induction j with
  | zero => rw [cur_zero, if_neg (by omega)]
  | succ j ih =>
    rw [cur_succ, set_getD _ _ _ _ (by rw [cur_length, hc]; omega), ih (by omega)]
    by_cases h : 15 - j = i
    · rw [if_pos h, if_pos (by omega), h, show 15 - i = j by omega]
    · rw [if_neg h]
      by_cases h2 : 15 - i < j
      · rw [if_pos h2, if_pos (by omega)]
      · rw [if_neg h2, if_neg (by omega)]
theorem cur_all (c : List UInt8) (hc : c.length = 16) (n : Nat) : cur c n 16 = nextL c n := by
  have hl : (cur c n 16).length = (nextL c n).length := by rw [cur_length, hc, nextL_length]
  refine List.ext_getElem hl fun i h1 h2 => ?_
  have hi : i < 16 := by rw [nextL_length] at h2; exact h2
  have hg : (cur c n 16).getD i 0 = (nextL c n).getD i 0 := by
    rw [cur_get c hc n 16 (by omega) i hi, if_pos (by omega), nextL, toBE_get 16 _ i hi, crk_eq c hc n (15 - i) (by omega)]
    apply ofNat_congr
    have h3 := drop_beN c hc (15 - i) (by omega)
    rw [show 15 - (15 - i) = i by omega] at h3
    have h4 : beN c = beN (c.take i) * 256 ^ (16 - i) + beN (c.drop i) := by
      have := beN_append (c.take i) (c.drop i)
      rwa [List.take_append_drop, List.length_drop, hc] at this
    rw [h4, h3, show 16 - 1 - i = 15 - i by omega, show 16 - i = 15 - i + 1 by omega, Nat.pow_succ]
    generalize beN (c.take i) = T
    generalize (c.getD i 0).toNat = x
    generalize beN (c.drop (16 - (15 - i))) = B
    obtain ⟨p, hp⟩ : ∃ p, p = 256 ^ (15 - i) := ⟨_, rfl⟩
    have hp0 : 0 < p := by rw [hp]; exact Nat.pow_pos (by omega)
    rw [← hp, show T * (p * 256) + (x * p + B) + n = p * (T * 256 + x) + (B + n) by rw [Nat.mul_add]; rw [show T * (p * 256) = p * (T * 256) by rw [Nat.mul_left_comm]]; rw [Nat.mul_comm x p]; omega, Nat.mul_add_div hp0]
    omega
  simpa [List.getD_eq_getElem?_getD, h1, h2] using hg
attribute [irreducible] crk cur
theorem q_and (t : TypeId) (q : Nat) (h : q < 18446744073709551616) : binOp .and t (.int .u64 (q : Int)) (.int .u64 255) = pure (.int .u64 ((q % 256 : Nat) : Int)) := by
  simp only [binOp_and, Op.intBits]
  show (pure (.int .u64 (IntKind.u64.wrap ((BitVec.ofInt 64 (q : Int) &&& BitVec.ofInt 64 255).toNat : Int))) : Sem Value) = _
  congr 2
  rw [BitVec.ofInt_natCast, show (BitVec.ofInt 64 255) = BitVec.ofNat 64 255 by rfl, BitVec.toNat_and, BitVec.toNat_ofNat, BitVec.toNat_ofNat, Nat.mod_eq_of_lt (by omega), show 255 % 2 ^ 64 = 2 ^ 8 - 1 by rfl, Nat.and_two_pow_sub_one_eq_mod]
  exact wrap64 _ (by omega)
end Go.Proofs.YthkbmpocfpbkoaaDoor

namespace Go.Proofs.YthkbmpocfpbkoaaDoor
open Go.RowKit

def n256 : List UInt8 := List.replicate 256 0
theorem n256_length : n256.length = 256 := List.length_replicate
/-- The powers of 3; those that have been written down. -/
def pw3 : Nat → UInt8
  | 0 => 1
  | k + 1 => xr (pw3 k) (dbl (pw3 k))
def powL : Nat → List UInt8
  | 0 => n256
  | k + 1 => (powL k).set k (pw3 k)
theorem pw3_zero : pw3 0 = 1 := rfl
theorem pw3_succ (k : Nat) : pw3 (k + 1) = xr (pw3 k) (dbl (pw3 k)) := rfl
theorem powL_zero : powL 0 = n256 := rfl
theorem powL_succ (k : Nat) : powL (k + 1) = (powL k).set k (pw3 k) := rfl
theorem powL_length (k : Nat) : (powL k).length = 256 := by
  induction k with
  | zero => exact n256_length
  | succ k ih => rw [powL_succ, List.length_set, ih]
theorem powL_get (k i : Nat) (h : i < k) (hk : k ≤ 256) : (powL k).getD i 0 = pw3 i := by
  induction k with
  | zero => omega
  | succ k ih =>
    rw [powL_succ]
    by_cases hi : i = k
    · subst hi
      simp [powL_length, show i < 256 by omega]
    · have := ih (by omega) (by omega)
      rw [← this]
      simp [show k ≠ i by omega]
/-- The table in the making. -/
def tabk : Nat → List UInt8
  | 0 => n256.set 0 (soT 0)
  | k + 1 => (tabk k).set (pw3 k).toNat (soT (pw3 (255 - k)))
theorem tabk_zero : tabk 0 = n256.set 0 (soT 0) := rfl
theorem tabk_succ (k : Nat) : tabk (k + 1) = (tabk k).set (pw3 k).toNat (soT (pw3 (255 - k))) := rfl
theorem tabk_length (k : Nat) : (tabk k).length = 256 := by
  induction k with
  | zero => rw [tabk_zero, List.length_set, n256_length]
  | succ k ih => rw [tabk_succ, List.length_set, ih]
theorem tabk_all : tabk 256 = STab := by decide +kernel
theorem STab_length : STab.length = 256 := by decide +kernel
/-- The other table in the making. -/
def orgk : Nat → List UInt8
  | 0 => n256
  | k + 1 => (orgk k).set (sT (UInt8.ofNat k)).toNat (UInt8.ofNat k)
theorem orgk_zero : orgk 0 = n256 := rfl
theorem orgk_succ (k : Nat) : orgk (k + 1) = (orgk k).set (sT (UInt8.ofNat k)).toNat (UInt8.ofNat k) := rfl
theorem orgk_length (k : Nat) : (orgk k).length = 256 := by
  induction k with
  | zero => exact n256_length
  | succ k ih => rw [orgk_succ, List.length_set, ih]
theorem orgk_all : orgk 256 = RTab := by decide +kernel
theorem RTab_length : RTab.length = 256 := by decide +kernel
attribute [irreducible] pw3 powL tabk orgk n256
theorem STab_get (k : Nat) (h : k < 256) : STab.getD k 0 = sT (UInt8.ofNat k) := by
  unfold sT
  rw [show (UInt8.ofNat k).toNat = k by have := of_toNat k h; omega]
theorem wrap8 (k : Nat) (h : k < 256) : IntKind.u8.wrap (k : Int) = (k : Int) := by
  simp [IntKind.wrap, IntKind.signed, IntKind.bits]
  omega
end Go.Proofs.YthkbmpocfpbkoaaDoor

namespace Go.Proofs.YthkbmpocfpbkoaaDoor
open Go.RowKit

end Go.Proofs.YthkbmpocfpbkoaaDoor

namespace Go.Proofs.YthkbmpocfpbkoaaDoor
open Go.RowKit

theorem upd_lt (b : List UInt8) (f : Nat → UInt8) (j i : Nat) (h : i < j) : (upd b f j).getD i 0 = f i := by
  unfold upd
  rw [List.getD_eq_getElem?_getD, List.getElem?_append_left (by simp; exact h)]
  simp [h]
/-- The first word's bytes, before the factor; the bytes of the round key behind k. -/
def nx0 (k : List UInt8) (i : Nat) : UInt8 := xr (k.getD i 0) (sT (k.getD (12 + (i + 1) % 4) 0))
def nx (k : List UInt8) (f : UInt8) : Nat → UInt8
  | 0 => xr (nx0 k 0) f
  | 1 => nx0 k 1
  | 2 => nx0 k 2
  | 3 => nx0 k 3
  | i + 4 => xr (k.getD (i + 4) 0) (nx k f i)
def nxL (k : List UInt8) (f : UInt8) : List UInt8 := mk16 (nx k f)
theorem nxL_length (k : List UInt8) (f : UInt8) : (nxL k f).length = 16 := mk16_length _
theorem nx_four (k : List UInt8) (f : UInt8) (i : Nat) : nx k f (i + 4) = xr (k.getD (i + 4) 0) (nx k f i) := by rw [nx]
theorem nx_first (k : List UInt8) (f : UInt8) : (upd k (nx0 k) 4).set 0 (xr (nx0 k 0) f) = upd k (nx k f) 4 := by
  unfold upd
  rw [show (List.range 4).map (nx0 k) = [nx0 k 0, nx0 k 1, nx0 k 2, nx0 k 3] from rfl, show (List.range 4).map (nx k f) = [nx k f 0, nx k f 1, nx k f 2, nx k f 3] from rfl]
  rw [nx, nx, nx, nx]
  rfl
attribute [irreducible] nx nx0
end Go.Proofs.YthkbmpocfpbkoaaDoor

namespace Go.Proofs.YthkbmpocfpbkoaaDoor
open Go.RowKit

end Go.Proofs.YthkbmpocfpbkoaaDoor

namespace Go.Proofs.YthkbmpocfpbkoaaDoor
open Go.RowKit

theorem KyW.alloc {w W : World} {m : Nat} {ws ts : List UInt8} {v : Value} {T : Nat} (h : KyW w m ws v ts T W) (o : Obj) : KyW w m ws v ts T (W.alloc o) :=
  ⟨⟨h.o.len, h.o.own.alloc _, h.o.below.alloc h.o.below.size _⟩, h.t.alloc _, h.ne⟩
theorem KyW.c1 {w W : World} {m g o c : Nat} {ws ts : List UInt8} {T : Nat} (h : KyW w m ws (.slice (some ⟨g, o, none⟩) m c) ts T W) (i : Nat) (hi : i < ws.length) : W.cell? ⟨g, o + i, none⟩ = some (.int .u8 ((ws.getD i 0).toNat : Int)) := by
  obtain ⟨g2, o2, e, d⟩ := rb_cell (Rd.of_own h.o.own) hi
  cases e
  exact d
end Go.Proofs.YthkbmpocfpbkoaaDoor

namespace Go.Proofs.YthkbmpocfpbkoaaDoor
open Go.RowKit

theorem nextL_zero (c : List UInt8) (h : c.length = 16) : nextL c 0 = c := toBE_beN 16 c h
theorem nextL_add (c : List UInt8) (a b : Nat) : nextL (nextL c a) b = nextL c (a + b) := by
  unfold nextL
  rw [beN_toBE, ← toBE_mod 16 ((beN c + a) % 256 ^ 16 + b), Nat.mod_add_mod, toBE_mod, Nat.add_assoc]
/-- The first m blocks of a stream; its first n bytes. -/
def strk (keys c : List UInt8) : Nat → List UInt8
  | 0 => []
  | m + 1 => strk keys c m ++ encL keys (nextL c m)
theorem strk_zero (keys c : List UInt8) : strk keys c 0 = [] := rfl
theorem strk_succ (keys c : List UInt8) (m : Nat) : strk keys c (m + 1) = strk keys c m ++ encL keys (nextL c m) := rfl
theorem encL_length (keys b : List UInt8) : (encL keys b).length = 16 := encK_length keys b 10
theorem strk_length (keys c : List UInt8) (m : Nat) : (strk keys c m).length = 16 * m := by
  induction m with
  | zero => rfl
  | succ m ih => rw [strk_succ, List.length_append, ih, encL_length]; omega
def streamL (keys c : List UInt8) (n : Nat) : List UInt8 := (strk keys c ((n + 15) / 16)).take n
theorem streamL_length (keys c : List UInt8) (n : Nat) : (streamL keys c n).length = n := by
  rw [streamL, List.length_take, strk_length]
  omega
attribute [irreducible] strk
theorem own_take {w : World} {base N n c : Nat} {e : TypeId} {A : Option Addr} {xs : List Value} (h : w.ownsRow base e 1 (.slice A N c) N xs) (hn : n ≤ N) : w.ownsRow base e 1 (.slice A n c) n (xs.take n) := by
  refine ⟨by rw [List.length_take, h.1]; omega, ?_⟩
  rcases h.2 with ⟨h1, h2⟩ | ⟨g, cap, cur, h1, h2, h3, h4, h5, h6, h7⟩
  · cases h1
    have : n = 0 := by omega
    subst this
    exact .inl ⟨rfl, rfl⟩
  · cases h1
    refine .inr ⟨g, _, cur, rfl, h2, h3, by omega, h5, h6, ?_⟩
    rw [← h7, List.take_take]
    congr 1
    omega
theorem elemBs : Tryd.prog.elem 89 = 5 := by kernel_rfl
/-- A slice's first bytes. -/
theorem run_slice_to (g n N cap : Nat) (h : n ≤ cap) (W : World) : (Instr.slice 89 (.slice (some ⟨g, 0, none⟩) N cap) none (some (.int .i64 (n : Int))) none).run Tryd.prog W = .ok (.slice (some ⟨g, 0, none⟩) n cap) W := by
  have h := run_slice_h (P := Tryd.prog) (w := W) (t := 89) (a := some ⟨g, 0, none⟩) (len := N) (cap := cap) (by kernel_rfl) .i64 (n : Int) (by omega) (by omega)
  rw [h, elemBs, run_size8]
  simp only [Result.andThen_ok, Int.toNat_natCast, sliced, Nat.zero_mul, Nat.sub_zero]
  split <;> simp [Addr.add]
def lenW : Value → Nat
  | .slice _ n _ => n
  | _ => 0
theorem lenW_slice (A : Option Addr) (n c : Nat) : lenW (.slice A n c) = n := rfl
end Go.Proofs.YthkbmpocfpbkoaaDoor

namespace Go.Proofs.YthkbmpocfpbkoaaDoor
open Go.RowKit

/-- Bytes turned by a stream's. -/
def trF (s b : List UInt8) (i : Nat) : UInt8 := xr (s.getD i 0) (b.getD i 0)
def trL (s b : List UInt8) : List UInt8 := (List.range s.length).map (trF s b)
def turnL (keys c b : List UInt8) : List UInt8 := trL (streamL keys c b.length) b
theorem turnL_length (keys c b : List UInt8) : (turnL keys c b).length = b.length := by simp [turnL, trL, streamL_length]
theorem updn_all (s : List UInt8) (f : Nat → UInt8) : upd s f s.length = (List.range s.length).map f := by simp [upd]
/-- A byte written into a row of the call's own. -/
theorem Own1.put {w W : World} {n cap g : Nat} {bs : List UInt8} (h : Own1 w n bs (.slice (some ⟨g, 0, none⟩) n cap) W) (i : Nat) (x : UInt8) : Own1 w n (bs.set i x) (.slice (some ⟨g, 0, none⟩) n cap) (W.setCell ⟨g, i, none⟩ (.int .u8 (x.toNat : Int))) := by
  refine ⟨by rw [List.length_set]; exact h.len, ⟨by rw [ubs_length, List.length_set, ← h.len, Nat.mul_one], ?_⟩, h.below.setCell (by
    obtain ⟨_, _, e, _, _, _, _, h7⟩ := own_form h.own
    cases e
    exact (h7 _ rfl).2.2.1) _⟩
  rcases h.own.2 with ⟨h1, h2⟩ | ⟨g', cap', cur, h1, h2, h3, h4, h5, h6, h7⟩
  · cases h1
  · cases h1
    refine .inr ⟨g, _, cur.setIfInBounds i (ub x), rfl, h2, At.put h3 i (ub x), h4, h5, by rw [Array.size_setIfInBounds]; exact h6, ?_⟩
    rw [Array.toList_setIfInBounds, List.take_set, h7]
    simp [ubs, List.map_set]
theorem own_cell {w W : World} {n cap g : Nat} {bs : List UInt8} (h : Own1 w n bs (.slice (some ⟨g, 0, none⟩) n cap) W) (i : Nat) (hi : i < n) : W.cell? ⟨g, i, none⟩ = some (.int .u8 ((bs.getD i 0).toNat : Int)) ∧ W.frozen? ⟨g, i, none⟩ = false := by
  refine ⟨?_, ?_⟩
  · obtain ⟨b, o, e, d⟩ := rb_cell (Rd.of_own h.own) (i := i) (by rw [← h.len]; exact hi)
    cases e
    simpa using d
  · rcases h.own.2 with ⟨h1, h2⟩ | ⟨g', cap', cur, h1, h2, h3, h4, h5, h6, h7⟩
    · cases h1
    · cases h1
      exact At.frozen h3 i
theorem Own1.drew1 {w W : World} {n : Nat} {bs : List UInt8} {v : Value} (h : Own1 w n bs v W) : Own1 w n bs v W.drew := ⟨h.len, own_fr (S := fun _ => False) h.own ((Fr.refl _ _).drew) (fun _ _ => id), below_drewN h.below 1⟩
theorem Own1.base {w W0 w' : World} {n : Nat} {bs : List UInt8} {v : Value} (h : Own1 W0 n bs v w') (hb : Below w.heap.size w W0) : Own1 w n bs v w' := by
  refine ⟨h.len, own_mono h.own (fun k hk => ?_), hb.trans (h.below.mono hb.size)⟩
  rcases h.own.2 with ⟨h1, h2⟩ | ⟨g', cap', cur, h1, h2, _⟩
  · subst h1
    cases hk
  · subst h1
    have := hb.size
    have e : g' = k := Option.some.inj hk
    omega
end Go.Proofs.YthkbmpocfpbkoaaDoor
