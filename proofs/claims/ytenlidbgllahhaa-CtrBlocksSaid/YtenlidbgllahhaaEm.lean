/-
  The field's laws, by its basis; the tables of inverses and substitutes. Nothing here speaks of the program.
-/
import Derived.Test.YtenlidbgllahhaaEb
namespace Go.Proofs.Ytenlidbgllahhaa
open Go.RowKit

/-- The bit with number j. -/
def bitU (j : Nat) : UInt8 := UInt8.ofNat (2 ^ j)
/-- A byte out of its lowest k bits. -/
def partX (x : UInt8) : Nat → UInt8
  | 0 => 0
  | k + 1 => if bitB x k then partX x k ^^^ bitU k else partX x k
theorem all_bytes {p : UInt8 → Bool} (h : ((List.range 256).all fun n => p (UInt8.ofNat n)) = true) (x : UInt8) : p x = true := by
  have := List.all_eq_true.1 h x.toNat (List.mem_range.2 x.toNat_lt)
  rwa [UInt8.ofNat_toNat] at this
theorem part_all (x : UInt8) : partX x 8 = x := by
  have := all_bytes (p := fun x => partX x 8 == x) (by decide +kernel) x
  simpa using this
theorem byte_ind {P : UInt8 → Prop} (h0 : P 0) (hb : ∀ j, j < 8 → P (bitU j)) (hx : ∀ a b, P a → P b → P (a ^^^ b)) (x : UInt8) : P x := by
  have : ∀ k, k ≤ 8 → P (partX x k) := by
    intro k
    induction k with
    | zero => exact fun _ => h0
    | succ k ih =>
      intro hk
      rw [partX]
      split
      · exact hx _ _ (ih (by omega)) (hb k (by omega))
      · exact ih (by omega)
  rw [← part_all x]
  exact this 8 (Nat.le_refl _)
theorem x_left (a b c : UInt8) : a ^^^ (b ^^^ c) = b ^^^ (a ^^^ c) := by rw [← UInt8.xor_assoc, UInt8.xor_comm a b, UInt8.xor_assoc]
theorem x_four (a b c d : UInt8) : (a ^^^ b) ^^^ (c ^^^ d) = (a ^^^ c) ^^^ (b ^^^ d) := by simp only [UInt8.xor_assoc, x_left b c d]
theorem x_zero (a : UInt8) : a ^^^ 0 = a := by simp
theorem dbl_bit {j : Nat} (h : j < 8) (a : UInt8) : dbl (a ^^^ bitU j) = dbl a ^^^ dbl (bitU j) := by
  have h1 : ((List.range 8).all fun j => (List.range 256).all fun n => dbl (UInt8.ofNat n ^^^ bitU j) == dbl (UInt8.ofNat n) ^^^ dbl (bitU j)) = true := by decide +kernel
  have := all_bytes (p := fun a => dbl (a ^^^ bitU j) == dbl a ^^^ dbl (bitU j)) (List.all_eq_true.1 h1 j (List.mem_range.2 h)) a
  simpa using this
theorem dbl_zero : dbl 0 = 0 := by decide +kernel
theorem dbl_xor (a b : UInt8) : dbl (a ^^^ b) = dbl a ^^^ dbl b := by
  revert a
  refine byte_ind (P := fun b => ∀ a, dbl (a ^^^ b) = dbl a ^^^ dbl b) (fun a => by rw [dbl_zero, x_zero, x_zero]) (fun j h a => dbl_bit h a) (fun b c hb hc a => ?_) b
  rw [← UInt8.xor_assoc, hc, hb, hc b, UInt8.xor_assoc]
theorem dblk_xor (a b : UInt8) (k : Nat) : dblk (a ^^^ b) k = dblk a k ^^^ dblk b k := by
  induction k with
  | zero => simp [dblk_zero]
  | succ k ih => rw [dblk_succ, dblk_succ, dblk_succ, ih, dbl_xor]
theorem prodk_step (a b : UInt8) (k : Nat) : prodk a b (k + 1) = prodk a b k ^^^ (if bitB a k then dblk b k else 0) := by
  rcases Bool.eq_false_or_eq_true (bitB a k) with h | h
  · rw [prodk_yes a b k h, if_pos h]
  · rw [prodk_no a b k h, if_neg (by rw [h]; exact Bool.false_ne_true), x_zero]
theorem prodk_right (a b c : UInt8) (k : Nat) : prodk a (b ^^^ c) k = prodk a b k ^^^ prodk a c k := by
  induction k with
  | zero => simp [prodk_zero]
  | succ k ih =>
    rw [prodk_step, prodk_step, prodk_step, ih, x_four, dblk_xor]
    congr 1
    split <;> simp
theorem bitB_test (a : UInt8) (k : Nat) : bitB a k = a.toNat.testBit k := by
  rw [bitB, Nat.testBit_eq_decide_div_mod_eq, Bool.eq_iff_iff]
  simp
theorem bitB_xor (a b : UInt8) (k : Nat) : bitB (a ^^^ b) k = (bitB a k ^^ bitB b k) := by
  rw [bitB_test, bitB_test, bitB_test, UInt8.toNat_xor, Nat.testBit_xor]
theorem prodk_left (a b c : UInt8) (k : Nat) : prodk (a ^^^ b) c k = prodk a c k ^^^ prodk b c k := by
  induction k with
  | zero => simp [prodk_zero]
  | succ k ih =>
    rw [prodk_step, prodk_step, prodk_step, ih, x_four, bitB_xor]
    congr 1
    rcases Bool.eq_false_or_eq_true (bitB a k) with h | h <;> rcases Bool.eq_false_or_eq_true (bitB b k) with h' | h' <;> simp [h, h']
theorem prod_right (a b c : UInt8) : prod a (b ^^^ c) = prod a b ^^^ prod a c := prodk_right a b c 8
theorem prod_left (a b c : UInt8) : prod (a ^^^ b) c = prod a c ^^^ prod b c := prodk_left a b c 8
theorem prod_nought (a : UInt8) : prod a 0 = 0 := by
  have := prod_right a 0 0
  simpa using this
theorem nought_prod (a : UInt8) : prod 0 a = 0 := by
  have := prod_left 0 0 a
  simpa using this
theorem comm_bits : ((List.range 8).all fun i => (List.range 8).all fun j => prod (bitU i) (bitU j) == prod (bitU j) (bitU i)) = true := by decide +kernel
theorem prod_comm (a b : UInt8) : prod a b = prod b a := by
  revert b
  refine byte_ind (P := fun a => ∀ b, prod a b = prod b a) (fun b => by rw [nought_prod, prod_nought]) (fun i hi b => ?_) (fun a c ha hc b => by rw [prod_left, prod_right, ha, hc]) a
  refine byte_ind (P := fun b => prod (bitU i) b = prod b (bitU i)) (by rw [nought_prod, prod_nought]) (fun j hj => ?_) (fun a c ha hc => by rw [prod_left, prod_right, ha, hc]) b
  have := List.all_eq_true.1 (List.all_eq_true.1 comm_bits i (List.mem_range.2 hi)) j (List.mem_range.2 hj)
  simpa using this
theorem assoc_bits : ((List.range 8).all fun i => (List.range 8).all fun j => (List.range 8).all fun k => prod (bitU i) (prod (bitU j) (bitU k)) == prod (prod (bitU i) (bitU j)) (bitU k)) = true := by decide +kernel
theorem prod_assoc (a b c : UInt8) : prod a (prod b c) = prod (prod a b) c := by
  revert b c
  refine byte_ind (P := fun a => ∀ b c, prod a (prod b c) = prod (prod a b) c) (fun b c => by rw [nought_prod, nought_prod, nought_prod]) (fun i hi b => ?_) (fun a d ha hd b c => by rw [prod_left, prod_left, prod_left, ha, hd]) a
  refine byte_ind (P := fun b => ∀ c, prod (bitU i) (prod b c) = prod (prod (bitU i) b) c) (fun c => by rw [nought_prod, prod_nought, nought_prod]) (fun j hj c => ?_) (fun a d ha hd c => by rw [prod_left, prod_right, prod_right, prod_left, ha, hd]) b
  refine byte_ind (P := fun c => prod (bitU i) (prod (bitU j) c) = prod (prod (bitU i) (bitU j)) c) (by rw [prod_nought, prod_nought, prod_nought]) (fun k hk => ?_) (fun a d ha hd => by rw [prod_right, prod_right, prod_right, ha, hd]) c
  have := List.all_eq_true.1 (List.all_eq_true.1 (List.all_eq_true.1 assoc_bits i (List.mem_range.2 hi)) j (List.mem_range.2 hj)) k (List.mem_range.2 hk)
  simpa using this
theorem prod_one (a : UInt8) : prod a 1 = a := by
  have := all_bytes (p := fun a => prod a 1 == a) (by decide +kernel) a
  simpa using this
/-- The inverses; the substitutes; the bytes that they are of. -/
def ITab : List UInt8 := [0, 1, 141, 246, 203, 82, 123, 209, 232, 79, 41, 192, 176, 225, 229, 199, 116, 180, 170, 75, 153, 43, 96, 95, 88, 63, 253, 204, 255, 64, 238, 178, 58, 110, 90, 241, 85, 77, 168, 201, 193, 10, 152, 21, 48, 68, 162, 194, 44, 69, 146, 108, 243, 57, 102, 66, 242, 53, 32, 111, 119, 187, 89, 25, 29, 254, 55, 103, 45, 49, 245, 105, 167, 100, 171, 19, 84, 37, 233, 9, 237, 92, 5, 202, 76, 36, 135, 191, 24, 62, 34, 240, 81, 236, 97, 23, 22, 94, 175, 211, 73, 166, 54, 67, 244, 71, 145, 223, 51, 147, 33, 59, 121, 183, 151, 133, 16, 181, 186, 60, 182, 112, 208, 6, 161, 250, 129, 130, 131, 126, 127, 128, 150, 115, 190, 86, 155, 158, 149, 217, 247, 2, 185, 164, 222, 106, 50, 109, 216, 138, 132, 114, 42, 20, 159, 136, 249, 220, 137, 154, 251, 124, 46, 195, 143, 184, 101, 72, 38, 200, 18, 74, 206, 231, 210, 98, 12, 224, 31, 239, 17, 117, 120, 113, 165, 142, 118, 61, 189, 188, 134, 87, 11, 40, 47, 163, 218, 212, 228, 15, 169, 39, 83, 4, 27, 252, 172, 230, 122, 7, 174, 99, 197, 219, 226, 234, 148, 139, 196, 213, 157, 248, 144, 107, 177, 13, 214, 235, 198, 14, 207, 173, 8, 78, 215, 227, 93, 80, 30, 179, 91, 35, 56, 52, 104, 70, 3, 140, 221, 156, 125, 160, 205, 26, 65, 28]
def STab : List UInt8 := [99, 124, 119, 123, 242, 107, 111, 197, 48, 1, 103, 43, 254, 215, 171, 118, 202, 130, 201, 125, 250, 89, 71, 240, 173, 212, 162, 175, 156, 164, 114, 192, 183, 253, 147, 38, 54, 63, 247, 204, 52, 165, 229, 241, 113, 216, 49, 21, 4, 199, 35, 195, 24, 150, 5, 154, 7, 18, 128, 226, 235, 39, 178, 117, 9, 131, 44, 26, 27, 110, 90, 160, 82, 59, 214, 179, 41, 227, 47, 132, 83, 209, 0, 237, 32, 252, 177, 91, 106, 203, 190, 57, 74, 76, 88, 207, 208, 239, 170, 251, 67, 77, 51, 133, 69, 249, 2, 127, 80, 60, 159, 168, 81, 163, 64, 143, 146, 157, 56, 245, 188, 182, 218, 33, 16, 255, 243, 210, 205, 12, 19, 236, 95, 151, 68, 23, 196, 167, 126, 61, 100, 93, 25, 115, 96, 129, 79, 220, 34, 42, 144, 136, 70, 238, 184, 20, 222, 94, 11, 219, 224, 50, 58, 10, 73, 6, 36, 92, 194, 211, 172, 98, 145, 149, 228, 121, 231, 200, 55, 109, 141, 213, 78, 169, 108, 86, 244, 234, 101, 122, 174, 8, 186, 120, 37, 46, 28, 166, 180, 198, 232, 221, 116, 31, 75, 189, 139, 138, 112, 62, 181, 102, 72, 3, 246, 14, 97, 53, 87, 185, 134, 193, 29, 158, 225, 248, 152, 17, 105, 217, 142, 148, 155, 30, 135, 233, 206, 85, 40, 223, 140, 161, 137, 13, 191, 230, 66, 104, 65, 153, 45, 15, 176, 84, 187, 22]
def RTab : List UInt8 := [82, 9, 106, 213, 48, 54, 165, 56, 191, 64, 163, 158, 129, 243, 215, 251, 124, 227, 57, 130, 155, 47, 255, 135, 52, 142, 67, 68, 196, 222, 233, 203, 84, 123, 148, 50, 166, 194, 35, 61, 238, 76, 149, 11, 66, 250, 195, 78, 8, 46, 161, 102, 40, 217, 36, 178, 118, 91, 162, 73, 109, 139, 209, 37, 114, 248, 246, 100, 134, 104, 152, 22, 212, 164, 92, 204, 93, 101, 182, 146, 108, 112, 72, 80, 253, 237, 185, 218, 94, 21, 70, 87, 167, 141, 157, 132, 144, 216, 171, 0, 140, 188, 211, 10, 247, 228, 88, 5, 184, 179, 69, 6, 208, 44, 30, 143, 202, 63, 15, 2, 193, 175, 189, 3, 1, 19, 138, 107, 58, 145, 17, 65, 79, 103, 220, 234, 151, 242, 207, 206, 240, 180, 230, 115, 150, 172, 116, 34, 231, 173, 53, 133, 226, 249, 55, 232, 28, 117, 223, 110, 71, 241, 26, 113, 29, 41, 197, 137, 111, 183, 98, 14, 170, 24, 190, 27, 252, 86, 62, 75, 198, 210, 121, 32, 154, 219, 192, 254, 120, 205, 90, 244, 31, 221, 168, 51, 136, 7, 199, 49, 177, 18, 16, 89, 39, 128, 236, 95, 96, 81, 127, 169, 25, 181, 74, 13, 45, 229, 122, 159, 147, 201, 156, 239, 160, 224, 59, 77, 174, 42, 245, 176, 200, 235, 187, 60, 131, 83, 153, 97, 23, 43, 4, 126, 186, 119, 214, 38, 225, 105, 20, 99, 85, 33, 12, 125]
def iT (a : UInt8) : UInt8 := ITab.getD a.toNat 0
def sT (a : UInt8) : UInt8 := STab.getD a.toNat 0
def rT (a : UInt8) : UInt8 := RTab.getD a.toNat 0
theorem iT_prod (a : UInt8) (h : a ≠ 0) : prod a (iT a) = 1 := by
  have := all_bytes (p := fun a => a == 0 || prod a (iT a) == 1) (by decide +kernel) a
  simpa [h] using this
theorem inv_unique (a x y : UInt8) (hx : prod a x = 1) (hy : prod a y = 1) : x = y := by
  have h : prod x (prod a y) = prod (prod a x) y := by rw [prod_assoc, prod_comm x a]
  rw [hx, hy, prod_one, prod_comm 1 y, prod_one] at h
  exact h
theorem invs_spec (a : UInt8) (k : Nat) : (∃ x, prod a x = 1 ∧ invs a k = x) ∨ (invs a k = 0 ∧ ∀ x : Nat, 256 - k ≤ x → x ≤ 255 → prod a (UInt8.ofNat x) ≠ 1) := by
  induction k with
  | zero => exact .inr ⟨invs_zero a, fun x h1 h2 => by omega⟩
  | succ k ih =>
    by_cases hp : prod a (UInt8.ofNat (255 - k)) = 1
    · refine .inl ⟨_, hp, ?_⟩
      rw [invs, if_pos hp]
    · rw [invs, if_neg hp]
      rcases ih with h | ⟨h1, h2⟩
      · exact .inl h
      · refine .inr ⟨h1, fun x hx hx2 => ?_⟩
        rcases Nat.lt_or_ge x (256 - k) with hl | hl
        · rwa [show x = 255 - k by omega]
        · exact h2 x hl hx2
theorem inv_zero : inv 0 = 0 := by
  rcases invs_spec 0 255 with ⟨x, hx, _⟩ | ⟨h, _⟩
  · rw [nought_prod] at hx
    exact absurd hx (by decide)
  · exact h
theorem inv_prod (a : UInt8) (h : a ≠ 0) : prod a (inv a) = 1 := by
  rcases invs_spec a 255 with ⟨x, hx, he⟩ | ⟨_, h2⟩
  · rw [inv, he]; exact hx
  · have h0 : iT a ≠ 0 := by
      intro e
      have := iT_prod a h
      rw [e, prod_nought] at this
      exact absurd this (by decide)
    refine absurd (iT_prod a h) ?_
    have := h2 (iT a).toNat (by
      have : (iT a).toNat ≠ 0 := fun e => h0 (UInt8.toNat_inj.1 e)
      omega) (by have := (iT a).toNat_lt; omega)
    rwa [UInt8.ofNat_toNat] at this
theorem inv_iT (a : UInt8) : inv a = iT a := by
  by_cases h : a = 0
  · subst h
    rw [inv_zero]
    decide +kernel
  · exact inv_unique a _ _ (inv_prod a h) (iT_prod a h)
theorem inv_inv (a : UInt8) : inv (inv a) = a := by
  rw [inv_iT, inv_iT]
  have := all_bytes (p := fun a => iT (iT a) == a) (by decide +kernel) a
  simpa using this
theorem sub_sT (a : UInt8) : sub a = sT a := by
  rw [sub, inv_iT]
  have := all_bytes (p := fun a => subk (iT a) 4 == sT a) (by decide +kernel) a
  simpa using this
theorem rT_sT (a : UInt8) : rT (sT a) = a := by
  have := all_bytes (p := fun a => rT (sT a) == a) (by decide +kernel) a
  simpa using this
theorem sT_rT (a : UInt8) : sT (rT a) = a := by
  have := all_bytes (p := fun a => sT (rT a) == a) (by decide +kernel) a
  simpa using this
theorem sub_inj (a b : UInt8) (h : sub a = sub b) : a = b := by
  rw [sub_sT, sub_sT] at h
  have := congrArg rT h
  rwa [rT_sT, rT_sT] at this
end Go.Proofs.Ytenlidbgllahhaa
