/-
  Numbers of many bytes, big-endian; the document's Next of layer 5.
-/
import Derived.Test.YtenlidbgllahhaaBe
import Derived.Test.YtenlidbgllahhaaEk
import Derived.Test.YtenlidbgllahhaaEo
namespace Go.Proofs.Ytenlidbgllahhaa
open Go.RowKit

/-- The counter behind c by n. -/
def nextL (c : List UInt8) (n : Nat) : List UInt8 := toBE 16 (beN c + n)
theorem nextL_length (c : List UInt8) (n : Nat) : (nextL c n).length = 16 := toBE_length _ _
/-- The bytes written back, j of each half. -/
def nxk (c : List UInt8) (H S : Nat) : Nat → List UInt8
  | 0 => c
  | j + 1 => ((nxk c H S j).set (7 - j) (UInt8.ofNat (H / 256 ^ j))).set (15 - j) (UInt8.ofNat (S / 256 ^ j))
theorem nxk_zero (c : List UInt8) (H S : Nat) : nxk c H S 0 = c := rfl
theorem nxk_succ (c : List UInt8) (H S j : Nat) : nxk c H S (j + 1) = ((nxk c H S j).set (7 - j) (UInt8.ofNat (H / 256 ^ j))).set (15 - j) (UInt8.ofNat (S / 256 ^ j)) := rfl
theorem nxk_length (c : List UInt8) (H S j : Nat) : (nxk c H S j).length = c.length := by
  induction j with
  | zero => rfl
  | succ j ih => rw [nxk_succ, List.length_set, List.length_set, ih]
theorem nxk_get (c : List UInt8) (hc : c.length = 16) (H S j : Nat) (hj : j ≤ 8) (i : Nat) :
    (nxk c H S j).getD i 0 = if 7 - i < j ∧ i < 8 then UInt8.ofNat (H / 256 ^ (7 - i)) else if 15 - i < j ∧ 8 ≤ i ∧ i < 16 then UInt8.ofNat (S / 256 ^ (15 - i)) else c.getD i 0 := by
  induction j with
  | zero => rw [nxk_zero, if_neg (by omega), if_neg (by omega)]
  | succ j ih =>
    rw [nxk_succ, set_getD _ _ _ _ (by rw [List.length_set, nxk_length, hc]; omega), set_getD _ _ _ _ (by rw [nxk_length, hc]; omega), ih (by omega)]
    by_cases h1 : 15 - j = i
    · rw [if_pos h1, if_neg (show ¬ (7 - i < j + 1 ∧ i < 8) by omega), if_pos (by omega), show 15 - i = j by omega]
    · rw [if_neg h1]
      by_cases h2 : 7 - j = i
      · rw [if_pos h2, if_pos (by omega), show 7 - i = j by omega]
      · rw [if_neg h2]
        by_cases h3 : 7 - i < j ∧ i < 8
        · rw [if_pos h3, if_pos (by omega)]
        · rw [if_neg h3]
          by_cases h4 : 15 - i < j ∧ 8 ≤ i ∧ i < 16
          · rw [if_pos h4, if_neg (show ¬ (7 - i < j + 1 ∧ i < 8) by omega), if_pos (by omega)]
          · rw [if_neg h4, if_neg (show ¬ (7 - i < j + 1 ∧ i < 8) by omega), if_neg (by omega)]
/-- Both halves written back are the number's bytes. -/
theorem nxk_all (c : List UInt8) (hc : c.length = 16) (H S N : Nat) (hS : S = N % 18446744073709551616) (hH : H = N / 18446744073709551616 % 18446744073709551616) : nxk c H S 8 = toBE 16 N := by
  have hl : (nxk c H S 8).length = (toBE 16 N).length := by rw [nxk_length, hc, toBE_length]
  have hg : ∀ i, i < 16 → (nxk c H S 8).getD i 0 = (toBE 16 N).getD i 0 := by
    intro i hi
    rw [nxk_get c hc H S 8 (by omega), toBE_get 16 N i hi]
    by_cases h8 : i < 8
    · rw [if_pos (by omega)]
      apply ofNat_congr
      subst hH
      rcases (by omega : i = 0 ∨ i = 1 ∨ i = 2 ∨ i = 3 ∨ i = 4 ∨ i = 5 ∨ i = 6 ∨ i = 7) with rfl | rfl | rfl | rfl | rfl | rfl | rfl | rfl <;> simp only [show (256 : Nat) ^ (7 - 0) = 72057594037927936 by rfl, show (256 : Nat) ^ (7 - 1) = 281474976710656 by rfl, show (256 : Nat) ^ (7 - 2) = 1099511627776 by rfl, show (256 : Nat) ^ (7 - 3) = 4294967296 by rfl, show (256 : Nat) ^ (7 - 4) = 16777216 by rfl, show (256 : Nat) ^ (7 - 5) = 65536 by rfl, show (256 : Nat) ^ (7 - 6) = 256 by rfl, show (256 : Nat) ^ (7 - 7) = 1 by rfl,
        show (256 : Nat) ^ (16 - 1 - 0) = 18446744073709551616 * 72057594037927936 by rfl, show (256 : Nat) ^ (16 - 1 - 1) = 18446744073709551616 * 281474976710656 by rfl, show (256 : Nat) ^ (16 - 1 - 2) = 18446744073709551616 * 1099511627776 by rfl, show (256 : Nat) ^ (16 - 1 - 3) = 18446744073709551616 * 4294967296 by rfl, show (256 : Nat) ^ (16 - 1 - 4) = 18446744073709551616 * 16777216 by rfl, show (256 : Nat) ^ (16 - 1 - 5) = 18446744073709551616 * 65536 by rfl, show (256 : Nat) ^ (16 - 1 - 6) = 18446744073709551616 * 256 by rfl, show (256 : Nat) ^ (16 - 1 - 7) = 18446744073709551616 * 1 by rfl, ← Nat.div_div_eq_div_mul] <;> omega
    · rw [if_neg (by omega), if_pos (by omega)]
      apply ofNat_congr
      subst hS
      rcases (by omega : i = 8 ∨ i = 9 ∨ i = 10 ∨ i = 11 ∨ i = 12 ∨ i = 13 ∨ i = 14 ∨ i = 15) with rfl | rfl | rfl | rfl | rfl | rfl | rfl | rfl <;> simp only [show 15 - 8 = 7 by rfl, show 15 - 9 = 6 by rfl, show 15 - 10 = 5 by rfl, show 15 - 11 = 4 by rfl, show 15 - 12 = 3 by rfl, show 15 - 13 = 2 by rfl, show 15 - 14 = 1 by rfl, show 15 - 15 = 0 by rfl,
        show (256 : Nat) ^ 7 = 72057594037927936 by rfl, show (256 : Nat) ^ 6 = 281474976710656 by rfl, show (256 : Nat) ^ 5 = 1099511627776 by rfl, show (256 : Nat) ^ 4 = 4294967296 by rfl, show (256 : Nat) ^ 3 = 16777216 by rfl, show (256 : Nat) ^ 2 = 65536 by rfl, show (256 : Nat) ^ 1 = 256 by rfl, show (256 : Nat) ^ 0 = 1 by rfl] <;> omega
  refine List.ext_getElem hl fun i h1 h2 => ?_
  have := hg i (by rw [toBE_length] at h2; exact h2)
  simpa [List.getD_eq_getElem?_getD, h1, h2] using this
attribute [irreducible] nxk
end Go.Proofs.Ytenlidbgllahhaa
