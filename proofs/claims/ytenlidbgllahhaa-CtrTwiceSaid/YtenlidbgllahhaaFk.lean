/-
  The document's round keys are the program's. Nothing here speaks of the program's code.
-/
import Derived.Test.YtenlidbgllahhaaFh
namespace Go.Proofs.Ytenlidbgllahhaa
open Go.RowKit

/-- The round keys up to n, and m bytes of the next one. -/
def wk (key : List UInt8) (n m : Nat) : List UInt8 := rks key (n + 1) ++ (List.range m).map (nx (rk key n) (pwd n))
theorem wk_length (key : List UInt8) (h : key.length = 16) (n m : Nat) : (wk key n m).length = 16 * (n + 1) + m := by
  rw [wk, List.length_append, rks_length key h]; simp
theorem wk_old (key : List UInt8) (h : key.length = 16) (n m i : Nat) (hi : i < 16) : (wk key n m).getD (16 * n + i) 0 = (rk key n).getD i 0 := by
  have hl := rks_length key h n
  have hr := rk_length key h n
  rw [wk, rks_succ, List.append_assoc, List.getD_eq_getElem?_getD, List.getD_eq_getElem?_getD, List.getElem?_append_right (by omega), hl, Nat.add_sub_cancel_left, List.getElem?_append_left (by omega)]
theorem wk_new (key : List UInt8) (h : key.length = 16) (n m i : Nat) (hi : i < m) : (wk key n m).getD (16 * (n + 1) + i) 0 = nx (rk key n) (pwd n) i := by
  have hl := rks_length key h (n + 1)
  rw [wk, List.getD_eq_getElem?_getD, List.getElem?_append_right (by omega), hl, Nat.add_sub_cancel_left]
  simp [hi]
theorem kw_wk (key : List UInt8) (n m i : Nat) (f : UInt8) (hb : ∀ j, j < 4 → kb (wk key n m) i f j = nx (rk key n) (pwd n) (m + j)) : kw (wk key n m) i f 4 = wk key n (m + 4) := by
  unfold kw
  rw [show (List.range 4).map (kb (wk key n m) i f) = [kb (wk key n m) i f 0, kb (wk key n m) i f 1, kb (wk key n m) i f 2, kb (wk key n m) i f 3] from rfl, hb 0 (by omega), hb 1 (by omega), hb 2 (by omega), hb 3 (by omega)]
  unfold wk
  rw [List.append_assoc]
  congr 1
  rw [show m + 4 = m + 1 + 1 + 1 + 1 by omega, List.range_succ, List.range_succ, List.range_succ, List.range_succ]
  simp
theorem word_first (key : List UInt8) (h : key.length = 16) (n : Nat) : kw (wk key n 0) (4 * (n + 1)) (pwd n) 4 = wk key n 4 := by
  refine kw_wk key n 0 _ _ fun j hj => ?_
  have o := fun i hi => wk_old key h n 0 i hi
  unfold kb kt
  rw [if_pos (by omega), show 4 * (4 * (n + 1)) - 16 + j = 16 * n + j by omega, o j (by omega), show 4 * (4 * (n + 1)) - 3 = 16 * n + 13 by omega, show 4 * (4 * (n + 1)) - 2 = 16 * n + 14 by omega, show 4 * (4 * (n + 1)) - 1 = 16 * n + 15 by omega, show 4 * (4 * (n + 1)) - 4 = 16 * n + 12 by omega, o 13 (by omega), o 14 (by omega), o 15 (by omega), o 12 (by omega)]
  rcases (by omega : j = 0 ∨ j = 1 ∨ j = 2 ∨ j = 3) with rfl | rfl | rfl | rfl
  · show xr ((rk key n).getD 0 0) (xr (sT ((rk key n).getD 13 0)) (pwd n)) = nx (rk key n) (pwd n) 0
    unfold nx nx0
    simp only [xr_eq, UInt8.xor_assoc]
  · show xr ((rk key n).getD 1 0) (sT ((rk key n).getD 14 0)) = nx (rk key n) (pwd n) 1
    unfold nx nx0
    rfl
  · show xr ((rk key n).getD 2 0) (sT ((rk key n).getD 15 0)) = nx (rk key n) (pwd n) 2
    unfold nx nx0
    rfl
  · show xr ((rk key n).getD 3 0) (sT ((rk key n).getD 12 0)) = nx (rk key n) (pwd n) 3
    unfold nx nx0
    rfl
theorem word_next (key : List UInt8) (h : key.length = 16) (n q : Nat) (hq : q < 3) (f : UInt8) : kw (wk key n (4 * q + 4)) (4 * (n + 1) + (q + 1)) f 4 = wk key n (4 * q + 8) := by
  refine kw_wk key n (4 * q + 4) _ _ fun j hj => ?_
  have o := wk_old key h n (4 * q + 4) (4 * q + 4 + j) (by omega)
  have w := fun i hi => wk_new key h n (4 * q + 4) i hi
  unfold kb kt
  rw [if_neg (by omega), show 4 * (4 * (n + 1) + (q + 1)) - 16 + j = 16 * n + (4 * q + 4 + j) by omega, o,
    show 4 * (4 * (n + 1) + (q + 1)) - 4 = 16 * (n + 1) + 4 * q by omega, show 4 * (4 * (n + 1) + (q + 1)) - 3 = 16 * (n + 1) + (4 * q + 1) by omega, show 4 * (4 * (n + 1) + (q + 1)) - 2 = 16 * (n + 1) + (4 * q + 2) by omega, show 4 * (4 * (n + 1) + (q + 1)) - 1 = 16 * (n + 1) + (4 * q + 3) by omega,
    w (4 * q) (by omega), w (4 * q + 1) (by omega), w (4 * q + 2) (by omega), w (4 * q + 3) (by omega), show 4 * q + 4 + j = (4 * q + j) + 4 by omega, nx_four]
  rcases (by omega : j = 0 ∨ j = 1 ∨ j = 2 ∨ j = 3) with rfl | rfl | rfl | rfl <;> rfl
theorem wk_zero (key : List UInt8) (n : Nat) : wk key n 0 = rks key (n + 1) := by simp [wk]
theorem wk_all (key : List UInt8) (n : Nat) : wk key n 16 = rks key (n + 2) := by
  rw [rks_succ key (n + 1), rk_succ, nxL]
  unfold mk16 wk
  rfl
theorem ks_rks (key : List UInt8) (h : key.length = 16) (n : Nat) : ks key (4 * n) = (rks key (n + 1), pwd n) := by
  induction n with
  | zero =>
    show ks key 0 = _
    rw [ks_zero, rks_succ, rk_zero, pwd_zero, rks_zero]
    rfl
  | succ n ih =>
    rw [show 4 * (n + 1) = 4 * n + 1 + 1 + 1 + 1 by omega, ks_succ, ks_succ, ks_succ, ks_succ, ih]
    have k1 : kf (4 * n + 4) (pwd n) = pwd (n + 1) := by rw [kf, if_pos (by omega), pwd_succ]
    have k2 : kf (4 * n + 1 + 4) (pwd (n + 1)) = pwd (n + 1) := by rw [kf, if_neg (by omega)]
    have k3 : kf (4 * n + 1 + 1 + 4) (pwd (n + 1)) = pwd (n + 1) := by rw [kf, if_neg (by omega)]
    have k4 : kf (4 * n + 1 + 1 + 1 + 4) (pwd (n + 1)) = pwd (n + 1) := by rw [kf, if_neg (by omega)]
    have w1 := word_first key h n
    have w2 := word_next key h n 0 (by omega) (pwd (n + 1))
    have w3 := word_next key h n 1 (by omega) (pwd (n + 1))
    have w4 := word_next key h n 2 (by omega) (pwd (n + 1))
    rw [wk_zero] at w1
    simp only [k1, k2, k3, k4]
    rw [show 4 * n + 4 = 4 * (n + 1) by omega, w1, show 4 * n + 1 + 4 = 4 * (n + 1) + (0 + 1) by omega, w2, show 4 * n + 1 + 1 + 4 = 4 * (n + 1) + (1 + 1) by omega, w3, show 4 * n + 1 + 1 + 1 + 4 = 4 * (n + 1) + (2 + 1) by omega, w4, ← wk_all]
theorem keys_rks (key : List UInt8) (h : key.length = 16) : keysL key = rks key 11 := by
  have := ks_rks key h 10
  rw [keysL, show 40 = 4 * 10 by rfl, this]
end Go.Proofs.Ytenlidbgllahhaa
