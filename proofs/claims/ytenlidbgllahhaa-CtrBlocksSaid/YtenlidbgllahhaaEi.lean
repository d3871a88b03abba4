/-
  Encryption backwards: each step's inverse, and both ways round. Nothing here speaks of the program.
-/
import Derived.Test.YtenlidbgllahhaaEe
namespace Go.Proofs.Ytenlidbgllahhaa
open Go.RowKit

/-- A row of a matrix times a column. -/
def mixP (a b c d p q u v : UInt8) : UInt8 := prod a p ^^^ prod b q ^^^ prod c u ^^^ prod d v
theorem one_prod (a : UInt8) : prod 1 a = a := by rw [prod_comm, prod_one]
theorem dbl_prod (a : UInt8) : dbl a = prod 2 a := by
  have := all_bytes (p := fun a => dbl a == prod 2 a) (by decide +kernel) a
  simpa using this
theorem three_prod (a : UInt8) : prod 3 a = dbl a ^^^ a := by
  rw [show (3 : UInt8) = 2 ^^^ 1 by decide, prod_left, ← dbl_prod, one_prod]
theorem mix0_eq (p q u v : UInt8) : mix0 p q u v = mixP 2 3 1 1 p q u v := by
  unfold mix0 mixP
  rw [three_prod, ← dbl_prod, one_prod, one_prod]
  simp only [xr_eq, UInt8.xor_assoc]
theorem mix1_eq (p q u v : UInt8) : mix1 p q u v = mixP 1 2 3 1 p q u v := by
  unfold mix1 mixP
  rw [three_prod, ← dbl_prod, one_prod, one_prod]
  simp only [xr_eq, UInt8.xor_assoc]
theorem mix2_eq (p q u v : UInt8) : mix2 p q u v = mixP 1 1 2 3 p q u v := by
  unfold mix2 mixP
  rw [three_prod, ← dbl_prod, one_prod, one_prod]
  simp only [xr_eq, UInt8.xor_assoc]
theorem mix3_eq (p q u v : UInt8) : mix3 p q u v = mixP 3 1 1 2 p q u v := by
  unfold mix3 mixP
  rw [three_prod, ← dbl_prod, one_prod, one_prod]
  simp only [xr_eq, UInt8.xor_assoc]
theorem mixP_comp (a b c d a0 b0 c0 d0 a1 b1 c1 d1 a2 b2 c2 d2 a3 b3 c3 d3 p q u v : UInt8) :
    mixP a b c d (mixP a0 b0 c0 d0 p q u v) (mixP a1 b1 c1 d1 p q u v) (mixP a2 b2 c2 d2 p q u v) (mixP a3 b3 c3 d3 p q u v) =
      mixP (mixP a b c d a0 a1 a2 a3) (mixP a b c d b0 b1 b2 b3) (mixP a b c d c0 c1 c2 c3) (mixP a b c d d0 d1 d2 d3) p q u v := by
  unfold mixP
  simp only [prod_right, prod_left, prod_assoc]
  ac_rfl
theorem mixP_first (p q u v : UInt8) : mixP 1 0 0 0 p q u v = p := by unfold mixP; rw [one_prod, nought_prod, nought_prod, nought_prod]; simp
theorem mixP_second (p q u v : UInt8) : mixP 0 1 0 0 p q u v = q := by unfold mixP; rw [one_prod, nought_prod, nought_prod, nought_prod]; simp
theorem mixP_third (p q u v : UInt8) : mixP 0 0 1 0 p q u v = u := by unfold mixP; rw [one_prod, nought_prod, nought_prod, nought_prod]; simp
theorem mixP_fourth (p q u v : UInt8) : mixP 0 0 0 1 p q u v = v := by unfold mixP; rw [one_prod, nought_prod, nought_prod, nought_prod]; simp
/-- The inverse rows. -/
def imix0 (p q u v : UInt8) : UInt8 := mixP 14 11 13 9 p q u v
def imix1 (p q u v : UInt8) : UInt8 := mixP 9 14 11 13 p q u v
def imix2 (p q u v : UInt8) : UInt8 := mixP 13 9 14 11 p q u v
def imix3 (p q u v : UInt8) : UInt8 := mixP 11 13 9 14 p q u v
def imixF (s : List UInt8) (i : Nat) : UInt8 :=
  (if i % 4 = 0 then imix0 else if i % 4 = 1 then imix1 else if i % 4 = 2 then imix2 else imix3) (s.getD (4 * (i / 4)) 0) (s.getD (4 * (i / 4) + 1) 0) (s.getD (4 * (i / 4) + 2) 0) (s.getD (4 * (i / 4) + 3) 0)
def imixL (s : List UInt8) : List UInt8 := mk16 (imixF s)
theorem imixF_at (s : List UInt8) (c : Nat) : imixF s (4 * c) = imix0 (s.getD (4 * c) 0) (s.getD (4 * c + 1) 0) (s.getD (4 * c + 2) 0) (s.getD (4 * c + 3) 0)
    ∧ imixF s (4 * c + 1) = imix1 (s.getD (4 * c) 0) (s.getD (4 * c + 1) 0) (s.getD (4 * c + 2) 0) (s.getD (4 * c + 3) 0)
    ∧ imixF s (4 * c + 2) = imix2 (s.getD (4 * c) 0) (s.getD (4 * c + 1) 0) (s.getD (4 * c + 2) 0) (s.getD (4 * c + 3) 0)
    ∧ imixF s (4 * c + 3) = imix3 (s.getD (4 * c) 0) (s.getD (4 * c + 1) 0) (s.getD (4 * c + 2) 0) (s.getD (4 * c + 3) 0) := by
  unfold imixF
  rw [show 4 * c % 4 = 0 by omega, show (4 * c + 1) % 4 = 1 by omega, show (4 * c + 2) % 4 = 2 by omega, show (4 * c + 3) % 4 = 3 by omega, show 4 * c / 4 = c by omega, show (4 * c + 1) / 4 = c by omega, show (4 * c + 2) / 4 = c by omega, show (4 * c + 3) / 4 = c by omega]
  exact ⟨rfl, rfl, rfl, rfl⟩
/-- Columns one by one. -/
theorem mk16_cols {f : Nat → UInt8} {s : List UInt8} (h : s.length = 16) (hc : ∀ c, c < 4 → f (4 * c) = s.getD (4 * c) 0 ∧ f (4 * c + 1) = s.getD (4 * c + 1) 0 ∧ f (4 * c + 2) = s.getD (4 * c + 2) 0 ∧ f (4 * c + 3) = s.getD (4 * c + 3) 0) : mk16 f = s := by
  rw [← mk16_self s h]
  refine mk16_congr fun i hi => ?_
  obtain ⟨h0, h1, h2, h3⟩ := hc (i / 4) (by omega)
  rcases (by omega : i % 4 = 0 ∨ i % 4 = 1 ∨ i % 4 = 2 ∨ i % 4 = 3) with e | e | e | e
  · rwa [show 4 * (i / 4) = i by omega] at h0
  · rwa [show 4 * (i / 4) + 1 = i by omega] at h1
  · rwa [show 4 * (i / 4) + 2 = i by omega] at h2
  · rwa [show 4 * (i / 4) + 3 = i by omega] at h3
theorem imix_mix (s : List UInt8) (h : s.length = 16) : imixL (mixL s) = s := by
  refine mk16_cols h fun c hc => ?_
  obtain ⟨h0, h1, h2, h3⟩ := imixF_at (mixL s) c
  obtain ⟨m0, m1, m2, m3⟩ := mixF_at s c
  unfold mixL at h0 h1 h2 h3 ⊢
  rw [mk16_get _ _ (by omega), mk16_get _ _ (by omega), mk16_get _ _ (by omega), mk16_get _ _ (by omega), m0, m1, m2, m3, mix0_eq, mix1_eq, mix2_eq, mix3_eq] at h0 h1 h2 h3
  rw [h0, h1, h2, h3]
  unfold imix0 imix1 imix2 imix3
  refine ⟨?_, ?_, ?_, ?_⟩ <;> rw [mixP_comp]
  · exact (congrArg (fun t : UInt8 × UInt8 × UInt8 × UInt8 => mixP t.1 t.2.1 t.2.2.1 t.2.2.2 _ _ _ _) (show (_, _, _, _) = ((1 : UInt8), (0 : UInt8), (0 : UInt8), (0 : UInt8)) by decide +kernel)).trans (mixP_first _ _ _ _)
  · exact (congrArg (fun t : UInt8 × UInt8 × UInt8 × UInt8 => mixP t.1 t.2.1 t.2.2.1 t.2.2.2 _ _ _ _) (show (_, _, _, _) = ((0 : UInt8), (1 : UInt8), (0 : UInt8), (0 : UInt8)) by decide +kernel)).trans (mixP_second _ _ _ _)
  · exact (congrArg (fun t : UInt8 × UInt8 × UInt8 × UInt8 => mixP t.1 t.2.1 t.2.2.1 t.2.2.2 _ _ _ _) (show (_, _, _, _) = ((0 : UInt8), (0 : UInt8), (1 : UInt8), (0 : UInt8)) by decide +kernel)).trans (mixP_third _ _ _ _)
  · exact (congrArg (fun t : UInt8 × UInt8 × UInt8 × UInt8 => mixP t.1 t.2.1 t.2.2.1 t.2.2.2 _ _ _ _) (show (_, _, _, _) = ((0 : UInt8), (0 : UInt8), (0 : UInt8), (1 : UInt8)) by decide +kernel)).trans (mixP_fourth _ _ _ _)
theorem mix_imix (s : List UInt8) (h : s.length = 16) : mixL (imixL s) = s := by
  refine mk16_cols h fun c hc => ?_
  obtain ⟨h0, h1, h2, h3⟩ := mixF_at (imixL s) c
  obtain ⟨m0, m1, m2, m3⟩ := imixF_at s c
  unfold imixL at h0 h1 h2 h3 ⊢
  rw [mk16_get _ _ (by omega), mk16_get _ _ (by omega), mk16_get _ _ (by omega), mk16_get _ _ (by omega), m0, m1, m2, m3] at h0 h1 h2 h3
  rw [h0, h1, h2, h3, mix0_eq, mix1_eq, mix2_eq, mix3_eq]
  unfold imix0 imix1 imix2 imix3
  refine ⟨?_, ?_, ?_, ?_⟩ <;> rw [mixP_comp]
  · exact (congrArg (fun t : UInt8 × UInt8 × UInt8 × UInt8 => mixP t.1 t.2.1 t.2.2.1 t.2.2.2 _ _ _ _) (show (_, _, _, _) = ((1 : UInt8), (0 : UInt8), (0 : UInt8), (0 : UInt8)) by decide +kernel)).trans (mixP_first _ _ _ _)
  · exact (congrArg (fun t : UInt8 × UInt8 × UInt8 × UInt8 => mixP t.1 t.2.1 t.2.2.1 t.2.2.2 _ _ _ _) (show (_, _, _, _) = ((0 : UInt8), (1 : UInt8), (0 : UInt8), (0 : UInt8)) by decide +kernel)).trans (mixP_second _ _ _ _)
  · exact (congrArg (fun t : UInt8 × UInt8 × UInt8 × UInt8 => mixP t.1 t.2.1 t.2.2.1 t.2.2.2 _ _ _ _) (show (_, _, _, _) = ((0 : UInt8), (0 : UInt8), (1 : UInt8), (0 : UInt8)) by decide +kernel)).trans (mixP_third _ _ _ _)
  · exact (congrArg (fun t : UInt8 × UInt8 × UInt8 × UInt8 => mixP t.1 t.2.1 t.2.2.1 t.2.2.2 _ _ _ _) (show (_, _, _, _) = ((0 : UInt8), (0 : UInt8), (0 : UInt8), (1 : UInt8)) by decide +kernel)).trans (mixP_fourth _ _ _ _)
/-- Bytes moved back, and what they are the substitutes of. -/
def ishF (b : List UInt8) (i : Nat) : UInt8 := rT (b.getD (4 * ((i / 4 + 4 - i % 4) % 4) + i % 4) 0)
def ishL (b : List UInt8) : List UInt8 := mk16 (ishF b)
theorem ish_sh (b : List UInt8) (h : b.length = 16) : ishL (shL b) = b := by
  rw [← mk16_self b h]
  refine mk16_congr fun i hi => ?_
  unfold ishF shL
  rw [mk16_self b h, mk16_get _ _ (by omega)]
  unfold shF
  rw [rT_sT]
  congr 1
  omega
theorem sh_ish (b : List UInt8) (h : b.length = 16) : shL (ishL b) = b := by
  rw [← mk16_self b h]
  refine mk16_congr fun i hi => ?_
  unfold shF ishL
  rw [mk16_self b h, mk16_get _ _ (by omega)]
  unfold ishF
  rw [sT_rT]
  congr 1
  omega
theorem add_add (b keys : List UInt8) (n : Nat) (h : b.length = 16) : addL (addL b keys n) keys n = b := by
  unfold addL
  rw [← mk16_self b h]
  refine mk16_congr fun i hi => ?_
  unfold addF
  rw [mk16_get _ _ hi, mk16_get _ _ hi, UInt8.xor_assoc, UInt8.xor_self]
  simp
theorem imixL_length (b : List UInt8) : (imixL b).length = 16 := mk16_length _
theorem ishL_length (b : List UInt8) : (ishL b).length = 16 := mk16_length _
/-- A round backwards; all rounds backwards. -/
def iroundL (keys : List UInt8) (n : Nat) (x : List UInt8) : List UInt8 := ishL (if n < 10 then imixL (addL x keys n) else addL x keys n)
theorem iroundL_length (keys : List UInt8) (n : Nat) (x : List UInt8) : (iroundL keys n x).length = 16 := mk16_length _
theorem iround_round (keys : List UInt8) (n : Nat) (b : List UInt8) (h : b.length = 16) : iroundL keys n (roundL keys n b) = b := by
  unfold iroundL roundL
  by_cases hn : n < 10
  · rw [if_pos hn, if_pos hn, add_add _ _ _ (mixL_length _), imix_mix _ (shL_length _), ish_sh b h]
  · rw [if_neg hn, if_neg hn, add_add _ _ _ (shL_length _), ish_sh b h]
theorem round_iround (keys : List UInt8) (n : Nat) (x : List UInt8) (h : x.length = 16) : roundL keys n (iroundL keys n x) = x := by
  unfold iroundL roundL
  by_cases hn : n < 10
  · rw [if_pos hn, if_pos hn, sh_ish _ (imixL_length _), mix_imix _ (addL_length _ _ _), add_add x keys n h]
  · rw [if_neg hn, if_neg hn, sh_ish _ (addL_length _ _ _), add_add x keys n h]
def decK (keys x : List UInt8) : Nat → List UInt8
  | 0 => x
  | k + 1 => iroundL keys (10 - k) (decK keys x k)
def decL (keys x : List UInt8) : List UInt8 := addL (decK keys x 10) keys 0
theorem decK_zero (keys x : List UInt8) : decK keys x 0 = x := rfl
theorem decK_succ (keys x : List UInt8) (k : Nat) : decK keys x (k + 1) = iroundL keys (10 - k) (decK keys x k) := rfl
theorem decK_length (keys x : List UInt8) (h : x.length = 16) (k : Nat) : (decK keys x k).length = 16 := by
  cases k with
  | zero => exact h
  | succ k => exact iroundL_length _ _ _
theorem decL_length (keys x : List UInt8) : (decL keys x).length = 16 := addL_length _ _ _
theorem dec_enc (keys b : List UInt8) (h : b.length = 16) : decL keys (encL keys b) = b := by
  have : ∀ k, k ≤ 10 → decK keys (encL keys b) k = encK keys b (10 - k) := by
    intro k
    induction k with
    | zero => exact fun _ => rfl
    | succ k ih =>
      intro hk
      rw [decK_succ, ih (by omega), show 10 - k = (10 - (k + 1)) + 1 by omega, encK_succ, iround_round _ _ _ (encK_length _ _ _)]
  rw [decL, this 10 (Nat.le_refl _), Nat.sub_self, encK_zero, add_add _ _ _ h]
theorem enc_dec (keys x : List UInt8) (h : x.length = 16) : encL keys (decL keys x) = x := by
  have : ∀ k, k ≤ 10 → encK keys (decL keys x) k = decK keys x (10 - k) := by
    intro k
    induction k with
    | zero =>
      intro _
      rw [encK_zero, decL, add_add _ _ _ (decK_length _ _ h _)]
    | succ k ih =>
      intro hk
      rw [encK_succ, ih (by omega), show 10 - k = (10 - (k + 1)) + 1 by omega, decK_succ, show 10 - (10 - (k + 1)) = k + 1 by omega, round_iround _ _ _ (decK_length _ _ h _)]
  rw [← encL_eq, this 10 (Nat.le_refl _), Nat.sub_self, decK_zero]
end Go.Proofs.Ytenlidbgllahhaa
