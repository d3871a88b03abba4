/-
  What the program's steps come to in the document's words. Nothing here speaks of the program's code.
-/
import Derived.Test.YtenlidbgllahhaaFe
import Derived.Test.YtenlidbgllahhaaEi
namespace Go.Proofs.Ytenlidbgllahhaa
open Go.RowKit

theorem sh_tur (x : List UInt8) : turL 1 (repL STab x) = shL x := by
  refine mk16_congr fun i hi => ?_
  unfold turF repL
  rw [mk16_get _ _ (by omega)]
  unfold repF shF
  rw [show (i + 4 * (i % 4) * 1) % 16 = 4 * ((i / 4 + i % 4) % 4) + i % 4 by omega]
  rfl
theorem ish_tur (x : List UInt8) : repL RTab (turL 3 x) = ishL x := by
  refine mk16_congr fun i hi => ?_
  unfold repF turL
  rw [mk16_get _ _ hi]
  unfold turF ishF
  rw [show (i + 4 * (i % 4) * 3) % 16 = 4 * ((i / 4 + 4 - i % 4) % 4) + i % 4 by omega]
  rfl
theorem rks_get (key : List UInt8) (h : key.length = 16) (n i : Nat) (hn : n ≤ 10) (hi : i < 16) : (rks key 11).getD (16 * n + i) 0 = (rk key n).getD i 0 := by
  obtain ⟨z, hz⟩ := rks_part key 11 n (by omega)
  have hl := rks_length key h n
  have hr := rk_length key h n
  rw [hz, List.getD_eq_getElem?_getD, List.getD_eq_getElem?_getD, List.getElem?_append_right (by omega), hl, Nat.add_sub_cancel_left, List.getElem?_append_left (by omega)]
theorem add_xor (key x : List UInt8) (h : key.length = 16) (n : Nat) (hn : n ≤ 10) : addL x (rks key 11) n = xorL x (rk key n) := by
  refine mk16_congr fun i hi => ?_
  unfold addF xorF
  rw [rks_get key h n i hn hi, xr_eq]
/-- Columns mixed twice. -/
def m2F (s : List UInt8) (i : Nat) : UInt8 :=
  (if i % 4 = 0 then mixP 5 0 4 0 else if i % 4 = 1 then mixP 0 5 0 4 else if i % 4 = 2 then mixP 4 0 5 0 else mixP 0 4 0 5) (s.getD (4 * (i / 4)) 0) (s.getD (4 * (i / 4) + 1) 0) (s.getD (4 * (i / 4) + 2) 0) (s.getD (4 * (i / 4) + 3) 0)
def m2L (s : List UInt8) : List UInt8 := mk16 (m2F s)
theorem m2F_at (s : List UInt8) (c : Nat) : m2F s (4 * c) = mixP 5 0 4 0 (s.getD (4 * c) 0) (s.getD (4 * c + 1) 0) (s.getD (4 * c + 2) 0) (s.getD (4 * c + 3) 0)
    ∧ m2F s (4 * c + 1) = mixP 0 5 0 4 (s.getD (4 * c) 0) (s.getD (4 * c + 1) 0) (s.getD (4 * c + 2) 0) (s.getD (4 * c + 3) 0)
    ∧ m2F s (4 * c + 2) = mixP 4 0 5 0 (s.getD (4 * c) 0) (s.getD (4 * c + 1) 0) (s.getD (4 * c + 2) 0) (s.getD (4 * c + 3) 0)
    ∧ m2F s (4 * c + 3) = mixP 0 4 0 5 (s.getD (4 * c) 0) (s.getD (4 * c + 1) 0) (s.getD (4 * c + 2) 0) (s.getD (4 * c + 3) 0) := by
  unfold m2F
  rw [show 4 * c % 4 = 0 by omega, show (4 * c + 1) % 4 = 1 by omega, show (4 * c + 2) % 4 = 2 by omega, show (4 * c + 3) % 4 = 3 by omega, show 4 * c / 4 = c by omega, show (4 * c + 1) / 4 = c by omega, show (4 * c + 2) / 4 = c by omega, show (4 * c + 3) / 4 = c by omega]
  exact ⟨rfl, rfl, rfl, rfl⟩
theorem mixP_cong {a b c d a' b' c' d' : UInt8} (h : (a, b, c, d) = (a', b', c', d')) (p q u v : UInt8) : mixP a b c d p q u v = mixP a' b' c' d' p q u v := by
  cases h; rfl
theorem mix_mix (s : List UInt8) : mixL (mixL s) = m2L s := by
  refine mk16_cols (mk16_length _) fun c hc => ?_
  obtain ⟨h0, h1, h2, h3⟩ := mixF_at (mixL s) c
  obtain ⟨m0, m1, m2, m3⟩ := mixF_at s c
  obtain ⟨n0, n1, n2, n3⟩ := m2F_at s c
  unfold mixL at h0 h1 h2 h3 ⊢
  unfold m2L
  rw [mk16_get _ _ (by omega), mk16_get _ _ (by omega), mk16_get _ _ (by omega), mk16_get _ _ (by omega), m0, m1, m2, m3] at h0 h1 h2 h3
  simp only [mix0_eq, mix1_eq, mix2_eq, mix3_eq] at h0 h1 h2 h3
  rw [mk16_get _ _ (by omega), mk16_get _ _ (by omega), mk16_get _ _ (by omega), mk16_get _ _ (by omega), h0, h1, h2, h3, n0, n1, n2, n3]
  refine ⟨?_, ?_, ?_, ?_⟩ <;> rw [mixP_comp] <;> exact mixP_cong (by decide +kernel) _ _ _ _
theorem m2_m2 (s : List UInt8) (h : s.length = 16) : m2L (m2L s) = s := by
  refine mk16_cols h fun c hc => ?_
  obtain ⟨h0, h1, h2, h3⟩ := m2F_at (m2L s) c
  obtain ⟨m0, m1, m2, m3⟩ := m2F_at s c
  unfold m2L at h0 h1 h2 h3 ⊢
  rw [mk16_get _ _ (by omega), mk16_get _ _ (by omega), mk16_get _ _ (by omega), mk16_get _ _ (by omega), m0, m1, m2, m3] at h0 h1 h2 h3
  rw [h0, h1, h2, h3, mixP_comp, mixP_comp, mixP_comp, mixP_comp]
  refine ⟨?_, ?_, ?_, ?_⟩
  · exact (mixP_cong (by decide +kernel) _ _ _ _).trans (mixP_first _ _ _ _)
  · exact (mixP_cong (by decide +kernel) _ _ _ _).trans (mixP_second _ _ _ _)
  · exact (mixP_cong (by decide +kernel) _ _ _ _).trans (mixP_third _ _ _ _)
  · exact (mixP_cong (by decide +kernel) _ _ _ _).trans (mixP_fourth _ _ _ _)
theorem imix_three (s : List UInt8) (h : s.length = 16) : mixL (mixL (mixL s)) = imixL s := by
  have h4 : mixL (mixL (mixL (mixL s))) = s := by rw [mix_mix, mix_mix, m2_m2 s h]
  have := imix_mix (mixL (mixL (mixL s))) (mixL_length _)
  rw [h4] at this
  exact this.symm
/-- A round of the program, forwards and backwards. -/
theorem enc_round (key b : List UInt8) (h : key.length = 16) (k : Nat) (hk : k < 10) : encK (rks key 11) b (k + 1) = xorL (if k < 9 then mixL (turL 1 (repL STab (encK (rks key 11) b k))) else turL 1 (repL STab (encK (rks key 11) b k))) (rk key (k + 1)) := by
  rw [encK_succ, roundL, sh_tur, add_xor key _ h (k + 1) (by omega)]
  by_cases h9 : k < 9
  · rw [if_pos h9, if_pos (by omega)]
  · rw [if_neg h9, if_neg (by omega)]
theorem enc_start (key b : List UInt8) (h : key.length = 16) : encK (rks key 11) b 0 = xorL b (rk key 0) := by rw [encK_zero, add_xor key b h 0 (by omega)]
theorem dec_round (key x : List UInt8) (h : key.length = 16) (k : Nat) (hk : k < 10) :
    decK (rks key 11) x (k + 1) = repL RTab (turL 3 (if 0 < k then mixL (mixL (mixL (xorL (decK (rks key 11) x k) (rk key (10 - k))))) else xorL (decK (rks key 11) x k) (rk key (10 - k)))) := by
  rw [decK_succ, iroundL, ish_tur, add_xor key _ h (10 - k) (by omega)]
  by_cases h0 : 0 < k
  · rw [if_pos h0, if_pos (by omega), imix_three _ (xorL_length _ _)]
  · rw [if_neg h0, if_neg (by omega)]
theorem dec_end (key x : List UInt8) (h : key.length = 16) : decL (rks key 11) x = xorL (decK (rks key 11) x 10) (rk key 0) := by rw [decL, add_xor key _ h 0 (by omega)]
end Go.Proofs.Ytenlidbgllahhaa
