/-
  The document's layer 7: what is in range; a place's bytes.
  A cipher in memory: all round keys, one behind the other; New.
  What the program's steps come to in the document's words. Nothing here speaks of the program's code.
  A cipher or none; Encrypt.
  Comparing blocks and bytes; errors as numbers; RoundKey.
  The document's round keys are the program's. Nothing here speaks of the program's code.
  What laws over ciphers share: guarded operations, whole rows, the document's round keys.
  The document's layer 7: a block turned.
  The document's layer 7: a tag.
  A sealed block as a value; its parts in memory.
  The document's layer 7: Put.
  The program's alike and Blocks of layer 5.
  The iterator that the program's Blocks hands back: its contract.
  The program's Turn of layer 5.
  Blocks at unlike places are turned by unlike streams; what is turned twice is as it was. Nothing here walks.
-/
import Derived.Test.YthkbmpocfpbkoaaDoorV1
import Derived.Test.YthkbmpocfpbkoaaDoorV2
import Derived.Test.YthkbmpocfpbkoaaDoorX0
import Derived.Deep.Cut
import Derived.Test.YthkbmpocfpbkoaaDoorY1
import Derived.ChangeKeysEq
import Derived.ArgAppend
import Derived.BigQuiet
import Derived.Test.YthkbmpocfpbkoaaDoorY4
import Derived.Sort.LoopGhostIn
import Derived.Shelf.Abstract
namespace Go.Proofs.YthkbmpocfpbkoaaDoor
open Go.RowKit

def rightB (i e : Nat) : Bool := decide (i ≤ 4294967295) && (e != 0) && (e != 18446744073709551615)
/-- A place's bytes. -/
def placeL (i e : Nat) : List UInt8 := toBE 4 i ++ toBE 8 e
theorem placeL_length (i e : Nat) : (placeL i e).length = 12 := by rw [placeL, List.length_append, toBE_length, toBE_length]
/-- A block of the call's own as a row. -/
theorem own_of_at {w W : World} {g n : Nat} {bs : List UInt8} (h : At W g (ubs bs).toArray 5) (hg : w.heap.size ≤ g) (hb : Below w.heap.size w W) (hn : n = bs.length) (hm : n ≤ 1000000) : Own1 w n bs (.slice (some ⟨g, 0, none⟩) n n) W :=
  ⟨hn, ⟨by rw [ubs_length, hn, Nat.mul_one], .inr ⟨g, n, (ubs bs).toArray, rfl, hg, h, Nat.le_refl _, by unfold maxLen; omega, by simp [ubs_length, hn], by rw [List.take_of_length_le (by simp [ubs_length, hn])]⟩⟩, hb⟩
end Go.Proofs.YthkbmpocfpbkoaaDoor

namespace Go.Proofs.YthkbmpocfpbkoaaDoor
open Go.RowKit

/-- The round keys, one by one; the first n of them, one behind the other; a cipher in the making. -/
def pwd : Nat → UInt8
  | 0 => 1
  | n + 1 => dbl (pwd n)
def rk (key : List UInt8) : Nat → List UInt8
  | 0 => key
  | n + 1 => nxL (rk key n) (pwd n)
def rks (key : List UInt8) : Nat → List UInt8
  | 0 => []
  | n + 1 => rks key n ++ rk key n
def ck (key : List UInt8) (n : Nat) : List UInt8 := rks key n ++ List.replicate (176 - 16 * n) 0
theorem pwd_zero : pwd 0 = 1 := rfl
theorem pwd_succ (n : Nat) : pwd (n + 1) = dbl (pwd n) := rfl
theorem rk_zero (key : List UInt8) : rk key 0 = key := rfl
theorem rk_succ (key : List UInt8) (n : Nat) : rk key (n + 1) = nxL (rk key n) (pwd n) := rfl
theorem rks_zero (key : List UInt8) : rks key 0 = [] := rfl
theorem rks_succ (key : List UInt8) (n : Nat) : rks key (n + 1) = rks key n ++ rk key n := rfl
theorem rk_length (key : List UInt8) (h : key.length = 16) (n : Nat) : (rk key n).length = 16 := by
  cases n with
  | zero => exact h
  | succ n => exact nxL_length _ _
theorem rks_length (key : List UInt8) (h : key.length = 16) (n : Nat) : (rks key n).length = 16 * n := by
  induction n with
  | zero => rfl
  | succ n ih => rw [rks_succ, List.length_append, ih, rk_length key h]; omega
theorem ck_length (key : List UInt8) (h : key.length = 16) (n : Nat) (hn : n ≤ 11) : (ck key n).length = 176 := by
  rw [ck, List.length_append, rks_length key h, List.length_replicate]; omega
theorem ck_next (key : List UInt8) (h : key.length = 16) (n : Nat) (hn : n ≤ 10) : spl (ck key n) (16 * n) (rk key n) = ck key (n + 1) := by
  have h1 : List.replicate (176 - 16 * n) (0 : UInt8) = List.replicate 16 0 ++ List.replicate (176 - 16 * (n + 1)) 0 := by
    rw [List.replicate_append_replicate]; congr 1; omega
  have := spl_at (rks key n) (List.replicate 16 0) (List.replicate (176 - 16 * (n + 1)) 0) (rk key n) (by rw [rk_length key h, List.length_replicate])
  rw [rks_length key h] at this
  rw [ck, h1, this, ck, rks_succ, List.append_assoc]
theorem rks_part (key : List UInt8) (m n : Nat) (hn : n < m) : ∃ z, rks key m = rks key n ++ (rk key n ++ z) := by
  induction m with
  | zero => omega
  | succ m ih =>
    by_cases e : n = m
    · subst e
      exact ⟨[], by rw [rks_succ]; simp⟩
    · obtain ⟨z, hz⟩ := ih (by omega)
      exact ⟨z ++ rk key m, by rw [rks_succ, hz]; simp⟩
theorem ck_part (key : List UInt8) (m n : Nat) (hn : n < m) : ∃ z, ck key m = rks key n ++ (rk key n ++ z) := by
  obtain ⟨z, hz⟩ := rks_part key m n hn
  exact ⟨z ++ List.replicate (176 - 16 * m) 0, by rw [ck, hz]; simp⟩
theorem ck_all (key : List UInt8) : ck key 11 = rks key 11 := by rw [ck]; simp
def n176 : List UInt8 := List.replicate 176 0
theorem ck_zero (key : List UInt8) : ck key 0 = n176 := rfl
attribute [irreducible] ck rks rk pwd n176
theorem size_setCells (g : Nat) (vs : List Value) : ∀ (o : Nat) (w : World), (w.setCells g o vs).heap.size = w.heap.size := by
  induction vs with
  | nil => exact fun _ _ => rfl
  | cons v r ih => exact fun o w => (ih (o + 1) _).trans (by simp)
end Go.Proofs.YthkbmpocfpbkoaaDoor

namespace Go.Proofs.YthkbmpocfpbkoaaDoor
open Go.RowKit

theorem sh_tur (x : List UInt8) : turL 1 (repL STab x) = shL x := by
  refine mk16_congr fun i hi => ?_
  unfold turF repL
  rw [mk16_get _ _ (by omega)]
  unfold repF shF
  rw [show (i + 4 * (i % 4) * 1) % 16 = 4 * ((i / 4 + i % 4) % 4) + i % 4 by omega]
  rfl
theorem ish_tur (x : List UInt8) : repL RTab (turL 3 x) = ishL x := by
  refine mk16_congr fun i hi => ?_
  unfold repF turL
  rw [mk16_get _ _ hi]
  unfold turF ishF
  rw [show (i + 4 * (i % 4) * 3) % 16 = 4 * ((i / 4 + 4 - i % 4) % 4) + i % 4 by omega]
  rfl
theorem rks_get (key : List UInt8) (h : key.length = 16) (n i : Nat) (hn : n ≤ 10) (hi : i < 16) : (rks key 11).getD (16 * n + i) 0 = (rk key n).getD i 0 := by
  obtain ⟨z, hz⟩ := rks_part key 11 n (by omega)
  have hl := rks_length key h n
  have hr := rk_length key h n
  rw [hz, List.getD_eq_getElem?_getD, List.getD_eq_getElem?_getD, List.getElem?_append_right (by omega), hl, Nat.add_sub_cancel_left, List.getElem?_append_left (by omega)]
theorem add_xor (key x : List UInt8) (h : key.length = 16) (n : Nat) (hn : n ≤ 10) : addL x (rks key 11) n = xorL x (rk key n) := by
  refine mk16_congr fun i hi => ?_
  unfold addF xorF
  rw [rks_get key h n i hn hi, xr_eq]
/-- Columns mixed twice. -/
def m2F (s : List UInt8) (i : Nat) : UInt8 :=
  (if i % 4 = 0 then mixP 5 0 4 0 else if i % 4 = 1 then mixP 0 5 0 4 else if i % 4 = 2 then mixP 4 0 5 0 else mixP 0 4 0 5) (s.getD (4 * (i / 4)) 0) (s.getD (4 * (i / 4) + 1) 0) (s.getD (4 * (i / 4) + 2) 0) (s.getD (4 * (i / 4) + 3) 0)
def m2L (s : List UInt8) : List UInt8 := mk16 (m2F s)
theorem m2F_at (s : List UInt8) (c : Nat) : m2F s (4 * c) = mixP 5 0 4 0 (s.getD (4 * c) 0) (s.getD (4 * c + 1) 0) (s.getD (4 * c + 2) 0) (s.getD (4 * c + 3) 0)
    ∧ m2F s (4 * c + 1) = mixP 0 5 0 4 (s.getD (4 * c) 0) (s.getD (4 * c + 1) 0) (s.getD (4 * c + 2) 0) (s.getD (4 * c + 3) 0)
    ∧ m2F s (4 * c + 2) = mixP 4 0 5 0 (s.getD (4 * c) 0) (s.getD (4 * c + 1) 0) (s.getD (4 * c + 2) 0) (s.getD (4 * c + 3) 0)
    ∧ m2F s (4 * c + 3) = mixP 0 4 0 5 (s.getD (4 * c) 0) (s.getD (4 * c + 1) 0) (s.getD (4 * c + 2) 0) (s.getD (4 * c + 3) 0) := by
  unfold m2F
  rw [show 4 * c % 4 = 0 by omega, show (4 * c + 1) % 4 = 1 by omega, show (4 * c + 2) % 4 = 2 by omega, show (4 * c + 3) % 4 = 3 by omega, show 4 * c / 4 = c by omega, show (4 * c + 1) / 4 = c by omega, show (4 * c + 2) / 4 = c by omega, show (4 * c + 3) / 4 = c by omega]
  exact ⟨rfl, rfl, rfl, rfl⟩
theorem mixP_cong {a b c d a' b' c' d' : UInt8} (h : (a, b, c, d) = (a', b', c', d')) (p q u v : UInt8) : mixP a b c d p q u v = mixP a' b' c' d' p q u v := by
  cases h; rfl
theorem mix_mix (s : List UInt8) : mixL (mixL s) = m2L s := by
  refine mk16_cols (mk16_length _) fun c hc => ?_
  obtain ⟨h0, h1, h2, h3⟩ := mixF_at (mixL s) c
  obtain ⟨m0, m1, m2, m3⟩ := mixF_at s c
  obtain ⟨n0, n1, n2, n3⟩ := m2F_at s c
  unfold mixL at h0 h1 h2 h3 ⊢
  unfold m2L
  rw [mk16_get _ _ (by omega), mk16_get _ _ (by omega), mk16_get _ _ (by omega), mk16_get _ _ (by omega), m0, m1, m2, m3] at h0 h1 h2 h3
  simp only [mix0_eq, mix1_eq, mix2_eq, mix3_eq] at h0 h1 h2 h3
  rw [mk16_get _ _ (by omega), mk16_get _ _ (by omega), mk16_get _ _ (by omega), mk16_get _ _ (by omega), h0, h1, h2, h3, n0, n1, n2, n3]
  refine ⟨?_, ?_, ?_, ?_⟩ <;> rw [mixP_comp] <;> exact mixP_cong (by decide +kernel) _ _ _ _
theorem m2_m2 (s : List UInt8) (h : s.length = 16) : m2L (m2L s) = s := by
  refine mk16_cols h fun c hc => ?_
  obtain ⟨h0, h1, h2, h3⟩ := m2F_at (m2L s) c
  obtain ⟨m0, m1, m2, m3⟩ := m2F_at s c
  unfold m2L at h0 h1 h2 h3 ⊢
  rw [mk16_get _ _ (by omega), mk16_get _ _ (by omega), mk16_get _ _ (by omega), mk16_get _ _ (by omega), m0, m1, m2, m3] at h0 h1 h2 h3
  rw [h0, h1, h2, h3, mixP_comp, mixP_comp, mixP_comp, mixP_comp]
  refine ⟨?_, ?_, ?_, ?_⟩
  · exact (mixP_cong (by decide +kernel) _ _ _ _).trans (mixP_first _ _ _ _)
  · exact (mixP_cong (by decide +kernel) _ _ _ _).trans (mixP_second _ _ _ _)
  · exact (mixP_cong (by decide +kernel) _ _ _ _).trans (mixP_third _ _ _ _)
  · exact (mixP_cong (by decide +kernel) _ _ _ _).trans (mixP_fourth _ _ _ _)
theorem imix_three (s : List UInt8) (h : s.length = 16) : mixL (mixL (mixL s)) = imixL s := by
  have h4 : mixL (mixL (mixL (mixL s))) = s := by rw [mix_mix, mix_mix, m2_m2 s h]
  have := imix_mix (mixL (mixL (mixL s))) (mixL_length _)
  rw [h4] at this
  exact this.symm
/-- A round of the program, forwards and backwards. -/
theorem enc_round (key b : List UInt8) (h : key.length = 16) (k : Nat) (hk : k < 10) : encK (rks key 11) b (k + 1) = xorL (if k < 9 then mixL (turL 1 (repL STab (encK (rks key 11) b k))) else turL 1 (repL STab (encK (rks key 11) b k))) (rk key (k + 1)) := by
  rw [encK_succ, roundL, sh_tur, add_xor key _ h (k + 1) (by omega)]
  by_cases h9 : k < 9
  · rw [if_pos h9, if_pos (by omega)]
  · rw [if_neg h9, if_neg (by omega)]
theorem enc_start (key b : List UInt8) (h : key.length = 16) : encK (rks key 11) b 0 = xorL b (rk key 0) := by rw [encK_zero, add_xor key b h 0 (by omega)]
theorem dec_round (key x : List UInt8) (h : key.length = 16) (k : Nat) (hk : k < 10) :
    decK (rks key 11) x (k + 1) = repL RTab (turL 3 (if 0 < k then mixL (mixL (mixL (xorL (decK (rks key 11) x k) (rk key (10 - k))))) else xorL (decK (rks key 11) x k) (rk key (10 - k)))) := by
  rw [decK_succ, iroundL, ish_tur, add_xor key _ h (10 - k) (by omega)]
  by_cases h0 : 0 < k
  · rw [if_pos h0, if_pos (by omega), imix_three _ (xorL_length _ _)]
  · rw [if_neg h0, if_neg (by omega)]
theorem dec_end (key x : List UInt8) (h : key.length = 16) : decL (rks key 11) x = xorL (decK (rks key 11) x 10) (rk key 0) := by rw [decL, add_xor key _ h 0 (by omega)]
end Go.Proofs.YthkbmpocfpbkoaaDoor

namespace Go.Proofs.YthkbmpocfpbkoaaDoor
open Go.RowKit

end Go.Proofs.YthkbmpocfpbkoaaDoor

namespace Go.Proofs.YthkbmpocfpbkoaaDoor
open Go.RowKit

end Go.Proofs.YthkbmpocfpbkoaaDoor

namespace Go.Proofs.YthkbmpocfpbkoaaDoor
open Go.RowKit

/-- The round keys up to n, and m bytes of the next one. -/
def wk (key : List UInt8) (n m : Nat) : List UInt8 := rks key (n + 1) ++ (List.range m).map (nx (rk key n) (pwd n))
theorem wk_length (key : List UInt8) (h : key.length = 16) (n m : Nat) : (wk key n m).length = 16 * (n + 1) + m := by
  rw [wk, List.length_append, rks_length key h]; simp
theorem wk_old (key : List UInt8) (h : key.length = 16) (n m i : Nat) (hi : i < 16) : (wk key n m).getD (16 * n + i) 0 = (rk key n).getD i 0 := by
  have hl := rks_length key h n
  have hr := rk_length key h n
  rw [wk, rks_succ, List.append_assoc, List.getD_eq_getElem?_getD, List.getD_eq_getElem?_getD, List.getElem?_append_right (by omega), hl, Nat.add_sub_cancel_left, List.getElem?_append_left (by omega)]
theorem wk_new (key : List UInt8) (h : key.length = 16) (n m i : Nat) (hi : i < m) : (wk key n m).getD (16 * (n + 1) + i) 0 = nx (rk key n) (pwd n) i := by
  have hl := rks_length key h (n + 1)
  rw [wk, List.getD_eq_getElem?_getD, List.getElem?_append_right (by omega), hl, Nat.add_sub_cancel_left]
  simp [hi]
theorem kw_wk (key : List UInt8) (n m i : Nat) (f : UInt8) (hb : ∀ j, j < 4 → kb (wk key n m) i f j = nx (rk key n) (pwd n) (m + j)) : kw (wk key n m) i f 4 = wk key n (m + 4) := by
  unfold kw
  rw [show (List.range 4).map (kb (wk key n m) i f) = [kb (wk key n m) i f 0, kb (wk key n m) i f 1, kb (wk key n m) i f 2, kb (wk key n m) i f 3] from rfl, hb 0 (by omega), hb 1 (by omega), hb 2 (by omega), hb 3 (by omega)]
  unfold wk
  rw [List.append_assoc]
  congr 1
  rw [show m + 4 = m + 1 + 1 + 1 + 1 by omega, List.range_succ, List.range_succ, List.range_succ, List.range_succ]
  simp
theorem word_first (key : List UInt8) (h : key.length = 16) (n : Nat) : kw (wk key n 0) (4 * (n + 1)) (pwd n) 4 = wk key n 4 := by
  refine kw_wk key n 0 _ _ fun j hj => ?_
  have o := fun i hi => wk_old key h n 0 i hi
  unfold kb kt
  rw [if_pos (by omega), show 4 * (4 * (n + 1)) - 16 + j = 16 * n + j by omega, o j (by omega), show 4 * (4 * (n + 1)) - 3 = 16 * n + 13 by omega, show 4 * (4 * (n + 1)) - 2 = 16 * n + 14 by omega, show 4 * (4 * (n + 1)) - 1 = 16 * n + 15 by omega, show 4 * (4 * (n + 1)) - 4 = 16 * n + 12 by omega, o 13 (by omega), o 14 (by omega), o 15 (by omega), o 12 (by omega)]
  rcases (by omega : j = 0 ∨ j = 1 ∨ j = 2 ∨ j = 3) with rfl | rfl | rfl | rfl
  · show xr ((rk key n).getD 0 0) (xr (sT ((rk key n).getD 13 0)) (pwd n)) = nx (rk key n) (pwd n) 0
    unfold nx nx0
    simp only [xr_eq, UInt8.xor_assoc]
  · show xr ((rk key n).getD 1 0) (sT ((rk key n).getD 14 0)) = nx (rk key n) (pwd n) 1
    unfold nx nx0
    rfl
  · show xr ((rk key n).getD 2 0) (sT ((rk key n).getD 15 0)) = nx (rk key n) (pwd n) 2
    unfold nx nx0
    rfl
  · show xr ((rk key n).getD 3 0) (sT ((rk key n).getD 12 0)) = nx (rk key n) (pwd n) 3
    unfold nx nx0
    rfl
theorem word_next (key : List UInt8) (h : key.length = 16) (n q : Nat) (hq : q < 3) (f : UInt8) : kw (wk key n (4 * q + 4)) (4 * (n + 1) + (q + 1)) f 4 = wk key n (4 * q + 8) := by
  refine kw_wk key n (4 * q + 4) _ _ fun j hj => ?_
  have o := wk_old key h n (4 * q + 4) (4 * q + 4 + j) (by omega)
  have w := fun i hi => wk_new key h n (4 * q + 4) i hi
  unfold kb kt
  rw [if_neg (by omega), show 4 * (4 * (n + 1) + (q + 1)) - 16 + j = 16 * n + (4 * q + 4 + j) by omega, o,
    show 4 * (4 * (n + 1) + (q + 1)) - 4 = 16 * (n + 1) + 4 * q by omega, show 4 * (4 * (n + 1) + (q + 1)) - 3 = 16 * (n + 1) + (4 * q + 1) by omega, show 4 * (4 * (n + 1) + (q + 1)) - 2 = 16 * (n + 1) + (4 * q + 2) by omega, show 4 * (4 * (n + 1) + (q + 1)) - 1 = 16 * (n + 1) + (4 * q + 3) by omega,
    w (4 * q) (by omega), w (4 * q + 1) (by omega), w (4 * q + 2) (by omega), w (4 * q + 3) (by omega), show 4 * q + 4 + j = (4 * q + j) + 4 by omega, nx_four]
  rcases (by omega : j = 0 ∨ j = 1 ∨ j = 2 ∨ j = 3) with rfl | rfl | rfl | rfl <;> rfl
theorem wk_zero (key : List UInt8) (n : Nat) : wk key n 0 = rks key (n + 1) := by simp [wk]
theorem wk_all (key : List UInt8) (n : Nat) : wk key n 16 = rks key (n + 2) := by
  rw [rks_succ key (n + 1), rk_succ, nxL]
  unfold mk16 wk
  rfl
theorem ks_rks (key : List UInt8) (h : key.length = 16) (n : Nat) : ks key (4 * n) = (rks key (n + 1), pwd n) := by
  induction n with
  | zero =>
    show ks key 0 = _
    rw [ks_zero, rks_succ, rk_zero, pwd_zero, rks_zero]
    rfl
  | succ n ih =>
    rw [show 4 * (n + 1) = 4 * n + 1 + 1 + 1 + 1 by omega, ks_succ, ks_succ, ks_succ, ks_succ, ih]
    have k1 : kf (4 * n + 4) (pwd n) = pwd (n + 1) := by rw [kf, if_pos (by omega), pwd_succ]
    have k2 : kf (4 * n + 1 + 4) (pwd (n + 1)) = pwd (n + 1) := by rw [kf, if_neg (by omega)]
    have k3 : kf (4 * n + 1 + 1 + 4) (pwd (n + 1)) = pwd (n + 1) := by rw [kf, if_neg (by omega)]
    have k4 : kf (4 * n + 1 + 1 + 1 + 4) (pwd (n + 1)) = pwd (n + 1) := by rw [kf, if_neg (by omega)]
    have w1 := word_first key h n
    have w2 := word_next key h n 0 (by omega) (pwd (n + 1))
    have w3 := word_next key h n 1 (by omega) (pwd (n + 1))
    have w4 := word_next key h n 2 (by omega) (pwd (n + 1))
    rw [wk_zero] at w1
    simp only [k1, k2, k3, k4]
    rw [show 4 * n + 4 = 4 * (n + 1) by omega, w1, show 4 * n + 1 + 4 = 4 * (n + 1) + (0 + 1) by omega, w2, show 4 * n + 1 + 1 + 4 = 4 * (n + 1) + (1 + 1) by omega, w3, show 4 * n + 1 + 1 + 1 + 4 = 4 * (n + 1) + (2 + 1) by omega, w4, ← wk_all]
theorem keys_rks (key : List UInt8) (h : key.length = 16) : keysL key = rks key 11 := by
  have := ks_rks key h 10
  rw [keysL, show 40 = 4 * 10 by rfl, this]
end Go.Proofs.YthkbmpocfpbkoaaDoor

namespace Go.Proofs.YthkbmpocfpbkoaaDoor
open Go.RowKit

theorem rb_part {W : World} {B g : Nat} {key : List UInt8} (hk : key.length = 16) (h : Rb W B (some ⟨g, 0, none⟩) (rks key 11)) (n : Nat) (hn : n ≤ 10) : Rb W B (some ⟨g, 16 * n, none⟩) (rk key n) := by
  obtain ⟨z, hz⟩ := rks_part key 11 n (by omega)
  have hl := rks_length key hk n
  have hr := rk_length key hk n
  intro hne
  obtain ⟨b, o, e, hb, hc⟩ := h (by rw [hz]; intro e; have := congrArg List.length e; simp [ubs_length, hr] at this)
  cases e
  refine ⟨g, 16 * n, rfl, hb, fun j u hu => ?_⟩
  have := hc (16 * n + j) u (by
    rw [hz, ubs_append, ubs_append, List.getElem?_append_right (by rw [ubs_length]; omega), ubs_length, hl, Nat.add_sub_cancel_left, List.getElem?_append_left (by
      have := (List.getElem?_eq_some_iff.1 hu).1
      exact this)]
    exact hu)
  rwa [Nat.zero_add] at this
theorem rb_at16 {W : World} {g : Nat} {l : List UInt8} {t : TypeId} (h : At W g (ubs l).toArray t) : Rb W W.heap.size (some ⟨g, 0, none⟩) l :=
  Rd.of_at h 0 (fun j u hj => by rw [Nat.zero_add, List.getElem?_toArray]; exact hj) h.lt
theorem elemB : Tryd.prog.elem 89 = 5 := by kernel_rfl
theorem run_slice_part (g cap o o2 : Nat) (h2 : o2 = o + 16) (hc : o2 ≤ cap ∧ o < cap) (W : World) : (Instr.slice 89 (.slice (some ⟨g, 0, none⟩) 176 cap) (some (.int .i64 (o : Int))) (some (.int .i64 (o2 : Int))) none).run Tryd.prog W = .ok (.slice (some ⟨g, o, none⟩) 16 (cap - o)) W := by
  have h := run_slice_lh (P := Tryd.prog) (w := W) (t := 89) (a := some ⟨g, 0, none⟩) (len := 176) (cap := cap) (by kernel_rfl) .i64 .i64 (o : Int) (o2 : Int) (by omega) (by omega) (by omega)
  rw [h, elemB, run_size8]
  simp only [Result.andThen_ok, Int.toNat_natCast, sliced]
  rw [if_neg (by omega), show o2 - o = 16 by omega]
  simp only [Option.map_some, Addr.add_mid]
  rw [show 0 + o * 1 = o by omega]
/-- Bytes that are the same, compared. -/
theorem bytes_same (S : List UInt8) (n : Nat) (hS : S.length = n) (A B : Option Addr) (c d : Nat) (W : World) (ha : Rb W W.heap.size A S) (hb : Rb W W.heap.size B S) :
    Calls Tryd.prog 49 #[.slice A n c, .slice B n d] W fun e w' => e = .returned (.bool true) ∧ W = w' := by
  have h := bytes_any S S A B c d W ha hb
  rw [hS, beq_self_eq_true] at h
  exact h
end Go.Proofs.YthkbmpocfpbkoaaDoor

namespace Go.Proofs.YthkbmpocfpbkoaaDoor
open Go.RowKit

/-- A place as a counter; a block turned. -/
def placeC (i e : Nat) : List UInt8 := placeL i e ++ [0, 0, 0, 0]
theorem placeC_length (i e : Nat) : (placeC i e).length = 16 := by rw [placeC, List.length_append, placeL_length]; rfl
def turnedL (key : List UInt8) (i e : Nat) (b : List UInt8) : List UInt8 := turnL (rks (keyEnc key) 11) (placeC i e) b
theorem turnedL_length (key : List UInt8) (i e : Nat) (b : List UInt8) : (turnedL key i e b).length = b.length := turnL_length _ _ _
theorem splice_place (i e : Nat) : splice (ubs n16) 0 ((ubs (placeL i e)).take 16) = ubs (placeC i e) := by
  have hl := placeL_length i e
  rw [List.take_of_length_le (by rw [ubs_length, hl]; omega)]
  unfold splice placeC
  rw [List.take_zero, List.nil_append, ubs_append, ubs_length, hl]
  rfl
theorem splice_whole (x y : List UInt8) (n : Nat) (hx : x.length = n) (hy : y.length = n) : splice (ubs x) 0 ((ubs y).take n) = ubs y := by
  rw [List.take_of_length_le (by rw [ubs_length, hy]; exact Nat.le_refl _)]
  unfold splice
  rw [List.take_zero, List.nil_append, List.drop_eq_nil_of_le (by rw [ubs_length, ubs_length, hx, hy]; omega), List.append_nil]
end Go.Proofs.YthkbmpocfpbkoaaDoor

namespace Go.Proofs.YthkbmpocfpbkoaaDoor
open Go.RowKit

def tagL (key : List UInt8) (i e : Nat) (d : List UInt8) : List UInt8 := (macL (keyTag key) (placeL i e ++ d)).take 16
theorem tagL_length (key : List UInt8) (i e : Nat) (d : List UInt8) : (tagL key i e d).length = 16 := by rw [tagL, List.length_take, macL_length]; rfl
theorem own_base {W : World} {base n : Nat} {xs : List Value} {v : Value} (ho : W.ownsRow base 5 1 v n xs) (k : Nat) (hk : v.ownBlock = some k) : base ≤ k := by
  rcases ho.2 with ⟨h1, _⟩ | ⟨g, cap, cur, h1, h2, _⟩
  · subst h1; cases hk
  · subst h1
    have e : g = k := Option.some.inj hk
    omega
/-- A row of a later call's own grows: what was there before that call stays. -/
theorem below_grown {W0 W W' : World} {n : Nat} {xs : List Value} {v : Value} (ho : W.ownsRow W0.heap.size 5 1 v n xs) (hb : Below W0.heap.size W0 W) (hg : W.grownBy W' v.ownBlock) : Below W0.heap.size W0 W' :=
  hb.grown hg hb.size (fun k hk => by
    have := own_base ho k hk
    exact this)
section
variable {P : Program} {ops : Array Oper} {Q : Exit → Act → World → Prop} {md : Region.Mode} {S : World → Prop} {z : Nat}
/-- Two can come up. -/
theorem wpUpto_two {i j : Nat} {oi oj : Oper} {fuel : Nat} {listed : Array Bool} {a : Act} {w : World} (hi : ops[i]? = some oi) (hj : ops[j]? = some oj) (hr : Region.ready md ops listed = [i, j]) (hgi : oi.guard = none) (hgj : oj.guard = none)
    (h1 : ∀ K : Act → World → Prop, RowKit.Hid (∀ a' w', (i ≠ z → S w') → wpUpto P md ops Q S z fuel (listed.setIfInBounds i true) a' w' → K a' w') → oi.wp P a w K Q)
    (h2 : ∀ K : Act → World → Prop, RowKit.Hid (∀ a' w', (j ≠ z → S w') → wpUpto P md ops Q S z fuel (listed.setIfInBounds j true) a' w' → K a' w') → oj.wp P a w K Q) : wpUpto P md ops Q S z (fuel + 1) listed a w := by
  refine ⟨fun h0 => (by rw [hr] at h0; cases h0), fun k hk => ?_⟩
  rw [hr] at hk
  unfold wpOp
  rcases (by simpa using hk : k = i ∨ k = j) with rfl | rfl
  · rw [hi]
    simp only [Region.wanted, hgi, if_true]
    exact .inl (h1 _ (fun _ _ h1 h2 => ⟨h1, h2⟩))
  · rw [hj]
    simp only [Region.wanted, hgj, if_true]
    exact .inl (h2 _ (fun _ _ h1 h2 => ⟨h1, h2⟩))
end
theorem own_alloc1 {w W : World} {n : Nat} {bs : List UInt8} {v : Value} (h : Own1 w n bs v W) (o : Obj) : Own1 w n bs v (W.alloc o) := ⟨h.len, own_fr (S := fun _ => False) h.own ((Fr.refl _ _).alloc o) (fun _ _ => id), h.below.alloc h.below.size o⟩
theorem splice_first (h : List UInt8) (hl : h.length = 32) : splice (ubs n16) 0 ((ubs h).take 16) = ubs (h.take 16) := splice_take h hl
end Go.Proofs.YthkbmpocfpbkoaaDoor

namespace Go.Proofs.YthkbmpocfpbkoaaDoor
open Go.RowKit

/-- A sealed block's cells. -/
def sv (e : Nat) (d t : List UInt8) : List Value := .int .u64 (e : Int) :: (ubs d ++ ubs t)
theorem sv_length (e : Nat) (d t : List UInt8) (hd : d.length = 32) (ht : t.length = 16) : (sv e d t).length = 49 := by simp [sv, ubs_length, hd, ht]
theorem sv_all (e : Nat) (d t : List UInt8) : (sv e d t).toArray.all (·.oneCell') = true :=
  Array.all_eq_true_iff_forall_mem.2 (fun v hv => by
    simp only [sv, List.mem_toArray, List.mem_cons, List.mem_append] at hv
    rcases hv with rfl | hv | hv
    · rfl
    · exact ubs_one d v hv
    · exact ubs_one t v hv)
theorem sv_epoch {W : World} {g e : Nat} {d t : List UInt8} {T : TypeId} (h : At W g (sv e d t).toArray T) : W.cell? ⟨g, 0, none⟩ = some (.int .u64 (e : Int)) := by
  rw [h.cell]
  rfl
theorem sv_data {W : World} {g e : Nat} {d t : List UInt8} {T : TypeId} (h : At W g (sv e d t).toArray T) : W.rangeAt g 1 (ubs d) :=
  range_vals (a := [.int .u64 (e : Int)]) (m := ubs d) (z := ubs t) h rfl
theorem sv_tag {W : World} {g e : Nat} {d t : List UInt8} {T : TypeId} (h : At W g (sv e d t).toArray T) (hd : d.length = 32) : W.rangeAt g 33 (ubs t) := by
  have := range_vals (a := .int .u64 (e : Int) :: ubs d) (m := ubs t) (z := []) h (by simp [sv])
  rw [List.length_cons, ubs_length, hd] at this
  exact this
end Go.Proofs.YthkbmpocfpbkoaaDoor

namespace Go.Proofs.YthkbmpocfpbkoaaDoor
open Go.RowKit

def putL (e : Nat) (d t : List UInt8) : List UInt8 := toBE 8 e ++ d ++ t
theorem putL_length (e : Nat) (d t : List UInt8) (hd : d.length = 32) (ht : t.length = 16) : (putL e d t).length = 56 := by simp [putL, toBE_length, hd, ht]
/-- What a sealed block's parts read as. -/
theorem sv_rb_data {W : World} {g e : Nat} {d t : List UInt8} {T : TypeId} (h : At W g (sv e d t).toArray T) : Rb W W.heap.size (some ⟨g, 1, none⟩) d := fun _ => ⟨g, 1, rfl, h.lt, sv_data h⟩
theorem sv_rb_tag {W : World} {g e : Nat} {d t : List UInt8} {T : TypeId} (h : At W g (sv e d t).toArray T) (hd : d.length = 32) : Rb W W.heap.size (some ⟨g, 33, none⟩) t := fun _ => ⟨g, 33, rfl, h.lt, sv_tag h hd⟩
end Go.Proofs.YthkbmpocfpbkoaaDoor

namespace Go.Proofs.YthkbmpocfpbkoaaDoor
open Go.RowKit

end Go.Proofs.YthkbmpocfpbkoaaDoor

namespace Go.Proofs.YthkbmpocfpbkoaaDoor
open Go.RowKit

attribute [local go_sem] Oper.semAt_some

/-- What a round keeps: every row of cells but those of S. -/
structure KeepsOut (S : Nat → Prop) (A B : World) : Prop where
  size : A.heap.size ≤ B.heap.size
  same : ∀ (k : Nat) (cs : Array Value) (t : TypeId) (fr : Nat × Nat), ¬ S k → A.heap[k]? = some (.cells cs t fr) → B.heap[k]? = some (.cells cs t fr)
theorem KeepsOut.refl (S : Nat → Prop) (A : World) : KeepsOut S A A := ⟨Nat.le_refl _, fun _ _ _ _ _ h => h⟩
theorem KeepsOut.trans {S : Nat → Prop} {A B D : World} (h : KeepsOut S A B) (k : KeepsOut S B D) : KeepsOut S A D := ⟨Nat.le_trans h.size k.size, fun i cs t fr hi h0 => k.same i cs t fr hi (h.same i cs t fr hi h0)⟩
theorem KeepsOut.putObj {S : Nat → Prop} (W : World) (l : Nat) (o o' : Obj) (h : W.heap[l]? = some o) (hc : o.isCells = false) : KeepsOut S W (W.putObj l o') :=
  ⟨(grownBy_putObj' W l o').size, fun k cs t fr _ h0 => by
    by_cases e : k = l
    · subst e
      rw [h] at h0
      cases h0
      cases hc
    · exact ((grownBy_putObj' W l o').block k (Array.getElem?_eq_some_iff.1 h0).1 (by simpa using e)).trans h0⟩
theorem KeepsOut.of_below {S : Nat → Prop} {A B : World} (h : Below A.heap.size A B) : KeepsOut S A B := ⟨h.size, fun k _ _ _ _ h0 => (h.block k (Array.getElem?_eq_some_iff.1 h0).1).trans h0⟩
theorem KeepsOut.setRow {S : Nat → Prop} (A : World) (g : Nat) (hg : S g) (cs : Array Value) : KeepsOut S A (A.setRow g cs) := ⟨by simp, fun k _ _ _ hk h0 => (setRow_other A g k cs (fun e => hk (e ▸ hg))).trans h0⟩
theorem KeepsOut.setCell {S : Nat → Prop} (A : World) (p : Addr) (hg : S p.block) (v : Value) : KeepsOut S A (A.setCell p v) := ⟨by simp [World.setCell], fun k _ _ _ hk h0 => (Below.heap_setCell A p v k (fun e => hk (e ▸ hg))).trans h0⟩
theorem KeepsOut.at_ {S : Nat → Prop} {g : Nat} {A B : World} {cs : Array Value} {t : TypeId} (h : KeepsOut S A B) (hA : At A g cs t) (hg : ¬ S g) : At B g cs t := h.same g cs t (0, 0) hg hA
theorem grown_setRow (W : World) (g : Nat) (cs : Array Value) : W.grownBy (W.setRow g cs) (some g) := ⟨rfl, rfl, rfl, by simp, fun k _ hk => setRow_other W g k cs (fun e => hk (by rw [e]))⟩
/-- Block k of a stream as it is handed to the body. -/
def elB (key c : List UInt8) (k : Nat) : Array Value := #[.agg (ubs (encL (rks key 11) (nextL c k))).toArray]

end Go.Proofs.YthkbmpocfpbkoaaDoor

namespace Go.Proofs.YthkbmpocfpbkoaaDoor
open Go.RowKit Go.Shelf

attribute [local go_sem] Oper.semAt_some

/-- Byte i turned. -/
def pf (keys c b : List UInt8) (i : Nat) : UInt8 := xr (b.getD i 0) ((encL keys (nextL c (i / 16))).getD (i % 16) 0)
theorem strk_get (keys c : List UInt8) (m i : Nat) (h : i < 16 * m) : (strk keys c m).getD i 0 = (encL keys (nextL c (i / 16))).getD (i % 16) 0 := by
  induction m with
  | zero => omega
  | succ m ih =>
    rw [strk_succ, List.getD_eq_getElem?_getD]
    by_cases h2 : i < 16 * m
    · rw [List.getElem?_append_left (by rw [strk_length]; exact h2), ← ih h2, List.getD_eq_getElem?_getD]
    · rw [List.getElem?_append_right (by rw [strk_length]; omega), strk_length, show i / 16 = m by omega, show i - 16 * m = i % 16 by omega, List.getD_eq_getElem?_getD]
theorem streamL_get (keys c : List UInt8) (n i : Nat) (h : i < n) : (streamL keys c n).getD i 0 = (encL keys (nextL c (i / 16))).getD (i % 16) 0 := by
  rw [← strk_get keys c ((n + 15) / 16) i (by omega), streamL, List.getD_eq_getElem?_getD, List.getD_eq_getElem?_getD, List.getElem?_take, if_pos h]
theorem pf_all (keys c b : List UInt8) : upd b (pf keys c b) b.length = turnL keys c b := by
  rw [updn_all, turnL, trL, streamL_length]
  refine List.map_congr_left fun i hi => ?_
  rw [pf, trF, streamL_get keys c b.length i (List.mem_range.1 hi)]
  unfold xr
  exact UInt8.xor_comm _ _
/-- The slice that is left in round k. -/
def restV (g L k : Nat) : Value := .slice (some ⟨g, 16 * k, none⟩) (L - 16 * k) (L - 16 * k)
/-- What holds between the rounds of Turn. -/
structure TuW (w : World) (keys c b : List UInt8) (g T k : Nat) (W : World) : Prop where
  num : k = 0 ∨ 16 * k < b.length
  rest : At W T #[restV g b.length k] 89
  row : At W g (ubs (upd b (pf keys c b) (min (16 * k) b.length))).toArray 5
  below : Below w.heap.size w W
theorem at_free {W W' : World} {g B : Nat} {cs : Array Value} {t : TypeId} {row : Option Nat} (h : At W g cs t) (hB : g < B) (hg : W.grownBy W' row) (hr : ∀ r, row = some r → B ≤ r) : At W' g cs t :=
  (hg.block g h.lt (fun e => by have := hr g e.symm; omega)).trans h
theorem TuW.free {w : World} {keys c b : List UInt8} {g T B : Nat} (hg : g < B) (hT : T < B) (hw : w.heap.size ≤ B) : FreeFrom B (fun k W => TuW w keys c b g T k W) := fun _ _ _ _ h hg' hr =>
  ⟨h.num, at_free h.rest hT hg' hr, at_free h.row hg hg' hr, h.below.grown hg' h.below.size (fun k e => Nat.le_trans hw (hr k e))⟩
theorem TuW.start {w W : World} {keys c b : List UInt8} {g T L : Nat} (hL : L = b.length) (h1 : At W T #[.slice (some ⟨g, 0, none⟩) L L] 89) (h2 : At W g (ubs b).toArray 5) (h3 : Below w.heap.size w W) : TuW w keys c b g T 0 W :=
  ⟨.inl rfl, by subst hL; exact h1, by rw [Nat.mul_zero, Nat.zero_min, upd_zero]; exact h2, h3⟩
theorem min_16 (ats : Array TypeId) (ty : TypeId) (r : Nat) : Builtin.min_ ats ty #[.int .i64 16, .int .i64 (r : Int)] = pure (.int .i64 ((min 16 r : Nat) : Int)) := by
  have h : (if (r : Int) < 16 then (r : Int) else 16) = ((min 16 r : Nat) : Int) := by split <;> omega
  simp [Builtin.min_, Builtin.min2, h]
/-- What a body keeps. -/
structure Kept (S : Nat → Prop) (A B : World) : Prop where
  oth : KeepsOthers A B
  out : KeepsOut S A B
theorem Kept.refl (S : Nat → Prop) (A : World) : Kept S A A := ⟨KeepsOthers.refl A, KeepsOut.refl S A⟩
theorem Kept.trans {S : Nat → Prop} {A B D : World} (h : Kept S A B) (k : Kept S B D) : Kept S A D := ⟨h.oth.trans k.oth, h.out.trans k.out⟩
theorem Kept.setCell {S : Nat → Prop} {A B : World} (h : Kept S A B) (p : Addr) (hp : S p.block) (v : Value) : Kept S A (B.setCell p v) := ⟨h.oth.trans (KeepsOthers.setCell _ _ _), h.out.trans (KeepsOut.setCell _ _ hp _)⟩
theorem Kept.drewN {S : Nat → Prop} {A B : World} (h : Kept S A B) (n : Nat) : Kept S A (B.drewN n) := ⟨⟨h.oth.size, h.oth.same⟩, ⟨h.out.size, h.out.same⟩⟩
theorem Kept.of_below {S : Nat → Prop} {A B : World} (h : Below A.heap.size A B) : Kept S A B := ⟨others_of_below h, KeepsOut.of_below h⟩
end Go.Proofs.YthkbmpocfpbkoaaDoor

namespace Go.Proofs.YthkbmpocfpbkoaaDoor
open Go.RowKit

theorem turnL_get7 (keys c b : List UInt8) (i : Nat) (h : i < b.length) : (turnL keys c b).getD i 0 = xr ((streamL keys c b.length).getD i 0) (b.getD i 0) := by
  simp [turnL, trL, trF, streamL_length, h]
theorem turn_twice7 (keys c b : List UInt8) : turnL keys c (turnL keys c b) = b := by
  have hl : (turnL keys c (turnL keys c b)).length = b.length := by rw [turnL_length, turnL_length]
  refine List.ext_getElem hl fun i h1 h2 => ?_
  have h3 : (turnL keys c (turnL keys c b)).getD i 0 = b.getD i 0 := by
    rw [turnL_get7 _ _ _ _ (by rw [turnL_length]; exact h2), turnL_get7 _ _ _ _ h2, turnL_length]
    unfold xr
    rw [← UInt8.xor_assoc, UInt8.xor_self, UInt8.zero_xor]
  simpa [List.getD_eq_getElem?_getD, h1, h2] using h3
theorem turned_twice (key : List UInt8) (i e : Nat) (b : List UInt8) : turnedL key i e (turnedL key i e b) = b := turn_twice7 _ _ _
/-- The first sixteen bytes are turned by the counter's own block. -/
theorem turn_first (keys c b : List UInt8) (hc : c.length = 16) (i : Nat) (hi : i < 16) (hb : 16 ≤ b.length) : (turnL keys c b).getD i 0 = xr ((encL keys c).getD i 0) (b.getD i 0) := by
  rw [turnL_get7 _ _ _ _ (by omega), streamL_get _ _ _ _ (by omega), show i / 16 = 0 by omega, nextL_zero c hc, show i % 16 = i by omega]
theorem turn_inj (keys c d b : List UInt8) (hc : c.length = 16) (hd : d.length = 16) (hb : 16 ≤ b.length) (h : turnL keys c b = turnL keys d b) : c = d := by
  have he : encL keys c = encL keys d := by
    refine List.ext_getElem (by rw [encL_length, encL_length]) fun i h1 h2 => ?_
    have hi : i < 16 := by rwa [encL_length] at h1
    have h3 := congrArg (fun l => l.getD i 0) h
    simp only [turn_first keys c b hc i hi hb, turn_first keys d b hd i hi hb] at h3
    unfold xr at h3
    have h4 : (encL keys c).getD i 0 = (encL keys d).getD i 0 := by
      have := congrArg (· ^^^ b.getD i 0) h3
      simpa [UInt8.xor_assoc] using this
    simpa [List.getD_eq_getElem?_getD, h1, h2] using h4
  rw [← dec_enc keys c hc, he, dec_enc keys d hd]
theorem toBE_inj_of {k n m : Nat} (hn : n < 256 ^ k) (hm : m < 256 ^ k) (h : toBE k n = toBE k m) : n = m := by
  have := congrArg beN h
  rwa [beN_toBE, beN_toBE, Nat.mod_eq_of_lt hn, Nat.mod_eq_of_lt hm] at this
theorem placeC_inj {i e j f : Nat} (hi : i ≤ 4294967295) (hj : j ≤ 4294967295) (he : e < 18446744073709551616) (hf : f < 18446744073709551616) (h : placeC i e = placeC j f) : i = j ∧ e = f := by
  unfold placeC placeL at h
  rw [List.append_assoc, List.append_assoc] at h
  obtain ⟨h1, h2⟩ := List.append_inj h (by rw [toBE_length, toBE_length])
  obtain ⟨h3, -⟩ := List.append_inj h2 (by rw [toBE_length, toBE_length])
  exact ⟨toBE_inj_of (by omega) (by omega) h1, toBE_inj_of (by omega) (by omega) h3⟩
theorem rightB_le {i e : Nat} (h : rightB i e = true) : i ≤ 4294967295 ∧ e ≠ 0 ∧ e ≠ 18446744073709551615 := by
  simp [rightB] at h
  exact ⟨h.1.1, h.1.2, h.2⟩
/-- Blocks at unlike places have unlike data. -/
theorem turned_apart {key b : List UInt8} {i e j f : Nat} (hb : b.length = 32) (hi : rightB i e = true) (hj : rightB j f = true) (he : e < 18446744073709551616) (hf : f < 18446744073709551616) (h : turnedL key i e b = turnedL key j f b) : i = j ∧ e = f :=
  placeC_inj (rightB_le hi).1 (rightB_le hj).1 he hf (turn_inj _ _ _ b (placeC_length i e) (placeC_length j f) (by omega) h)
end Go.Proofs.YthkbmpocfpbkoaaDoor
