/-
  Blocks at unlike places are turned by unlike streams; what is turned twice is as it was. Nothing here walks.
-/
import Derived.Test.YtnaihcoafgigcaaDoorSc
import Derived.Test.YtnaihcoafgigcaaDoorGi
import Derived.Test.YtnaihcoafgigcaaDoorZ1
namespace Go.Proofs.YtnaihcoafgigcaaDoor
open Go.RowKit

theorem turnL_get7 (keys c b : List UInt8) (i : Nat) (h : i < b.length) : (turnL keys c b).getD i 0 = xr ((streamL keys c b.length).getD i 0) (b.getD i 0) := by
  simp [turnL, trL, trF, streamL_length, h]
theorem turn_twice7 (keys c b : List UInt8) : turnL keys c (turnL keys c b) = b := by
  have hl : (turnL keys c (turnL keys c b)).length = b.length := by rw [turnL_length, turnL_length]
  refine List.ext_getElem hl fun i h1 h2 => ?_
  have h3 : (turnL keys c (turnL keys c b)).getD i 0 = b.getD i 0 := by
    rw [turnL_get7 _ _ _ _ (by rw [turnL_length]; exact h2), turnL_get7 _ _ _ _ h2, turnL_length]
    unfold xr
    rw [← UInt8.xor_assoc, UInt8.xor_self, UInt8.zero_xor]
  simpa [List.getD_eq_getElem?_getD, h1, h2] using h3
theorem turned_twice (key : List UInt8) (i e : Nat) (b : List UInt8) : turnedL key i e (turnedL key i e b) = b := turn_twice7 _ _ _
/-- The first sixteen bytes are turned by the counter's own block. -/
theorem turn_first (keys c b : List UInt8) (hc : c.length = 16) (i : Nat) (hi : i < 16) (hb : 16 ≤ b.length) : (turnL keys c b).getD i 0 = xr ((encL keys c).getD i 0) (b.getD i 0) := by
  rw [turnL_get7 _ _ _ _ (by omega), streamL_get _ _ _ _ (by omega), show i / 16 = 0 by omega, nextL_zero c hc, show i % 16 = i by omega]
theorem turn_inj (keys c d b : List UInt8) (hc : c.length = 16) (hd : d.length = 16) (hb : 16 ≤ b.length) (h : turnL keys c b = turnL keys d b) : c = d := by
  have he : encL keys c = encL keys d := by
    refine List.ext_getElem (by rw [encL_length, encL_length]) fun i h1 h2 => ?_
    have hi : i < 16 := by rwa [encL_length] at h1
    have h3 := congrArg (fun l => l.getD i 0) h
    simp only [turn_first keys c b hc i hi hb, turn_first keys d b hd i hi hb] at h3
    unfold xr at h3
    have h4 : (encL keys c).getD i 0 = (encL keys d).getD i 0 := by
      have := congrArg (· ^^^ b.getD i 0) h3
      simpa [UInt8.xor_assoc] using this
    simpa [List.getD_eq_getElem?_getD, h1, h2] using h4
  rw [← dec_enc keys c hc, he, dec_enc keys d hd]
theorem toBE_inj_of {k n m : Nat} (hn : n < 256 ^ k) (hm : m < 256 ^ k) (h : toBE k n = toBE k m) : n = m := by
  have := congrArg beN h
  rwa [beN_toBE, beN_toBE, Nat.mod_eq_of_lt hn, Nat.mod_eq_of_lt hm] at this
theorem placeC_inj {i e j f : Nat} (hi : i ≤ 4294967295) (hj : j ≤ 4294967295) (he : e < 18446744073709551616) (hf : f < 18446744073709551616) (h : placeC i e = placeC j f) : i = j ∧ e = f := by
  unfold placeC placeL at h
  rw [List.append_assoc, List.append_assoc] at h
  obtain ⟨h1, h2⟩ := List.append_inj h (by rw [toBE_length, toBE_length])
  obtain ⟨h3, -⟩ := List.append_inj h2 (by rw [toBE_length, toBE_length])
  exact ⟨toBE_inj_of (by omega) (by omega) h1, toBE_inj_of (by omega) (by omega) h3⟩
theorem rightB_le {i e : Nat} (h : rightB i e = true) : i ≤ 4294967295 ∧ e ≠ 0 ∧ e ≠ 18446744073709551615 := by
  simp [rightB] at h
  exact ⟨h.1.1, h.1.2, h.2⟩
/-- Blocks at unlike places have unlike data. -/
theorem turned_apart {key b : List UInt8} {i e j f : Nat} (hb : b.length = 32) (hi : rightB i e = true) (hj : rightB j f = true) (he : e < 18446744073709551616) (hf : f < 18446744073709551616) (h : turnedL key i e b = turnedL key j f b) : i = j ∧ e = f :=
  placeC_inj (rightB_le hi).1 (rightB_le hj).1 he hf (turn_inj _ _ _ b (placeC_length i e) (placeC_length j f) (by omega) h)
end Go.Proofs.YtnaihcoafgigcaaDoor
