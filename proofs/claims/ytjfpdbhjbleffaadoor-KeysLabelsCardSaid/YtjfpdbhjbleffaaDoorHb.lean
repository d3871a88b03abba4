/-
  Comparing bytes without haste.
-/
import Derived.Test.YtjfpdbhjbleffaaDoorHa
namespace Go.Proofs.YtjfpdbhjbleffaaDoor
open Go.RowKit

theorem nxor_zero (a b : Nat) : a ^^^ b = 0 ↔ a = b :=
  ⟨fun h => by
    have := congrArg (· ^^^ b) h
    simpa [Nat.xor_assoc, Nat.xor_self] using this, fun h => by rw [h, Nat.xor_self]⟩
/-- What differs ahead of place k, the lengths first. -/
def difk (a b : List UInt8) : Nat → Nat
  | 0 => a.length ^^^ b.length
  | k + 1 => difk a b k ||| (a.getD k 0 ^^^ b.getD k 0).toNat
theorem difk_zero (a b : List UInt8) : difk a b 0 = a.length ^^^ b.length := rfl
theorem difk_succ (a b : List UInt8) (k : Nat) : difk a b (k + 1) = difk a b k ||| (a.getD k 0 ^^^ b.getD k 0).toNat := rfl
theorem difk_iff (a b : List UInt8) (k : Nat) : difk a b k = 0 ↔ a.length = b.length ∧ ∀ j, j < k → a.getD j 0 = b.getD j 0 := by
  induction k with
  | zero => rw [difk_zero, nxor_zero]; simp
  | succ k ih =>
    rw [difk_succ, Nat.or_eq_zero_iff, ih]
    have hx : (a.getD k 0 ^^^ b.getD k 0).toNat = 0 ↔ a.getD k 0 = b.getD k 0 := by
      rw [UInt8.toNat_xor, nxor_zero]
      exact UInt8.toNat_inj
    rw [hx]
    constructor
    · rintro ⟨⟨h1, h2⟩, h3⟩
      refine ⟨h1, fun j hj => ?_⟩
      rcases Nat.lt_or_ge j k with h | h
      · exact h2 j h
      · obtain rfl : j = k := by omega
        exact h3
    · rintro ⟨h1, h2⟩
      exact ⟨⟨h1, fun j hj => h2 j (by omega)⟩, h2 k (by omega)⟩
theorem difk_end (a b : List UInt8) (k : Nat) (h : k = max a.length b.length) : ((difk a b k : Int) == 0) = (a == b) := by
  rw [Bool.eq_iff_iff, beq_iff_eq, beq_iff_eq]
  have h1 : ((difk a b k : Int) = 0) ↔ difk a b k = 0 := by omega
  rw [h1, difk_iff]
  constructor
  · rintro ⟨h2, h3⟩
    refine List.ext_getElem h2 fun i hi hi2 => ?_
    have := h3 i (by omega)
    simpa [hi, hi2] using this
  · rintro rfl
    exact ⟨rfl, fun _ _ => rfl⟩
attribute [irreducible] difk
end Go.Proofs.YtjfpdbhjbleffaaDoor
