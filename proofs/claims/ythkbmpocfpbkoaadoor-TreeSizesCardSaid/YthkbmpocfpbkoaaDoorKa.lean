/-
  The document's Number: a number's bytes.
-/
import Derived.Test.YthkbmpocfpbkoaaDoorY1
import Derived.Test.YthkbmpocfpbkoaaDoorY3
namespace Go.Proofs.YthkbmpocfpbkoaaDoor
open Go.RowKit

/-- The last j bytes of a number, behind noughts. -/
def nbk (s n j : Nat) : List UInt8 := List.replicate (s - j) 0 ++ toBE j n
theorem nbk_zero (s n : Nat) : nbk s n 0 = List.replicate s 0 := by rw [nbk, toBE_zero]; simp
theorem nbk_all (s n : Nat) : nbk s n s = toBE s n := by simp [nbk]
theorem nbk_length (s n j : Nat) (h : j ≤ s) : (nbk s n j).length = s := by simp [nbk, toBE_length]; omega
theorem nbk_succ (s n j : Nat) (h : j < s) : nbk s n (j + 1) = (nbk s n j).set (s - 1 - j) (UInt8.ofNat (n / 256 ^ j)) := by
  unfold nbk
  rw [toBE_cons, show s - j = (s - 1 - j) + 1 by omega, List.replicate_succ', List.append_assoc, List.set_append_right _ _ (by simp), List.length_replicate, Nat.sub_self, show s - (j + 1) = s - 1 - j by omega]
  rfl
theorem at_ub_putG {w : World} {g : Nat} {t : TypeId} {bs : List UInt8} (h : At w g (ubs bs).toArray t) (i : Nat) (b : UInt8) : At (w.setCell ⟨g, i, none⟩ (.int .u8 (b.toNat : Int))) g (ubs (bs.set i b)).toArray t := by
  have := h.put i (ub b)
  have e : ubs (bs.set i b) = (ubs bs).set i (ub b) := by simp [ubs, List.map_set]
  rw [e, ← List.setIfInBounds_toArray]
  exact this
theorem wrapNB (n : Nat) : IntKind.u8.wrap ((n % 256 : Nat) : Int) = ((UInt8.ofNat n).toNat : Int) := by
  rw [UInt8.toNat_ofNat']
  simp [IntKind.wrap, IntKind.signed, IntKind.bits]
theorem wrapN64 (n : Nat) (h : n < 18446744073709551616) : IntKind.u64.wrap (n : Int) = (n : Int) := by
  simp [IntKind.wrap, IntKind.signed, IntKind.bits]
  omega
end Go.Proofs.YthkbmpocfpbkoaaDoor
