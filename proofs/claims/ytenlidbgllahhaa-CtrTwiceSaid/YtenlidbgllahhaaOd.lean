/-
  A pair of numbers of 64 bits that came in.
-/
import Derived.Test.YtenlidbgllahhaaOc
namespace Go.Proofs.Ytenlidbgllahhaa
open Go.ChangeShapes Go.WideShapes Go.ChangeAt Go.RowKit Go.Deep

section
variable {H : Type} {enc : TypeId × Value → H} {W : World} {sp : Nat → Bool} {fuel : Nat} {x : DataW H × List MemPlace}
theorem cellsU64 : Try.prog.cellsOf 46 = 1 := by kernel_rfl
theorem open_pair64 {cs : List Value} (hl : cs.length = 2) (h : DataW.trod enc Try.prog W 0 sp true fuel 54 cs = some x) :
    ∃ a b : Nat, cs = [.int .u64 (a : Int), .int .u64 (b : Int)] ∧ a < 18446744073709551616 ∧ b < 18446744073709551616 := by
  obtain ⟨zs, h1, h2, h3⟩ := open_array Try.underlying54 Try.underlying46 cellsU64 hl h
  rcases zs with _ | ⟨a, _ | ⟨b, _ | ⟨c, zs⟩⟩⟩
  · simp at h2
  · simp at h2
  · obtain ⟨a1, a2⟩ := u64_of (h3 a (by simp))
    obtain ⟨b1, b2⟩ := u64_of (h3 b (by simp))
    exact ⟨a.toNat, b.toNat, by rw [h1, ← a1, ← b1]; rfl, a2, b2⟩
  · simp at h2
end
end Go.Proofs.Ytenlidbgllahhaa
