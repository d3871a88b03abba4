/-
  A pair of numbers of 64 bits that came in.
-/
import Derived.Test.YthbppiobadcbkaaDoorY5
namespace Go.Proofs.YthbppiobadcbkaaDoor
open Go.ChangeShapes Go.WideShapes Go.ChangeAt Go.RowKit Go.Deep

section
variable {H : Type} {enc : TypeId × Value → H} {W : World} {sp : Nat → Bool} {fuel : Nat} {x : DataW H × List MemPlace}
theorem cellsU64 : Tryd.prog.cellsOf 22 = 1 := by kernel_rfl
theorem open_pair64 {cs : List Value} (hl : cs.length = 2) (h : DataW.trod enc Tryd.prog W 0 sp true fuel 58 cs = some x) :
    ∃ a b : Nat, cs = [.int .u64 (a : Int), .int .u64 (b : Int)] ∧ a < 18446744073709551616 ∧ b < 18446744073709551616 := by
  obtain ⟨zs, h1, h2, h3⟩ := open_array Tryd.underlying58 Tryd.underlying22 cellsU64 hl h
  rcases zs with _ | ⟨a, _ | ⟨b, _ | ⟨c, zs⟩⟩⟩
  · simp at h2
  · simp at h2
  · obtain ⟨a1, a2⟩ := u64_of (h3 a (by simp))
    obtain ⟨b1, b2⟩ := u64_of (h3 b (by simp))
    exact ⟨a.toNat, b.toNat, by rw [h1, ← a1, ← b1]; rfl, a2, b2⟩
  · simp at h2
end
end Go.Proofs.YthbppiobadcbkaaDoor
