/-
  Numbers of 64 bits that came in.
-/
import Derived.Test.YtjfpdbhjbleffaaDoorOb
namespace Go.Proofs.YtjfpdbhjbleffaaDoor
open Go.ChangeShapes Go.WideShapes Go.ChangeAt Go.RowKit Go.Deep

section
variable {H : Type} {enc : TypeId × Value → H} {W : World} {sp : Nat → Bool} {fuel : Nat} {x : DataW H × List MemPlace}
theorem u64_of {z : Int} (h : (Lit.int .u64 z).wf = true) : z = (z.toNat : Int) ∧ z.toNat < 18446744073709551616 := by
  simp [Lit.wf, IntKind.min, IntKind.max, IntKind.signed, IntKind.bits] at h
  omega
theorem open_u64 {cs : List Value} (h : DataW.trod enc Tryd.prog W 0 sp true fuel 24 cs = some x) : ∃ n : Nat, cs = [.int .u64 (n : Int)] ∧ n < 18446744073709551616 := by
  obtain ⟨z, e, _, hw⟩ := DataW.trod_int Tryd.underlying24 h
  obtain ⟨h1, h2⟩ := u64_of hw
  exact ⟨z.toNat, by rw [e, ← h1], h2⟩
end
end Go.Proofs.YtjfpdbhjbleffaaDoor
