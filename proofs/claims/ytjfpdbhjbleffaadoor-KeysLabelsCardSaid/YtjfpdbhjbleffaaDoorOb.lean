/-
  Arguments opened: arrays and slices of bytes, single bytes, as they came in.
-/
import Derived.Test.YtjfpdbhjbleffaaDoorOa
import Derived.Test.YtjfpdbhjbleffaaDoorLaw
import Derived.Test.YtjfpdbhjbleffaaDoorProg
import Derived.SizedLaws
import Derived.Deep.Slices
import Derived.DataReads
namespace Go.Proofs.YtjfpdbhjbleffaaDoor
open Go.ChangeShapes Go.WideShapes Go.ChangeAt Go.RowKit Go.Deep

section
variable {H : Type} {enc : TypeId × Value → H} {W : World} {sp : Nat → Bool} {fuel : Nat} {x : DataW H × List MemPlace}
theorem cellsA16 : Tryd.prog.cellsOf 22 = 16 := by kernel_rfl
/-- An array of bytes that came in. -/
theorem open_block {n : Nat} {T : TypeId} {cs : List Value} (hT : Tryd.prog.underlying T = some (.array n 5)) (hl : cs.length = n) (h : DataW.trod enc Tryd.prog W 0 sp true fuel T cs = some x) : ∃ bs : List UInt8, cs = ubs bs ∧ bs.length = n := by
  obtain ⟨zs, h1, h2, h3⟩ := open_array hT Tryd.underlying5 cellsU8 hl h
  exact ⟨zs.map fun z => UInt8.ofNat z.toNat, by rw [h1, bytes_of h3], by simp [h2]⟩
/-- A byte that came in. -/
theorem open_byte {cs : List Value} (h : DataW.trod enc Tryd.prog W 0 sp true fuel 5 cs = some x) : ∃ b : UInt8, cs = [.int .u8 (b.toNat : Int)] := by
  obtain ⟨z, e, _, hw⟩ := DataW.trod_int Tryd.underlying5 h
  refine ⟨UInt8.ofNat z.toNat, ?_⟩
  rw [e]
  simp [Lit.wf, IntKind.min, IntKind.max, IntKind.signed, IntKind.bits] at hw
  congr 2
  simp
  omega
end
end Go.Proofs.YtjfpdbhjbleffaaDoor
