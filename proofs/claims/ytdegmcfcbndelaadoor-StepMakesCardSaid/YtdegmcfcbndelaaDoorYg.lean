/-
  Layer 12, the document's side: Cut.
-/
import Derived.Test.YtdegmcfcbndelaaDoorL6
import Derived.Test.YtdegmcfcbndelaaDoorK8
namespace Go.Proofs.YtdegmcfcbndelaaDoor
open Go.RowKit

/-- A cut's memory. -/
structure QtW (W : World) (root leaf : List UInt8) (V : World) : Prop where
  b : Below W.heap.size W V
  a : At V W.heap.size (ubs root).toArray 25
  l : At V (W.heap.size + 1) (ubs leaf).toArray 25
  z : At V (W.heap.size + 2) (ubs n32).toArray 25
theorem QtW.new {W V V' : World} {root leaf : List UInt8} (k : QtW W root leaf V) (hb : Below V.heap.size V V') : QtW W root leaf V' := ⟨k.b.trans (hb.mono k.b.size), k.a.new_ hb, k.l.new_ hb, k.z.new_ hb⟩
theorem QtW.drew {W V : World} {root leaf : List UInt8} (k : QtW W root leaf V) : QtW W root leaf V.drew := k.new (Below.refl _ _).drew
theorem QtW.start {W : World} {root leaf : List UInt8} : QtW W root leaf (((W.alloc (.cells (ubs root).toArray 25)).alloc (.cells (ubs leaf).toArray 25)).alloc (.cells (ubs n32).toArray 25)) :=
  ⟨(((Below.refl _ _).alloc (Nat.le_refl _) _).alloc (by simp) _).alloc (by simp; omega) _, ((At.new _ _ _).alloc _).alloc _, (At.new_at (by simp)).alloc _, At.new_at (by simp)⟩
end Go.Proofs.YtdegmcfcbndelaaDoor
