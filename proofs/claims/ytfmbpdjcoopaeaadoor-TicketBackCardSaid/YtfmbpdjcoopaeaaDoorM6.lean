/-
  Layer 13, the document's side: Right.
  Layer 13, the document's side: Fits, May.
-/
import Derived.Test.YtfmbpdjcoopaeaaDoorM5
import Derived.Test.YtfmbpdjcoopaeaaDoorM7
import Derived.Test.YtfmbpdjcoopaeaaDoorV3
namespace Go.Proofs.YtfmbpdjcoopaeaaDoor
open Go.RowKit

/-- What a function with an order has in memory. -/
structure OwW (w : World) (C : List Value) (V : World) : Prop where
  bl : Below w.heap.size w V
  o : At V w.heap.size C.toArray 97
theorem OwW.new {w V V' : World} {C : List Value} (x : OwW w C V) (hb : Below V.heap.size V V') : OwW w C V' := ⟨x.bl.trans (hb.mono x.bl.size), x.o.new_ hb⟩
theorem OwW.drewN {w V : World} {C : List Value} (x : OwW w C V) (n : Nat) : OwW w C (V.drewN n) := ⟨below_drewN x.bl n, x.o⟩
theorem OwW.start {w : World} {C : List Value} : OwW w C (w.alloc (.cells C.toArray 97)) := ⟨(Below.refl _ _).alloc (Nat.le_refl _) _, At.new _ _ _⟩
end Go.Proofs.YtfmbpdjcoopaeaaDoor

namespace Go.Proofs.YtfmbpdjcoopaeaaDoor
open Go.RowKit

/-- What a function with a ticket has in memory. -/
structure TwV (w : World) (C : List Value) (V : World) : Prop where
  bl : Below w.heap.size w V
  t : At V w.heap.size C.toArray 107
theorem TwV.new {w V V' : World} {C : List Value} (x : TwV w C V) (hb : Below V.heap.size V V') : TwV w C V' := ⟨x.bl.trans (hb.mono x.bl.size), x.t.new_ hb⟩
theorem TwV.drewN {w V : World} {C : List Value} (x : TwV w C V) (n : Nat) : TwV w C (V.drewN n) := ⟨below_drewN x.bl n, x.t⟩
theorem TwV.start {w : World} {C : List Value} : TwV w C (w.alloc (.cells C.toArray 107)) := ⟨(Below.refl _ _).alloc (Nat.le_refl _) _, At.new _ _ _⟩
end Go.Proofs.YtfmbpdjcoopaeaaDoor
