/-
  Both of layer 9: the program's tree and the document's behind a script, over what the program's trees are to answer.
-/
import Derived.Test.YtdegmcfcbndelaaDoorL3
namespace Go.Proofs.YtdegmcfcbndelaaDoor
open Go.RowKit

/-- What Both has where it has trees. -/
structure BoW (Pt : PtT) (W : World) (S : Nat → Prop) (b h : Nat) (L : List (Nat × List UInt8)) (A1 E : Option Addr) (W' : World) : Prop where
  t : Pt S W' b h L
  l : Lv W' W'.heap.size A1 L
  e : Ev W' W'.heap.size E
  far : ∀ k, S k → W.heap.size ≤ k
  sA : ∀ g o, A1 = some ⟨g, o, none⟩ → L ≠ [] → ¬ S g
  sE : ∀ g o, E = some ⟨g, o, none⟩ → ¬ S g
  below : Below W.heap.size W W'
end Go.Proofs.YtdegmcfcbndelaaDoor
