/-
  Layer 12, ahead of what has landed: trees that were written to, cut, grown: their nodes.
  Layer 12, ahead of what has landed: what a leaf and a path climb to; a path that is cut; a root that grows.
  Layer 12, the document's side: Fits, Climb.
-/
import Derived.Test.YtdegmcfcbndelaaDoorL2
import Derived.Test.YtdegmcfcbndelaaDoorJ1
import Derived.Test.YtdegmcfcbndelaaDoorJ4
import Derived.Test.YtdegmcfcbndelaaDoorN1
import Derived.Test.YtdegmcfcbndelaaDoorY1
namespace Go.Proofs.YtdegmcfcbndelaaDoor
open Go.RowKit

end Go.Proofs.YtdegmcfcbndelaaDoor

namespace Go.Proofs.YtdegmcfcbndelaaDoor
open Go.RowKit

theorem pathS_none12 (L : List (Nat × List UInt8)) (i : Nat) : pathS L i 0 = [] := by with_unfolding_all rfl
theorem pathS_len12 {L : List (Nat × List UInt8)} (ho : okL L) (i : Nat) : ∀ k, (pathS L i k).length = 32 * k
  | 0 => by rw [pathS_none12]; rfl
  | k + 1 => by
    rw [pathS_succ, List.length_append, pathS_len12 ho i k, nodeS_length _ _ _ ho]
    omega
/-- A root with some levels more. -/
def growH (root : List UInt8) (low : Nat) : Nat → List UInt8
  | 0 => root
  | k + 1 => hashL (joinT (low + k + 1) (growH root low k) (emptyL (low + k)))
theorem growH_next (root : List UInt8) (low k : Nat) : growH root low (k + 1) = hashL (joinT (low + k + 1) (growH root low k) (emptyL (low + k))) := rfl
theorem growH_length {root : List UInt8} (h : root.length = 32) (low : Nat) : ∀ k, (growH root low k).length = 32
  | 0 => h
  | k + 1 => by rw [growH_next]; exact hashL_length _
/-- More blocks, no less height. -/
theorem high_le {a b : Nat} (hab : a ≤ b) (hb : b ≤ 4294967296) : highN a ≤ highN b := by
  obtain ⟨h1, -, -⟩ := highN_spec (b := b) hb
  obtain ⟨-, -, h3⟩ := highN_spec (b := a) (by omega)
  refine Nat.le_of_not_lt fun g => ?_
  have := h3 _ g
  omega
end Go.Proofs.YtdegmcfcbndelaaDoor

namespace Go.Proofs.YtdegmcfcbndelaaDoor
open Go.RowKit

/-- A climb's memory. -/
structure CbW (W : World) (x : List UInt8) (V : World) : Prop where
  b : Below W.heap.size W V
  h : At V W.heap.size (ubs x).toArray 25
  r : At V (W.heap.size + 1) (ubs n32).toArray 25
theorem CbW.new {W V V' : World} {x : List UInt8} (k : CbW W x V) (hb : Below V.heap.size V V') : CbW W x V' := ⟨k.b.trans (hb.mono k.b.size), k.h.new_ hb, k.r.new_ hb⟩
theorem CbW.drew {W V : World} {x : List UInt8} (k : CbW W x V) : CbW W x V.drew := k.new (Below.refl _ _).drew
theorem CbW.start {W : World} {x : List UInt8} : CbW W x ((W.alloc (.cells (ubs x).toArray 25)).alloc (.cells (ubs n32).toArray 25)) :=
  ⟨((Below.refl _ _).alloc (Nat.le_refl _) _).alloc (by simp) _, (At.new _ _ _).alloc _, At.new_at (by simp)⟩
theorem CbW.put {W V : World} {x y : List UInt8} (k : CbW W x V) : CbW W y (V.setRow W.heap.size (ubs y).toArray) :=
  ⟨below_setRow k.b (Nat.le_refl _) _, setRow_heap _ _ (ubs x).toArray _ _ _ k.h, (setRow_other V _ _ _ (by omega)).trans k.r⟩
end Go.Proofs.YtdegmcfcbndelaaDoor
