/-
  Layer 12, the document's side: Cut.
-/
import Derived.Test.YtdegmcfcbndelaaDoorL6
import Derived.Test.YtdegmcfcbndelaaDoorK8
namespace Go.Proofs.YtdegmcfcbndelaaDoor
open Go.RowKit

/-- The error's number of a cutting step. -/
def ctN (root leaf path : List UInt8) (n was blocks : Nat) : Nat := if hgB blocks was then (if n = highN was then (if climbH leaf path (blocks - 1) n = root then 0 else 5) else 2) else 1
/-- The root behind it. -/
def ctE (root leaf path : List UInt8) (n was blocks : Nat) : List UInt8 := if ctN root leaf path n was blocks = 0 then climbH leaf (cutP path (blocks - 1) (highN blocks)) (blocks - 1) (highN blocks) else n32
theorem ctN_one {root leaf path : List UInt8} {n was blocks : Nat} (h : hgB blocks was = false) : ctN root leaf path n was blocks = 1 := by unfold ctN; rw [h, if_neg (by simp)]
theorem ctN_two {root leaf path : List UInt8} {n was blocks : Nat} (h : hgB blocks was = true) (hn : n ≠ highN was) : ctN root leaf path n was blocks = 2 := by unfold ctN; rw [h, if_pos rfl, if_neg hn]
theorem ctN_five {root leaf path : List UInt8} {n was blocks : Nat} (h : hgB blocks was = true) (hn : n = highN was) (hr : climbH leaf path (blocks - 1) n ≠ root) : ctN root leaf path n was blocks = 5 := by unfold ctN; rw [h, if_pos rfl, if_pos hn, if_neg hr]
theorem ctN_zero {root leaf path : List UInt8} {n was blocks : Nat} (h : hgB blocks was = true) (hn : n = highN was) (hr : climbH leaf path (blocks - 1) n = root) : ctN root leaf path n was blocks = 0 := by unfold ctN; rw [h, if_pos rfl, if_pos hn, if_pos hr]
theorem ctE_no {root leaf path : List UInt8} {n was blocks : Nat} (h : ctN root leaf path n was blocks ≠ 0) : ctE root leaf path n was blocks = n32 := by unfold ctE; rw [if_neg h]
theorem ctE_ok {root leaf path : List UInt8} {n was blocks : Nat} (h : ctN root leaf path n was blocks = 0) : ctE root leaf path n was blocks = climbH leaf (cutP path (blocks - 1) (highN blocks)) (blocks - 1) (highN blocks) := by unfold ctE; rw [if_pos h]
/-- A cut's memory. -/
structure QtW (W : World) (root leaf : List UInt8) (V : World) : Prop where
  b : Below W.heap.size W V
  a : At V W.heap.size (ubs root).toArray 25
  l : At V (W.heap.size + 1) (ubs leaf).toArray 25
  z : At V (W.heap.size + 2) (ubs n32).toArray 25
theorem QtW.new {W V V' : World} {root leaf : List UInt8} (k : QtW W root leaf V) (hb : Below V.heap.size V V') : QtW W root leaf V' := ⟨k.b.trans (hb.mono k.b.size), k.a.new_ hb, k.l.new_ hb, k.z.new_ hb⟩
theorem QtW.drew {W V : World} {root leaf : List UInt8} (k : QtW W root leaf V) : QtW W root leaf V.drew := k.new (Below.refl _ _).drew
theorem QtW.start {W : World} {root leaf : List UInt8} : QtW W root leaf (((W.alloc (.cells (ubs root).toArray 25)).alloc (.cells (ubs leaf).toArray 25)).alloc (.cells (ubs n32).toArray 25)) :=
  ⟨(((Below.refl _ _).alloc (Nat.le_refl _) _).alloc (by simp) _).alloc (by simp; omega) _, ((At.new _ _ _).alloc _).alloc _, (At.new_at (by simp)).alloc _, At.new_at (by simp)⟩
end Go.Proofs.YtdegmcfcbndelaaDoor
