/-
  Parts put together: the library's Grow and Concat, and the program's hash of parts.
  What a tag is, and its small parts in the program: masked block keys, single bytes, comparing bytes.
  The program's block key.
-/
import Derived.Test.YtlmecjnlinalkaaDoorY4
import Derived.Test.YtlmecjnlinalkaaDoorK3
import Derived.Test.YtlmecjnlinalkaaDoorY1
namespace Go.Proofs.YtlmecjnlinalkaaDoor
open Go.RowKit

/-- A part: an address, bytes, a capacity. -/
structure Part where
  A : Option Addr
  bs : List UInt8
  c : Nat
def Part.v (p : Part) : Value := .slice p.A p.bs.length p.c
def joined (ps : List Part) : List UInt8 := ps.flatMap (·.bs)
attribute [irreducible] joined
end Go.Proofs.YtlmecjnlinalkaaDoor

namespace Go.Proofs.YtlmecjnlinalkaaDoor
open Go.RowKit

/-- Bytes XORed with one byte; the first k of them. -/
def maskL (b : List UInt8) (m : UInt8) : List UInt8 := b.map (· ^^^ m)
end Go.Proofs.YtlmecjnlinalkaaDoor

namespace Go.Proofs.YtlmecjnlinalkaaDoor
open Go.RowKit

def n64 : List UInt8 := List.replicate 64 0
/-- What holds while a block key is made: its result, the block, the rest below. -/
structure BkW (w : World) (xs : List UInt8) (W : World) : Prop where
  res : At W w.heap.size (ubs n64).toArray 164
  blk : At W (w.heap.size + 1) (ubs xs).toArray 164
  below : Below w.heap.size w W
theorem BkW.next {w W W' : World} {xs : List UInt8} (h : BkW w xs W) (hb : Below W.heap.size W W') : BkW w xs W' :=
  ⟨h.res.new_ hb, h.blk.new_ hb, h.below.trans (hb.mono h.below.size)⟩
theorem BkW.fill {w W W' : World} {xs ys : List UInt8} (h : BkW w xs W) (hf : Fr (fun k => k = w.heap.size + 1) W W') (ha : At W' (w.heap.size + 1) (ubs ys).toArray 164) : BkW w ys W' :=
  ⟨h.res.fr hf (by omega), ha, h.below.trans (hf.below (fun k hk => by omega) h.below.size)⟩
theorem BkW.start (w : World) : BkW w n64 ((w.alloc (.cells (ubs n64).toArray 164)).alloc (.cells (ubs n64).toArray 164)) :=
  ⟨(At.new w _ _).alloc _, At.new_at (by simp), ((Below.refl _ _).alloc (Nat.le_refl _) _).alloc (by simp) _⟩
/-- A hash put into a block of its own. -/
theorem stored_below (w : World) (h : List UInt8) : Below w.heap.size w ((w.alloc (.cells (ubs n32).toArray 25)).setRow w.heap.size (ubs h).toArray) := below_setRow ((Below.refl _ _).alloc (Nat.le_refl _) _) (Nat.le_refl _) _
theorem stored_at (w : World) (h : List UInt8) : At ((w.alloc (.cells (ubs n32).toArray 25)).setRow w.heap.size (ubs h).toArray) w.heap.size (ubs h).toArray 25 := setRow_heap _ _ (ubs n32).toArray _ _ _ (At.new _ _ _)
end Go.Proofs.YtlmecjnlinalkaaDoor
