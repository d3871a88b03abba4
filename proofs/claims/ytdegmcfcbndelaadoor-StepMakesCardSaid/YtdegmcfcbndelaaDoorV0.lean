/-
  Parts put together: the library's Grow and Concat, and the program's hash of parts.
  What a tag is, and its small parts in the program: masked block keys, single bytes, comparing bytes.
  The program's block key.
  The program's tag.
  The document's block key; comparing bytes as strings.
  The document's tag.
  The document's layer 6: labels, keys, sessions.
-/
import Derived.Test.YtdegmcfcbndelaaDoorY4
import Derived.Test.YtdegmcfcbndelaaDoorK3
import Derived.Test.YtdegmcfcbndelaaDoorY1
import Derived.ArgAppend
import Derived.Test.YtdegmcfcbndelaaDoorK1
import Derived.Lib.ConvBytes
import Derived.StillTailTactics
import Derived.Deep.Cut
namespace Go.Proofs.YtdegmcfcbndelaaDoor
open Go.RowKit

/-- A part: an address, bytes, a capacity. -/
structure Part where
  A : Option Addr
  bs : List UInt8
  c : Nat
def Part.v (p : Part) : Value := .slice p.A p.bs.length p.c
def joined (ps : List Part) : List UInt8 := ps.flatMap (·.bs)
attribute [irreducible] joined
end Go.Proofs.YtdegmcfcbndelaaDoor

namespace Go.Proofs.YtdegmcfcbndelaaDoor
open Go.RowKit

end Go.Proofs.YtdegmcfcbndelaaDoor

namespace Go.Proofs.YtdegmcfcbndelaaDoor
open Go.RowKit

def n64 : List UInt8 := List.replicate 64 0
/-- What holds while a block key is made: its result, the block, the rest below. -/
structure BkW (w : World) (xs : List UInt8) (W : World) : Prop where
  res : At W w.heap.size (ubs n64).toArray 170
  blk : At W (w.heap.size + 1) (ubs xs).toArray 170
  below : Below w.heap.size w W
theorem BkW.next {w W W' : World} {xs : List UInt8} (h : BkW w xs W) (hb : Below W.heap.size W W') : BkW w xs W' :=
  ⟨h.res.new_ hb, h.blk.new_ hb, h.below.trans (hb.mono h.below.size)⟩
theorem BkW.fill {w W W' : World} {xs ys : List UInt8} (h : BkW w xs W) (hf : Fr (fun k => k = w.heap.size + 1) W W') (ha : At W' (w.heap.size + 1) (ubs ys).toArray 170) : BkW w ys W' :=
  ⟨h.res.fr hf (by omega), ha, h.below.trans (hf.below (fun k hk => by omega) h.below.size)⟩
theorem BkW.start (w : World) : BkW w n64 ((w.alloc (.cells (ubs n64).toArray 170)).alloc (.cells (ubs n64).toArray 170)) :=
  ⟨(At.new w _ _).alloc _, At.new_at (by simp), ((Below.refl _ _).alloc (Nat.le_refl _) _).alloc (by simp) _⟩
/-- A hash put into a block of its own. -/
theorem stored_below (w : World) (h : List UInt8) : Below w.heap.size w ((w.alloc (.cells (ubs n32).toArray 25)).setRow w.heap.size (ubs h).toArray) := below_setRow ((Below.refl _ _).alloc (Nat.le_refl _) _) (Nat.le_refl _) _
theorem stored_at (w : World) (h : List UInt8) : At ((w.alloc (.cells (ubs n32).toArray 25)).setRow w.heap.size (ubs h).toArray) w.heap.size (ubs h).toArray 25 := setRow_heap _ _ (ubs n32).toArray _ _ _ (At.new _ _ _)
end Go.Proofs.YtdegmcfcbndelaaDoor

namespace Go.Proofs.YtdegmcfcbndelaaDoor
open Go.RowKit

/-- What holds while a tag is made: its result, the parts. -/
structure MaW (w : World) (S : Option Addr) (ps : List Part) (W : World) : Prop where
  res : At W w.heap.size (ubs n32).toArray 25
  rs : Rd W W.heap.size S (ps.map Part.v)
  rp : ∀ p ∈ ps, Rb W W.heap.size p.A p.bs
  below : Below w.heap.size w W
theorem MaW.next {w W W' : World} {S : Option Addr} {ps : List Part} (h : MaW w S ps W) (hb : Below W.heap.size W W') : MaW w S ps W' :=
  ⟨h.res.new_ hb, (h.rs.below hb).mono hb.size, fun p hp => ((h.rp p hp).below hb).mono hb.size, h.below.trans (hb.mono h.below.size)⟩
/-- Beside: the block key in a block of its own. -/
structure MbW (w : World) (S : Option Addr) (ps : List Part) (b : List UInt8) (C : Nat) (W : World) : Prop where
  ma : MaW w S ps W
  blk : At W C (ubs b).toArray 170
theorem MbW.next {w W W' : World} {S : Option Addr} {ps : List Part} {b : List UInt8} {C : Nat} (h : MbW w S ps b C W) (hb : Below W.heap.size W W') : MbW w S ps b C W' :=
  ⟨h.ma.next hb, h.blk.new_ hb⟩
theorem MbW.start {w W : World} {S : Option Addr} {ps : List Part} (h : MaW w S ps W) (b : List UInt8) : MbW w S ps b W.heap.size ((W.alloc (.cells (ubs n64).toArray 170)).setRow W.heap.size (ubs b).toArray) :=
  ⟨h.next (below_setRow ((Below.refl _ _).alloc (Nat.le_refl _) _) (Nat.le_refl _) _), setRow_heap _ _ (ubs n64).toArray _ _ _ (At.new _ _ _)⟩
/-- Beside: a hash in a block of its own. -/
structure McW (w : World) (S : Option Addr) (ps : List Part) (b : List UInt8) (C : Nat) (h : List UInt8) (D : Nat) (W : World) : Prop where
  mb : MbW w S ps b C W
  hsh : At W D (ubs h).toArray 25
theorem McW.next {w W W' : World} {S : Option Addr} {ps : List Part} {b h : List UInt8} {C D : Nat} (k : McW w S ps b C h D W) (hb : Below W.heap.size W W') : McW w S ps b C h D W' :=
  ⟨k.mb.next hb, k.hsh.new_ hb⟩
theorem McW.drew {w W : World} {S : Option Addr} {ps : List Part} {b h : List UInt8} {C D : Nat} (k : McW w S ps b C h D W) : McW w S ps b C h D W.drew :=
  ⟨⟨⟨k.mb.ma.res, k.mb.ma.rs, k.mb.ma.rp, k.mb.ma.below.os, k.mb.ma.below.tape, k.mb.ma.below.output, k.mb.ma.below.size, k.mb.ma.below.block⟩, k.mb.blk⟩, k.hsh⟩
theorem McW.start {w W : World} {S : Option Addr} {ps : List Part} {b : List UInt8} {C : Nat} (k : MbW w S ps b C W) (h : List UInt8) : McW w S ps b C h W.heap.size ((W.alloc (.cells (ubs n32).toArray 25)).setRow W.heap.size (ubs h).toArray) :=
  ⟨k.next (stored_below W h), stored_at W h⟩
/-- One part ahead of others, in a row of its own. -/
theorem MbW.lit {w W : World} {S : Option Addr} {ps : List Part} {b : List UInt8} {C : Nat} (h : MbW w S ps b C W) (v : Value) : MbW w S ps b C (W.alloc (.cells #[v] 120)) :=
  h.next ((Below.refl _ _).alloc (Nat.le_refl _) _)
end Go.Proofs.YtdegmcfcbndelaaDoor

namespace Go.Proofs.YtdegmcfcbndelaaDoor
open Go.RowKit

end Go.Proofs.YtdegmcfcbndelaaDoor

namespace Go.Proofs.YtdegmcfcbndelaaDoor
open Go.RowKit

/-- Two slices of the call's own, in blocks of their own. -/
structure TwoW (w : World) (n : Nat) (vi vo : Value) (xs ys : List UInt8) (W : World) : Prop where
  i : W.ownsRow w.heap.size 5 1 vi n (ubs xs)
  o : W.ownsRow w.heap.size 5 1 vo n (ubs ys)
  apart : ∀ g, vi.ownBlock = some g → vo.ownBlock ≠ some g
  below : Below w.heap.size w W
theorem TwoW.start (w : World) : TwoW w 0 (.slice none 0 0) (.slice none 0 0) [] [] w :=
  ⟨World.ownsRow_nil _ _ _ _, World.ownsRow_nil _ _ _ _, fun g h => by simp [Value.ownBlock] at h, Below.refl _ _⟩
/-- A text appended to the first. -/
theorem TwoW.more {w W W2 : World} {n m : Nat} {vi vo v : Value} {xs ys : List UInt8} (h : TwoW w n vi vo xs ys W) {zs : List UInt8} (h2 : W2.ownsRow w.heap.size 5 1 v (n + m) (ubs xs ++ ubs zs)) (hg : W.grownBy W2 vi.ownBlock) :
    W2.ownsRow w.heap.size 5 1 v (n + m) (ubs (xs ++ zs)) ∧ W2.ownsRow w.heap.size 5 1 vo n (ubs ys) ∧ Below w.heap.size w W2 :=
  ⟨by rw [ubs_append]; exact h2, own_grown h.o hg (fun g hg' e => h.apart g e hg'), h.below.grown hg h.below.size (fun k hk => (World.ownsRow.lt h.i k hk).1)⟩
end Go.Proofs.YtdegmcfcbndelaaDoor

namespace Go.Proofs.YtdegmcfcbndelaaDoor
open Go.RowKit

theorem sizeH_of {l : List UInt8} (h : l.length = 32) : (Tryd.prog.info? 25).map (·.size) = some (ubs l).toArray.size := by rw [sizeH]; simp [ubs_length, h]
/-- What holds in Session. -/
structure SsW (w : World) (l : List UInt8) (W : World) : Prop where
  a0 : At W w.heap.size (ubs l).toArray 25
  a1 : At W (w.heap.size + 1) (ubs n32).toArray 25
  below : Below w.heap.size w W
theorem SsW.new {w W W' : World} {l : List UInt8} (h : SsW w l W) (hb : Below W.heap.size W W') : SsW w l W' := ⟨h.a0.new_ hb, h.a1.new_ hb, h.below.trans (hb.mono h.below.size)⟩
theorem SsW.start (w : World) (l : List UInt8) : SsW w l ((w.alloc (.cells (ubs l).toArray 25)).alloc (.cells (ubs n32).toArray 25)).drew :=
  ⟨((At.new _ _ _).alloc _ : At ((w.alloc _).alloc _) _ _ _), (At.new_at (by simp) : At ((w.alloc _).alloc _) _ _ _), below_drewN (((Below.refl w.heap.size w).alloc (Nat.le_refl _) _).alloc (by simp) _) 1⟩
end Go.Proofs.YtdegmcfcbndelaaDoor
