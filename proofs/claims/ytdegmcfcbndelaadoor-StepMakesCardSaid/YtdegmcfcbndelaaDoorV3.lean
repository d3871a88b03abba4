/-
  The document's layer 7: what is in range; a place's bytes.
  A cipher in memory: all round keys, one behind the other; New.
  What the program's steps come to in the document's words. Nothing here speaks of the program's code.
  A cipher or none; Encrypt.
  Comparing blocks and bytes; errors as numbers; RoundKey.
  The document's round keys are the program's. Nothing here speaks of the program's code.
  What laws over ciphers share: guarded operations, whole rows, the document's round keys.
  The document's layer 7: a block turned.
  The document's layer 7: a tag.
  A sealed block as a value; its parts in memory.
  The document's layer 7: Put.
  The program's alike and Blocks of layer 5.
  The iterator that the program's Blocks hands back: its contract.
  The program's Turn of layer 5.
  Blocks at unlike places are turned by unlike streams; what is turned twice is as it was. Nothing here walks.
-/
import Derived.Test.YtdegmcfcbndelaaDoorV0
import Derived.Test.YtdegmcfcbndelaaDoorV2
import Derived.Test.YtdegmcfcbndelaaDoorX0
import Derived.Deep.Cut
import Derived.Test.YtdegmcfcbndelaaDoorY1
import Derived.ChangeKeysEq
import Derived.ArgAppend
import Derived.BigQuiet
import Derived.Test.YtdegmcfcbndelaaDoorY4
import Derived.Sort.LoopGhostIn
import Derived.Shelf.Abstract
namespace Go.Proofs.YtdegmcfcbndelaaDoor
open Go.RowKit

end Go.Proofs.YtdegmcfcbndelaaDoor

namespace Go.Proofs.YtdegmcfcbndelaaDoor
open Go.RowKit

/-- The round keys, one by one; the first n of them, one behind the other; a cipher in the making. -/
def pwd : Nat → UInt8
  | 0 => 1
  | n + 1 => dbl (pwd n)
def rk (key : List UInt8) : Nat → List UInt8
  | 0 => key
  | n + 1 => nxL (rk key n) (pwd n)
def rks (key : List UInt8) : Nat → List UInt8
  | 0 => []
  | n + 1 => rks key n ++ rk key n
def ck (key : List UInt8) (n : Nat) : List UInt8 := rks key n ++ List.replicate (176 - 16 * n) 0
attribute [irreducible] ck rks rk pwd
end Go.Proofs.YtdegmcfcbndelaaDoor

namespace Go.Proofs.YtdegmcfcbndelaaDoor
open Go.RowKit

end Go.Proofs.YtdegmcfcbndelaaDoor

namespace Go.Proofs.YtdegmcfcbndelaaDoor
open Go.RowKit

end Go.Proofs.YtdegmcfcbndelaaDoor

namespace Go.Proofs.YtdegmcfcbndelaaDoor
open Go.RowKit

end Go.Proofs.YtdegmcfcbndelaaDoor

namespace Go.Proofs.YtdegmcfcbndelaaDoor
open Go.RowKit

/-- The round keys up to n, and m bytes of the next one. -/
def wk (key : List UInt8) (n m : Nat) : List UInt8 := rks key (n + 1) ++ (List.range m).map (nx (rk key n) (pwd n))
end Go.Proofs.YtdegmcfcbndelaaDoor

namespace Go.Proofs.YtdegmcfcbndelaaDoor
open Go.RowKit

end Go.Proofs.YtdegmcfcbndelaaDoor

namespace Go.Proofs.YtdegmcfcbndelaaDoor
open Go.RowKit

end Go.Proofs.YtdegmcfcbndelaaDoor

namespace Go.Proofs.YtdegmcfcbndelaaDoor
open Go.RowKit

section
variable {P : Program} {ops : Array Oper} {Q : Exit → Act → World → Prop} {md : Region.Mode} {S : World → Prop} {z : Nat}
/-- Two can come up. -/
theorem wpUpto_two {i j : Nat} {oi oj : Oper} {fuel : Nat} {listed : Array Bool} {a : Act} {w : World} (hi : ops[i]? = some oi) (hj : ops[j]? = some oj) (hr : Region.ready md ops listed = [i, j]) (hgi : oi.guard = none) (hgj : oj.guard = none)
    (h1 : ∀ K : Act → World → Prop, RowKit.Hid (∀ a' w', (i ≠ z → S w') → wpUpto P md ops Q S z fuel (listed.setIfInBounds i true) a' w' → K a' w') → oi.wp P a w K Q)
    (h2 : ∀ K : Act → World → Prop, RowKit.Hid (∀ a' w', (j ≠ z → S w') → wpUpto P md ops Q S z fuel (listed.setIfInBounds j true) a' w' → K a' w') → oj.wp P a w K Q) : wpUpto P md ops Q S z (fuel + 1) listed a w := by
  refine ⟨fun h0 => (by rw [hr] at h0; cases h0), fun k hk => ?_⟩
  rw [hr] at hk
  unfold wpOp
  rcases (by simpa using hk : k = i ∨ k = j) with rfl | rfl
  · rw [hi]
    simp only [Region.wanted, hgi, if_true]
    exact .inl (h1 _ (fun _ _ h1 h2 => ⟨h1, h2⟩))
  · rw [hj]
    simp only [Region.wanted, hgj, if_true]
    exact .inl (h2 _ (fun _ _ h1 h2 => ⟨h1, h2⟩))
end
end Go.Proofs.YtdegmcfcbndelaaDoor

namespace Go.Proofs.YtdegmcfcbndelaaDoor
open Go.RowKit

end Go.Proofs.YtdegmcfcbndelaaDoor

namespace Go.Proofs.YtdegmcfcbndelaaDoor
open Go.RowKit

end Go.Proofs.YtdegmcfcbndelaaDoor

namespace Go.Proofs.YtdegmcfcbndelaaDoor
open Go.RowKit

end Go.Proofs.YtdegmcfcbndelaaDoor

namespace Go.Proofs.YtdegmcfcbndelaaDoor
open Go.RowKit

attribute [local go_sem] Oper.semAt_some

/-- What a round keeps: every row of cells but those of S. -/
structure KeepsOut (S : Nat → Prop) (A B : World) : Prop where
  size : A.heap.size ≤ B.heap.size
  same : ∀ (k : Nat) (cs : Array Value) (t : TypeId) (fr : Nat × Nat), ¬ S k → A.heap[k]? = some (.cells cs t fr) → B.heap[k]? = some (.cells cs t fr)
theorem KeepsOut.refl (S : Nat → Prop) (A : World) : KeepsOut S A A := ⟨Nat.le_refl _, fun _ _ _ _ _ h => h⟩
theorem KeepsOut.trans {S : Nat → Prop} {A B D : World} (h : KeepsOut S A B) (k : KeepsOut S B D) : KeepsOut S A D := ⟨Nat.le_trans h.size k.size, fun i cs t fr hi h0 => k.same i cs t fr hi (h.same i cs t fr hi h0)⟩
theorem KeepsOut.putObj {S : Nat → Prop} (W : World) (l : Nat) (o o' : Obj) (h : W.heap[l]? = some o) (hc : o.isCells = false) : KeepsOut S W (W.putObj l o') :=
  ⟨(grownBy_putObj' W l o').size, fun k cs t fr _ h0 => by
    by_cases e : k = l
    · subst e
      rw [h] at h0
      cases h0
      cases hc
    · exact ((grownBy_putObj' W l o').block k (Array.getElem?_eq_some_iff.1 h0).1 (by simpa using e)).trans h0⟩
theorem KeepsOut.of_below {S : Nat → Prop} {A B : World} (h : Below A.heap.size A B) : KeepsOut S A B := ⟨h.size, fun k _ _ _ _ h0 => (h.block k (Array.getElem?_eq_some_iff.1 h0).1).trans h0⟩
theorem KeepsOut.setRow {S : Nat → Prop} (A : World) (g : Nat) (hg : S g) (cs : Array Value) : KeepsOut S A (A.setRow g cs) := ⟨by simp, fun k _ _ _ hk h0 => (setRow_other A g k cs (fun e => hk (e ▸ hg))).trans h0⟩
theorem KeepsOut.setCell {S : Nat → Prop} (A : World) (p : Addr) (hg : S p.block) (v : Value) : KeepsOut S A (A.setCell p v) := ⟨by simp [World.setCell], fun k _ _ _ hk h0 => (Below.heap_setCell A p v k (fun e => hk (e ▸ hg))).trans h0⟩
theorem KeepsOut.at_ {S : Nat → Prop} {g : Nat} {A B : World} {cs : Array Value} {t : TypeId} (h : KeepsOut S A B) (hA : At A g cs t) (hg : ¬ S g) : At B g cs t := h.same g cs t (0, 0) hg hA
end Go.Proofs.YtdegmcfcbndelaaDoor

namespace Go.Proofs.YtdegmcfcbndelaaDoor
open Go.RowKit Go.Shelf

attribute [local go_sem] Oper.semAt_some

/-- Byte i turned. -/
def pf (keys c b : List UInt8) (i : Nat) : UInt8 := xr (b.getD i 0) ((encL keys (nextL c (i / 16))).getD (i % 16) 0)
/-- The slice that is left in round k. -/
def restV (g L k : Nat) : Value := .slice (some ⟨g, 16 * k, none⟩) (L - 16 * k) (L - 16 * k)
/-- What holds between the rounds of Turn. -/
structure TuW (w : World) (keys c b : List UInt8) (g T k : Nat) (W : World) : Prop where
  num : k = 0 ∨ 16 * k < b.length
  rest : At W T #[restV g b.length k] 120
  row : At W g (ubs (upd b (pf keys c b) (min (16 * k) b.length))).toArray 5
  below : Below w.heap.size w W
theorem at_free {W W' : World} {g B : Nat} {cs : Array Value} {t : TypeId} {row : Option Nat} (h : At W g cs t) (hB : g < B) (hg : W.grownBy W' row) (hr : ∀ r, row = some r → B ≤ r) : At W' g cs t :=
  (hg.block g h.lt (fun e => by have := hr g e.symm; omega)).trans h
theorem TuW.free {w : World} {keys c b : List UInt8} {g T B : Nat} (hg : g < B) (hT : T < B) (hw : w.heap.size ≤ B) : FreeFrom B (fun k W => TuW w keys c b g T k W) := fun _ _ _ _ h hg' hr =>
  ⟨h.num, at_free h.rest hT hg' hr, at_free h.row hg hg' hr, h.below.grown hg' h.below.size (fun k e => Nat.le_trans hw (hr k e))⟩
theorem TuW.start {w W : World} {keys c b : List UInt8} {g T L : Nat} (hL : L = b.length) (h1 : At W T #[.slice (some ⟨g, 0, none⟩) L L] 120) (h2 : At W g (ubs b).toArray 5) (h3 : Below w.heap.size w W) : TuW w keys c b g T 0 W :=
  ⟨.inl rfl, by subst hL; exact h1, by rw [Nat.mul_zero, Nat.zero_min, upd_zero]; exact h2, h3⟩
/-- What a body keeps. -/
structure Kept (S : Nat → Prop) (A B : World) : Prop where
  oth : KeepsOthers A B
  out : KeepsOut S A B
theorem Kept.refl (S : Nat → Prop) (A : World) : Kept S A A := ⟨KeepsOthers.refl A, KeepsOut.refl S A⟩
theorem Kept.trans {S : Nat → Prop} {A B D : World} (h : Kept S A B) (k : Kept S B D) : Kept S A D := ⟨h.oth.trans k.oth, h.out.trans k.out⟩
theorem Kept.setCell {S : Nat → Prop} {A B : World} (h : Kept S A B) (p : Addr) (hp : S p.block) (v : Value) : Kept S A (B.setCell p v) := ⟨h.oth.trans (KeepsOthers.setCell _ _ _), h.out.trans (KeepsOut.setCell _ _ hp _)⟩
theorem Kept.drewN {S : Nat → Prop} {A B : World} (h : Kept S A B) (n : Nat) : Kept S A (B.drewN n) := ⟨⟨h.oth.size, h.oth.same⟩, ⟨h.out.size, h.out.same⟩⟩
theorem Kept.of_below {S : Nat → Prop} {A B : World} (h : Below A.heap.size A B) : Kept S A B := ⟨others_of_below h, KeepsOut.of_below h⟩
end Go.Proofs.YtdegmcfcbndelaaDoor

namespace Go.Proofs.YtdegmcfcbndelaaDoor
open Go.RowKit

end Go.Proofs.YtdegmcfcbndelaaDoor
