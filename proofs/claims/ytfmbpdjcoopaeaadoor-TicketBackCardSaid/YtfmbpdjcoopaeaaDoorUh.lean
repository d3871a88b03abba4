/-
  The program's layer 7: Read, Parse, of 56 bytes.
-/
import Derived.Test.YtfmbpdjcoopaeaaDoorUg
import Derived.Test.YtfmbpdjcoopaeaaDoorY9
namespace Go.Proofs.YtfmbpdjcoopaeaaDoor
open Go.RowKit

/-- What 56 bytes are. -/
def svOf (bs : List UInt8) : List Value := sv (val (bs.take 8)) ((bs.drop 8).take 32) ((bs.drop 40).take 16)
/-- What holds in Read: the reader that is read to its end, the result. -/
structure RwW (w : World) (base : Nat → Prop) (p : Nat) (W : World) : Prop where
  rs : RS W (fun g => base g ∧ g < w.heap.size) p 0 []
  res : At W w.heap.size (sv 0 n32 n16).toArray 37
  fr : Fr (Only p) w W
theorem RwW.next {w W W' : World} {base : Nat → Prop} {p : Nat} {S : Nat → Prop} (h : RwW w base p W) (hF : Fr S W W') (hs : ∀ g, S g → w.heap.size < g) : RwW w base p W' :=
  ⟨h.rs.fr hF (fun g hg c => by have := hs g c; omega), h.res.fr hF (fun c => by have := hs _ c; omega), h.fr.next hF (fun g hg c => by have := hs g c; omega)⟩
theorem RwW.drew {w W : World} {base : Nat → Prop} {p : Nat} (h : RwW w base p W) : RwW w base p W.drew := h.next ((Fr.refl (fun _ => False) W).drew) (fun _ h => h.elim)
/-- Beside: the reader of the 56 bytes, and the sealed block as it grows. -/
structure RxW (w : World) (base : Nat → Prop) (p p2 Z X : Nat) (bs : List UInt8) (x : List Value) (W : World) : Prop where
  rw : RwW w base p W
  r2 : RS W (fun g => w.heap.size < g ∧ g < Z) p2 0 bs
  x : At W X x.toArray 37
  far : Z ≤ X ∧ w.heap.size < X
section
variable {w W W' : World} {base : Nat → Prop} {p p2 Z X : Nat} {bs bs' : List UInt8} {x x' : List Value}
theorem RxW.drew (h : RxW w base p p2 Z X bs x W) : RxW w base p p2 Z X bs x W.drew := ⟨h.rw.drew, h.r2.fr ((Fr.refl (fun _ => False) W).drew) (fun _ _ h => h), h.x, h.far⟩
theorem rs_low (h : RS W base p 0 bs) : base p := by obtain ⟨_, _, h⟩ := h; exact h.low
theorem RxW.read (h : RxW w base p p2 Z X bs x W) (hr : RS W' (fun g => w.heap.size < g ∧ g < Z) p2 0 bs') (hF : Fr (Only p2) W W') : RxW w base p p2 Z X bs' x W' :=
  ⟨h.rw.next hF (fun g hg => by have h1 := rs_low hr; rw [show g = p2 from hg]; exact h1.1), hr, h.x.fr hF (fun c => by
    have h1 := rs_low hr
    have h2 := h.far
    have h3 : X = p2 := c
    have h4 : p2 < Z := h1.2
    omega), h.far⟩
theorem RxW.fill (h : RxW w base p p2 Z X bs x W) (hA : At W' X x'.toArray 37) (hF : Fr (fun k => k = X) W W') : RxW w base p p2 Z X bs x' W' :=
  ⟨h.rw.next hF (fun g hg => by have := h.far; omega), h.r2.fr hF (fun g hg c => by have := h.far; have h1 : w.heap.size < g ∧ g < Z := hg; omega), hA, h.far⟩
end
theorem RwW.start {w : World} {base : Nat → Prop} {p : Nat} {bs : List UInt8} (h : RS w base p 0 bs) : RS (w.alloc (.cells (sv 0 n32 n16).toArray 37)) (fun g => base g ∧ g < w.heap.size) p 0 bs :=
  (h.old).new ((Below.refl _ _).alloc (Nat.le_refl _) _)
end Go.Proofs.YtfmbpdjcoopaeaaDoor
