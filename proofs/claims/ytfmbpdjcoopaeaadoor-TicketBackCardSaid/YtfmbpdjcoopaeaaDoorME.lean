/-
  The program's layer 8: hashes of leaves and of nodes; what a text is of.
  The program's layer 8: the empty hashes.
-/
import Derived.Test.YtfmbpdjcoopaeaaDoorPa
import Derived.Deep.Cut
namespace Go.Proofs.YtfmbpdjcoopaeaaDoor
open Go.RowKit

end Go.Proofs.YtfmbpdjcoopaeaaDoor

namespace Go.Proofs.YtfmbpdjcoopaeaaDoor
open Go.RowKit

/-- The first m empty hashes, and noughts behind them. -/
def eTo (m : Nat) : List UInt8 := eRow m ++ List.replicate (32 * (33 - m)) 0
def z1056 : List UInt8 := List.replicate 1056 0
theorem eTo_zero : eTo 0 = z1056 := by
  have h : eRow 0 = [] := by with_unfolding_all rfl
  unfold eTo z1056
  rw [h]
  rfl
theorem eTo_length (m : Nat) (h : m ≤ 33) : (eTo m).length = 1056 := by
  rw [eTo, List.length_append, eRow_length, List.length_replicate]
  omega
theorem eTo_next (m : Nat) (h : m ≤ 32) : spl (eTo m) (32 * m) (emptyL m) = eTo (m + 1) := by
  have h1 : List.replicate (32 * (33 - m)) (0 : UInt8) = List.replicate 32 0 ++ List.replicate (32 * (33 - (m + 1))) 0 := by
    rw [List.replicate_append_replicate]
    congr 1
    omega
  have := spl_at (eRow m) (List.replicate 32 0) (List.replicate (32 * (33 - (m + 1))) 0) (emptyL m) (by rw [emptyL_length, List.length_replicate])
  rw [eRow_length] at this
  rw [eTo, h1, this, eTo, eRow_succ, List.append_assoc]
theorem eTo_part (m n : Nat) (hn : n < m) : ∃ z, eTo m = eRow n ++ (emptyL n ++ z) := by
  obtain ⟨z, hz⟩ := eRow_at m n hn
  exact ⟨z ++ List.replicate (32 * (33 - m)) 0, by rw [eTo, hz]; simp⟩
/-- The array in the making. -/
structure EtW (w : World) (m : Nat) (W : World) : Prop where
  r : At W w.heap.size (ubs z1056).toArray 231
  c : At W (w.heap.size + 1) (ubs (eTo m)).toArray 231
  size : w.heap.size + 2 ≤ W.heap.size
  below : Below w.heap.size w W
theorem EtW.start (w : World) : EtW w 0 ((w.alloc (.cells (ubs z1056).toArray 231)).alloc (.cells (ubs z1056).toArray 231)) :=
  ⟨(At.new _ _ _).alloc _, by rw [eTo_zero]; exact At.new_at (by simp), by simp, ((Below.refl _ _).alloc (Nat.le_refl _) _).alloc (by simp) _⟩
theorem EtW.new {w W W' : World} {m : Nat} (h : EtW w m W) (hb : Below W.heap.size W W') : EtW w m W' :=
  ⟨h.r.new_ hb, h.c.new_ hb, Nat.le_trans h.size hb.size, h.below.trans (hb.mono h.below.size)⟩
theorem EtW.drew {w W : World} {m : Nat} (h : EtW w m W) : EtW w m W.drew := h.new (Below.refl _ _).drew
theorem EtW.store {w W : World} {m : Nat} (hm : m ≤ 32) (h : EtW w m W) : EtW w (m + 1) (W.setCells (w.heap.size + 1) (32 * m) (ubs (emptyL m))) := by
  have hz : ∀ (vs : List Value) (g o : Nat) (W : World), (W.setCells g o vs).heap.size = W.heap.size := by
    intro vs g
    induction vs with
    | nil => exact fun _ _ => rfl
    | cons v r ih => exact fun o W => (ih (o + 1) _).trans (by simp)
  refine ⟨far_setCells h.r (by omega) _ _, ?_, by rw [hz]; exact h.size, below_setCells h.below (by omega) _ _⟩
  have := at_setCells h.c (32 * m) (emptyL m)
  rwa [eTo_next m hm] at this
theorem EtW.range {w W : World} {m : Nat} (h : EtW w m W) (n : Nat) (hn : n < m) : W.rangeAt (w.heap.size + 1) (32 * n) (ubs (emptyL n)) := by
  obtain ⟨z, hz⟩ := eTo_part m n hn
  have := range_at h.c hz
  rwa [eRow_length] at this
theorem EtW.there {w W : World} {m : Nat} (h : EtW w m W) (hm : m ≤ 32) : W.there (w.heap.size + 1) (32 * m) 32 :=
  there_at h.c _ _ (by rw [eTo_length m (by omega)]; omega)
end Go.Proofs.YtfmbpdjcoopaeaaDoor
