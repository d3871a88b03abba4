/-
  Layer 13, the document's side: a sealed block read by any reader.
-/
import Derived.Test.YtfmbpdjcoopaeaaDoorM5
namespace Go.Proofs.YtfmbpdjcoopaeaaDoor
open Go.RowKit

theorem tkS_le (n : Nat) (s : Rs) : (tkS n s).1.length ≤ n := by
  unfold tkS
  split
  · split
    · rw [List.length_take]
      omega
    · exact Nat.zero_le _
  · exact Nat.zero_le _
/-- A reader as a row. -/
def rrow (A : Option Addr) (n c k : Nat) : Array Value := #[.slice A n c, .int .i64 (k : Int)]
/-- What Read of a sealed block has in memory. -/
structure RsW (w : World) (R : Array Value) (X : List Value) (V : World) : Prop where
  bl : Below w.heap.size w V
  r : At V w.heap.size R 120
  a : At V (w.heap.size + 1) (sv 0 n32 n16).toArray 44
  b : At V (w.heap.size + 2) (rrow none 0 0 0) 120
  x : At V (w.heap.size + 3) X.toArray 44
section
variable {w V V' : World} {R R' : Array Value} {X X' : List Value}
theorem RsW.start : RsW w R (sv 0 n32 n16) ((((w.alloc (.cells R 120)).alloc (.cells (sv 0 n32 n16).toArray 44)).alloc (.cells (rrow none 0 0 0) 120)).alloc (.cells (sv 0 n32 n16).toArray 44)) :=
  ⟨((((Below.refl _ _).alloc (Nat.le_refl _) _).alloc (by simp) _).alloc (by simp; omega) _).alloc (by simp; omega) _, (((At.new _ _ _).alloc _).alloc _).alloc _, ((At.new_at (by simp)).alloc _).alloc _, (At.new_at (by simp)).alloc _, At.new_at (by simp)⟩
theorem RsW.new (k : RsW w R X V) (hb : Below V.heap.size V V') : RsW w R X V' := ⟨k.bl.trans (hb.mono k.bl.size), k.r.new_ hb, k.a.new_ hb, k.b.new_ hb, k.x.new_ hb⟩
theorem RsW.fill (k : RsW w R X V) (hA : At V' (w.heap.size + 3) X'.toArray 44) (hF : Fr (fun j => j = w.heap.size + 3) V V') : RsW w R X' V' :=
  ⟨k.bl.trans (hF.below (fun j h => by omega) k.bl.size), k.r.fr hF (by omega), k.a.fr hF (by omega), k.b.fr hF (by omega), hA⟩
end
end Go.Proofs.YtfmbpdjcoopaeaaDoor
