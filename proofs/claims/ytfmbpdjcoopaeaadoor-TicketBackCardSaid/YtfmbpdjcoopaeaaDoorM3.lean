/-
  Layer 9, the document's side: part, walked.
  Layer 9, the document's side: Node, Root.
  Layer 9, the document's side: Root, Path.
-/
import Derived.Test.YtfmbpdjcoopaeaaDoorM2
namespace Go.Proofs.YtfmbpdjcoopaeaaDoor
open Go.RowKit

end Go.Proofs.YtfmbpdjcoopaeaaDoor

namespace Go.Proofs.YtfmbpdjcoopaeaaDoor
open Go.RowKit

end Go.Proofs.YtfmbpdjcoopaeaaDoor

namespace Go.Proofs.YtfmbpdjcoopaeaaDoor
open Go.RowKit

/-- A slice of hashes of the call's own, one behind the other. -/
def Ah (W : World) (base : Nat) (v : Value) (n : Nat) (bs : List UInt8) : Prop := W.ownsRow base 25 32 v n (ubs bs)
theorem Ah.nil (W : World) (base : Nat) : Ah W base (.slice none 0 0) 0 [] := World.ownsRow_nil _ _ _ _
theorem Ah.form {W : World} {base n : Nat} {v : Value} {bs : List UInt8} (h : Ah W base v n bs) : ∃ A c, v = .slice A n c := by
  rcases h.2 with ⟨h1, h2⟩ | ⟨g, cap, cur, e, -⟩
  · rw [h1, h2]
    exact ⟨_, _, rfl⟩
  · exact ⟨_, _, e⟩
theorem Ah.kept {W W' : World} {base n : Nat} {v : Value} {bs : List UInt8} (h : Ah W base v n bs) (hb : Below W.heap.size W W') : Ah W' base v n bs := by
  refine ⟨h.1, ?_⟩
  rcases h.2 with h2 | ⟨g, cap, cur, rfl, hb1, hh, r⟩
  · exact .inl h2
  · exact .inr ⟨g, cap, cur, rfl, hb1, (hb.block g (lt_of_block hh)).trans hh, r⟩
theorem Ah.lt {W : World} {base n : Nat} {v : Value} {bs : List UInt8} (h : Ah W base v n bs) : ∀ k, v.ownBlock = some k → base ≤ k ∧ k < W.heap.size := World.ownsRow.lt h
theorem Ah.rd {W : World} {base n c : Nat} {A : Option Addr} {bs : List UInt8} (h : Ah W base (.slice A n c) n bs) : Rd W W.heap.size A (ubs bs) := fun hne => by
  rcases h.2 with ⟨h1, h2⟩ | ⟨g, cap, cur, e, hb, hh, -⟩
  · refine absurd ?_ hne
    exact List.eq_nil_of_length_eq_zero (by have := h.1; rw [h2] at this; omega)
  · obtain rfl : A = some ⟨g, 0, none⟩ := by cases e; rfl
    refine ⟨g, 0, rfl, lt_of_block hh, fun j u hu => ?_⟩
    have := World.ownsRow.cells h (g := g) rfl j u hu
    rwa [add_plain] at this
/-- What holds in Path. -/
structure PhW (w : World) (T : Array Value) (v : Value) (n : Nat) (bs : List UInt8) (W : World) : Prop where
  t : At W w.heap.size T 80
  a : Ah W (w.heap.size + 1) v n bs
  below : Below w.heap.size w W
section
variable {w W W' : World} {T : Array Value} {v v' : Value} {n : Nat} {bs l : List UInt8}
theorem PhW.new (h : PhW w T v n bs W) (hb : Below W.heap.size W W') : PhW w T v n bs W' := ⟨h.t.new_ hb, h.a.kept hb, h.below.trans (hb.mono h.below.size)⟩
theorem PhW.start (w : World) (T : Array Value) : PhW w T (.slice none 0 0) 0 [] (w.alloc (.cells T 80)) := ⟨At.new _ _ _, Ah.nil _ _, (Below.refl w.heap.size w).alloc (Nat.le_refl _) _⟩
end
end Go.Proofs.YtfmbpdjcoopaeaaDoor
