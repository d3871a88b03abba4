/-
  Layer 8's texts: leaves, nodes, nothing; which text is of which kind. Nothing here walks.
  The document's layer 8: the texts of leaves and of nodes, and their hashes.
  The document's layer 8: all empty hashes.
  The document's layer 8: what a text is of.
-/
import Derived.Test.YtfmbpdjcoopaeaaDoorV3
import Derived.Test.YtfmbpdjcoopaeaaDoorSr
import Derived.Test.YtfmbpdjcoopaeaaDoorY1
import Derived.Maps.AppendAt
import Derived.Great.BuildSlice
namespace Go.Proofs.YtfmbpdjcoopaeaaDoor
open Go.RowKit

def joinT (h : Nat) (l r : List UInt8) : List UInt8 := 2 :: UInt8.ofNat h :: (l ++ r)
/-- The empty hashes. -/
def emptyL : Nat → List UInt8
  | 0 => hashL [0]
  | n + 1 => hashL (joinT (n + 1) (emptyL n) (emptyL n))
theorem emptyL_length (n : Nat) : (emptyL n).length = 32 := by
  cases n with
  | zero => exact hashL_length _
  | succ n => exact hashL_length _
attribute [irreducible] emptyL
end Go.Proofs.YtfmbpdjcoopaeaaDoor

namespace Go.Proofs.YtfmbpdjcoopaeaaDoor
open Go.RowKit

theorem Own1.new {w W W' : World} {n : Nat} {bs : List UInt8} {v : Value} (h : Own1 w n bs v W) (hb : Below W.heap.size W W') : Own1 w n bs v W' := ⟨h.len, own_fr h.own (Fr.of_new (S := fun _ => False) hb) (fun _ _ => id), h.below.trans (hb.mono h.below.size)⟩
end Go.Proofs.YtfmbpdjcoopaeaaDoor

namespace Go.Proofs.YtfmbpdjcoopaeaaDoor
open Go.RowKit

/-- The first empty hashes, one behind the other. -/
def eRow : Nat → List UInt8
  | 0 => []
  | n + 1 => eRow n ++ emptyL n
theorem eRow_succ (n : Nat) : eRow (n + 1) = eRow n ++ emptyL n := rfl
theorem eRow_length (n : Nat) : (eRow n).length = 32 * n := by
  induction n with
  | zero => rfl
  | succ n ih => rw [eRow_succ, List.length_append, ih, emptyL_length]; omega
theorem eRow_at (n k : Nat) (h : k < n) : ∃ z, eRow n = eRow k ++ (emptyL k ++ z) := by
  induction n with
  | zero => omega
  | succ n ih =>
    by_cases e : k = n
    · subst e
      exact ⟨[], by rw [eRow_succ, List.append_nil]⟩
    · obtain ⟨z, hz⟩ := ih (by omega)
      exact ⟨z ++ emptyL n, by rw [eRow_succ, hz]; simp [List.append_assoc]⟩
attribute [irreducible] eRow
/-- A row of hashes of the call's own. -/
abbrev Hw (w : World) (base : Nat) (v : Value) (n : Nat) (bs : List UInt8) : Prop := w.ownsRow base 25 32 v n (ubs bs)
theorem Hw.range {W : World} {base g n c k : Nat} (h : Hw W base (.slice (some ⟨g, 0, none⟩) n c) n (eRow n)) (hk : k < n) : W.rangeAt g (32 * k) (ubs (emptyL k)) := fun j u hj => by
  obtain ⟨z, hz⟩ := eRow_at n k hk
  have h1 := h.cells (g := g) rfl (32 * k + j) u (by
    rw [hz, ubs_append, ubs_append, List.getElem?_append_right (by rw [ubs_length, eRow_length]; omega), ubs_length, eRow_length, Nat.add_sub_cancel_left, List.getElem?_append_left (by
      have := (List.getElem?_eq_some_iff.1 hj).1
      exact this)]
    exact hj)
  rw [add_plain, Nat.zero_add] at h1
  exact h1
theorem Hw.new {W W' : World} {base n : Nat} {v : Value} {bs : List UInt8} (h : Hw W base v n bs) (hb : Below W.heap.size W W') : Hw W' base v n bs := by
  refine ⟨h.1, ?_⟩
  rcases h.2 with h2 | ⟨g, cap, cur, rfl, hb1, hh, r⟩
  · exact .inl h2
  · exact .inr ⟨g, cap, cur, rfl, hb1, (hb.block g (lt_of_block hh)).trans hh, r⟩
theorem Hw.block {W : World} {base n : Nat} {v : Value} {bs : List UInt8} (h : Hw W base v n bs) (hn : n ≠ 0) : ∃ g c, v = .slice (some ⟨g, 0, none⟩) n c ∧ base ≤ g := by
  rcases h.2 with ⟨_, h2⟩ | ⟨g, cap, cur, rfl, hb1, _⟩
  · exact absurd h2 (by
      intro e
      have := h.1
      omega)
  · exact ⟨g, cap, rfl, hb1⟩
/-- What holds in a round. -/
structure EyW (w : World) (g n c : Nat) (W : World) : Prop where
  row : Hw W w.heap.size (.slice (some ⟨g, 0, none⟩) n c) n (eRow n)
  hi : w.heap.size ≤ g
  below : Below w.heap.size w W
theorem EyW.new {w W W' : World} {g n c : Nat} (h : EyW w g n c W) (hb : Below W.heap.size W W') : EyW w g n c W' := ⟨h.row.new hb, h.hi, h.below.trans (hb.mono h.below.size)⟩
theorem EyW.grown {w W W' : World} {g n c : Nat} {v : Value} (h : EyW w g n c W) (hr : W'.ownsRow w.heap.size 25 32 v (n + 1) (ubs (eRow n) ++ ubs (emptyL n))) (hg : W.grownBy W' (Value.ownBlock (.slice (some ⟨g, 0, none⟩) n c))) :
    ∃ g' c', v = .slice (some ⟨g', 0, none⟩) (n + 1) c' ∧ EyW w g' (n + 1) c' W' := by
  rw [← ubs_append, ← eRow_succ] at hr
  obtain ⟨g', c', rfl, hb⟩ := Hw.block hr (by omega)
  refine ⟨g', c', rfl, hr, hb, h.below.grown hg h.below.size (fun k hk => ?_)⟩
  have : g = k := Option.some.inj hk
  have := h.hi
  omega
end Go.Proofs.YtfmbpdjcoopaeaaDoor

namespace Go.Proofs.YtfmbpdjcoopaeaaDoor
open Go.RowKit

end Go.Proofs.YtfmbpdjcoopaeaaDoor
