/-
  Layer 10 by definition: which indices are such for a height, which nodes a proof has, indices in order. Nothing here walks.
  Layer 10, the document's side: slices of indices; whether one is below a node.
  Layer 10, the document's side: spots as values; slices of spots that grow; Spots.
  Layer 10, the document's side: hashes of nodes, one behind the other: Leaves, Make.
-/
import Derived.Test.YtfmbpdjcoopaeaaDoorY3
import Derived.Test.YtfmbpdjcoopaeaaDoorX0
import Derived.Test.YtfmbpdjcoopaeaaDoorY1
import Derived.Maps.AppendAt
import Derived.Laws.OwnMore
import Derived.Deep.AppendLies
import Derived.Great.BuildSlice
import Derived.Test.YtfmbpdjcoopaeaaDoorM3
namespace Go.Proofs.YtfmbpdjcoopaeaaDoor

/-- Are indices such for a height? -/
def riseB (l : List Nat) : Bool := (List.range l.length).all fun i => decide (i = 0) || decide (l.getD (i - 1) 0 < l.getD i 0)
def fitB (h : Nat) (l : List Nat) : Bool := l.all fun x => decide (x < 2 ^ h)
def rgtB (h : Int) (l : List Nat) : Bool := decide (0 ≤ h) && decide (h ≤ 32) && decide (l ≠ []) && decide (l.length ≤ 256) && fitB h.toNat l && riseB l
end Go.Proofs.YtfmbpdjcoopaeaaDoor

namespace Go.Proofs.YtfmbpdjcoopaeaaDoor
open Go.RowKit

def nus (l : List Nat) : List Value := l.map fun (x : Nat) => Value.int .u64 (x : Int)
theorem nus_length (l : List Nat) : (nus l).length = l.length := by simp [nus]
theorem nus_one (l : List Nat) : ∀ u ∈ nus l, u.oneCell' = true := by
  intro u hu
  obtain ⟨x, -, rfl⟩ := List.mem_map.1 hu
  rfl
/-- Indices where they lie. -/
def Nu (W : World) (B : Nat) (A : Option Addr) (l : List Nat) : Prop := Rd W B A (nus l)
def okN (l : List Nat) : Prop := ∀ x ∈ l, x < 18446744073709551616
section
variable {W W' : World} {B : Nat} {A : Option Addr} {l : List Nat}
theorem Nu.below (h : Nu W B A l) (hb : Below B W W') : Nu W' B A l := Rd.below h hb
theorem Nu.new (h : Nu W W.heap.size A l) (hb : Below W.heap.size W W') : Nu W' W'.heap.size A l := (Rd.below h hb).mono hb.size
theorem Nu.at (h : Nu W B A l) {j : Nat} (hj : j < l.length) : ∃ g o, A = some ⟨g, o, none⟩ ∧ g < B ∧ W.cell? ⟨g, o + j, none⟩ = some (.int .u64 ((l[j] : Nat) : Int)) := by
  have := Rd.at_ h (k := j) (u := .int .u64 ((l[j] : Nat) : Int)) (by unfold nus; rw [List.getElem?_map, List.getElem?_eq_getElem hj]; rfl)
  exact this
end
end Go.Proofs.YtfmbpdjcoopaeaaDoor

namespace Go.Proofs.YtfmbpdjcoopaeaaDoor
open Go.RowKit

/-- A spot's cells; spots one behind the other. -/
def sptV (p : Nat × Nat) : List Value := [.int .i64 (p.1 : Int), .int .u64 (p.2 : Int)]
def sptR (L : List (Nat × Nat)) : List Value := L.flatMap sptV
theorem sptR_one (p : Nat × Nat) : sptR [p] = sptV p := by simp [sptR]
/-- A slice of spots of the call's own. -/
def Asp (W : World) (base : Nat) (v : Value) (L : List (Nat × Nat)) : Prop := W.ownsRow base 186 2 v L.length (sptR L)
theorem Asp.nil (W : World) (base : Nat) : Asp W base (.slice none 0 0) [] := World.ownsRow_nil _ _ _ _
theorem Asp.one (W : World) {base : Nat} (p : Nat × Nat) (hb : base ≤ W.heap.size) : Asp (W.alloc (.cells (sptV p).toArray 186)) base (.slice (some ⟨W.heap.size, 0, none⟩) 1 1) [p] := by
  have := World.ownsRow_lit (e := 186) (size := 2) W (sptV p).toArray 1 hb (by unfold maxLen; decide) rfl
  unfold Asp
  rw [sptR_one]
  exact this
theorem Asp.form {W : World} {base : Nat} {v : Value} {L : List (Nat × Nat)} (h : Asp W base v L) : ∃ A c, v = .slice A L.length c := by
  rcases h.2 with ⟨h1, h2⟩ | ⟨g, cap, cur, e, -⟩
  · rw [h1, h2]
    exact ⟨_, _, rfl⟩
  · exact ⟨_, _, e⟩
theorem Asp.kept {W W' : World} {base : Nat} {v : Value} {L : List (Nat × Nat)} (h : Asp W base v L) (hb : Below W.heap.size W W') : Asp W' base v L := by
  refine ⟨h.1, ?_⟩
  rcases h.2 with h2 | ⟨g, cap, cur, rfl, hb1, hh, r⟩
  · exact .inl h2
  · exact .inr ⟨g, cap, cur, rfl, hb1, (hb.block g (lt_of_block hh)).trans hh, r⟩
theorem Asp.lt {W : World} {base : Nat} {v : Value} {L : List (Nat × Nat)} (h : Asp W base v L) : ∀ k, v.ownBlock = some k → base ≤ k ∧ k < W.heap.size := World.ownsRow.lt h
theorem Asp.mono {W : World} {base base' : Nat} {v : Value} {L : List (Nat × Nat)} (h : Asp W base v L) (hb : base' ≤ base) : Asp W base' v L := by
  refine ⟨h.1, ?_⟩
  rcases h.2 with h2 | ⟨g, cap, cur, rfl, hb1, r⟩
  · exact .inl h2
  · exact .inr ⟨g, cap, cur, rfl, Nat.le_trans hb hb1, r⟩
/-- What it reads as. -/
theorem Asp.rd {W : World} {base c : Nat} {A : Option Addr} {L : List (Nat × Nat)} (h : Asp W base (.slice A L.length c) L) : Rd W W.heap.size A (sptR L) := fun hne => by
  rcases h.2 with ⟨h1, h2⟩ | ⟨g, cap, cur, e, hb, hh, -⟩
  · refine absurd ?_ hne
    obtain rfl : L = [] := List.eq_nil_of_length_eq_zero h2
    rfl
  · obtain rfl : A = some ⟨g, 0, none⟩ := by cases e; rfl
    refine ⟨g, 0, rfl, lt_of_block hh, fun j u hu => ?_⟩
    have := World.ownsRow.cells h (g := g) rfl j u hu
    rwa [add_plain] at this
end Go.Proofs.YtfmbpdjcoopaeaaDoor

namespace Go.Proofs.YtfmbpdjcoopaeaaDoor
open Go.RowKit

/-- Hashes that grow in new memory. -/
structure GhW (w : World) (v : Value) (n : Nat) (bs : List UInt8) (W : World) : Prop where
  a : Ah W w.heap.size v n bs
  b : Below w.heap.size w W
theorem GhW.start (w : World) : GhW w (.slice none 0 0) 0 [] w := ⟨Ah.nil _ _, Below.refl _ _⟩
theorem GhW.new {w W W' : World} {v : Value} {n : Nat} {bs : List UInt8} (h : GhW w v n bs W) (hb : Below W.heap.size W W') : GhW w v n bs W' := ⟨h.a.kept hb, h.b.trans (hb.mono h.b.size)⟩
end Go.Proofs.YtfmbpdjcoopaeaaDoor
