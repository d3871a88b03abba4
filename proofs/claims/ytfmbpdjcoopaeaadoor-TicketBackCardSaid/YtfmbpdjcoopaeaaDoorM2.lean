/-
  Layer 9, the document's side: leaves as values; the heights of trees (Has, High).
  Layer 9, the document's side: High, New.
  Layer 9, the document's side: slices of leaves that grow.
  Layer 9, the document's side: a node by the leaves below it (part).
-/
import Derived.Test.YtfmbpdjcoopaeaaDoorNl0
import Derived.Maps.AppendAt
import Derived.Deep.AppendLies
namespace Go.Proofs.YtfmbpdjcoopaeaaDoor
open Go.RowKit

/-- A leaf's cells; leaves one behind the other. -/
def lfV (p : Nat × List UInt8) : List Value := .int .u64 (p.1 : Int) :: ubs p.2
def lrow : List (Nat × List UInt8) → List Value
  | [] => []
  | p :: L => lfV p ++ lrow L
theorem lrow_nil : lrow [] = [] := rfl
/-- Leaves that are right: indices of 64 bits, hashes of 32 bytes. -/
def okL (L : List (Nat × List UInt8)) : Prop := ∀ p ∈ L, p.1 < 18446744073709551616 ∧ p.2.length = 32
theorem okL.nil : okL [] := fun _ h => nomatch h
theorem okL.append {L M : List (Nat × List UInt8)} (h : okL L) (k : okL M) : okL (L ++ M) := fun p hp => (List.mem_append.1 hp).elim (h p) (k p)
theorem okL.one {i : Nat} {h : List UInt8} (hi : i < 18446744073709551616) (hh : h.length = 32) : okL [(i, h)] := fun p hp => by
  obtain rfl : p = (i, h) := by simpa using hp
  exact ⟨hi, hh⟩
theorem okL.take {L : List (Nat × List UInt8)} (h : okL L) (k : Nat) : okL (L.take k) := fun p hp => h p (List.mem_of_mem_take hp)
attribute [irreducible] lrow
/-- What a slice of leaves reads as. -/
def Lv (W : World) (B : Nat) (A : Option Addr) (L : List (Nat × List UInt8)) : Prop := Rd W B A (lrow L)
section
variable {W W' : World} {B B' : Nat} {A : Option Addr} {L : List (Nat × List UInt8)}
theorem Lv.below (h : Lv W B A L) (hb : Below B W W') : Lv W' B A L := Rd.below h hb
theorem Lv.mono (h : Lv W B A L) (hB : B ≤ B') : Lv W B' A L := Rd.mono h hB
theorem Lv.new (h : Lv W W.heap.size A L) (hb : Below W.heap.size W W') : Lv W' W'.heap.size A L := (h.below hb).mono hb.size
theorem Lv.drew (h : Lv W B A L) : Lv W.drew B A L := h
end
/-- Whether there is such a node. -/
def hasB (h : Nat) (level : Int) (place : Nat) : Bool := decide (0 ≤ level) && decide (level ≤ h) && decide (place < 2 ^ (h - level.toNat))
theorem pow_le32 {k : Nat} (h : k ≤ 32) : 2 ^ k ≤ 4294967296 := by
  have := Nat.pow_le_pow_right (n := 2) (by omega) h
  simpa using this
end Go.Proofs.YtfmbpdjcoopaeaaDoor

namespace Go.Proofs.YtfmbpdjcoopaeaaDoor
open Go.RowKit

/-- All empty hashes as a slice reads them. -/
def Ev (W : World) (B : Nat) (E : Option Addr) : Prop := Rd W B E (ubs (eRow 33))
theorem Ev.new {W W' : World} {E : Option Addr} (h : Ev W W.heap.size E) (hb : Below W.heap.size W W') : Ev W' W'.heap.size E := (Rd.below h hb).mono hb.size
theorem Ev.drew {W : World} {B : Nat} {E : Option Addr} (h : Ev W B E) : Ev W.drew B E := h
/-- A slice that reads as before where another block is filled. -/
theorem Rd.row {W : World} {A : Option Addr} {xs : List Value} {g : Nat} (h : Rd W W.heap.size A xs) (hn : ∀ b o, A = some ⟨b, o, none⟩ → b ≠ g) (cs : Array Value) : Rd (W.setRow g cs) (W.setRow g cs).heap.size A xs := by
  have e : (W.setRow g cs).heap.size = W.heap.size := by simp [World.setRow]
  rw [e]
  exact Rd.fr h ((Fr.refl (fun k => k = g) W).setRow (.inr rfl) cs) (fun b o q hS => hn b o q hS)
end Go.Proofs.YtfmbpdjcoopaeaaDoor

namespace Go.Proofs.YtfmbpdjcoopaeaaDoor
open Go.RowKit

/-- A slice of leaves of the call's own. -/
def Al (W : World) (base : Nat) (v : Value) (L : List (Nat × List UInt8)) : Prop := W.ownsRow base 243 33 v L.length (lrow L)
theorem Al.nil (W : World) (base : Nat) : Al W base (.slice none 0 0) [] := by
  unfold Al
  rw [lrow_nil]
  exact World.ownsRow_nil _ _ _ _
theorem Al.form {W : World} {base : Nat} {v : Value} {L : List (Nat × List UInt8)} (h : Al W base v L) : ∃ A c, v = .slice A L.length c := by
  rcases h.2 with ⟨h1, h2⟩ | ⟨g, cap, cur, e, -⟩
  · rw [h1, h2]
    exact ⟨_, _, rfl⟩
  · exact ⟨_, _, e⟩
theorem Al.kept {W W' : World} {base : Nat} {v : Value} {L : List (Nat × List UInt8)} (h : Al W base v L) (hb : Below W.heap.size W W') : Al W' base v L := by
  refine ⟨h.1, ?_⟩
  rcases h.2 with h2 | ⟨g, cap, cur, rfl, hb1, hh, r⟩
  · exact .inl h2
  · exact .inr ⟨g, cap, cur, rfl, hb1, (hb.block g (lt_of_block hh)).trans hh, r⟩
end Go.Proofs.YtfmbpdjcoopaeaaDoor

namespace Go.Proofs.YtfmbpdjcoopaeaaDoor
open Go.RowKit

theorem At.grown {W W' : World} {g : Nat} {cs : Array Value} {T : TypeId} {row : Option Nat} (h : At W g cs T) (hg : W.grownBy W' row) (hn : row ≠ some g) : At W' g cs T := (hg.block g h.lt (Ne.symm hn)).trans h
theorem Al.lt {W : World} {base : Nat} {v : Value} {L : List (Nat × List UInt8)} (h : Al W base v L) : ∀ k, v.ownBlock = some k → base ≤ k ∧ k < W.heap.size := World.ownsRow.lt h
theorem Al.grown {W W' : World} {base : Nat} {v : Value} {L : List (Nat × List UInt8)} {row : Option Nat} (h : Al W base v L) (hg : W.grownBy W' row) (hn : ∀ g, v.ownBlock = some g → row ≠ some g) : Al W' base v L :=
  World.ownsRow.kept h hg (by
    cases e : v.ownBlock with
    | none => exact Or.inl rfl
    | some g => exact Or.inr (fun q => hn g e q.symm))
/-- What holds in part: the tree, the result, the leaves on both sides. -/
structure PtW (w : World) (T : Array Value) (va vb : Value) (LA LB : List (Nat × List UInt8)) (W : World) : Prop where
  t : At W w.heap.size T 80
  r : At W (w.heap.size + 1) (ubs n32).toArray 25
  a : Al W (w.heap.size + 2) va LA
  b : Al W (w.heap.size + 2) vb LB
  apart : ∀ g, va.ownBlock = some g → vb.ownBlock ≠ some g
  below : Below w.heap.size w W
section
variable {w W W' : World} {T : Array Value} {va vb v : Value} {LA LB : List (Nat × List UInt8)} {p : Nat × List UInt8}
theorem PtW.new (h : PtW w T va vb LA LB W) (hb : Below W.heap.size W W') : PtW w T va vb LA LB W' := ⟨h.t.new_ hb, h.r.new_ hb, h.a.kept hb, h.b.kept hb, h.apart, h.below.trans (hb.mono h.below.size)⟩
theorem PtW.drew (h : PtW w T va vb LA LB W) : PtW w T va vb LA LB W.drew := ⟨h.t, h.r, h.a, h.b, h.apart, h.below.drew⟩
theorem PtW.start (w : World) (T : Array Value) : PtW w T (.slice none 0 0) (.slice none 0 0) [] [] ((w.alloc (.cells T 80)).alloc (.cells (ubs n32).toArray 25)) :=
  ⟨(At.new _ _ _).alloc _, At.new_at (by simp), Al.nil _ _, Al.nil _ _, fun g h => by simp [Value.ownBlock] at h, ((Below.refl w.heap.size w).alloc (Nat.le_refl _) _).alloc (by simp) _⟩
end
end Go.Proofs.YtfmbpdjcoopaeaaDoor
