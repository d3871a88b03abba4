/-
  Layer 9, the document's side: a tree that grows leaf by leaf; Resize.
-/
import Derived.Test.YtfmbpdjcoopaeaaDoorM3
namespace Go.Proofs.YtfmbpdjcoopaeaaDoor
open Go.RowKit

theorem Al.setCell {W : World} {base : Nat} {v u : Value} {L : List (Nat × List UInt8)} {p : Addr} (h : Al W base v L) (hp : p.block < base) : Al (W.setCell p u) base v L := by
  refine ⟨h.1, ?_⟩
  rcases h.2 with h2 | ⟨g, cap, cur, rfl, hb1, hh, r⟩
  · exact .inl h2
  · exact .inr ⟨g, cap, cur, rfl, hb1, (Below.heap_setCell W p u g (by omega)).trans hh, r⟩
/-- A tree whose leaves grow, in block X; blocks ahead of it. -/
structure OtW (w : World) (F : List (Nat × Array Value × TypeId)) (X : Nat) (h : Int) (E : Option Addr) (cE : Nat) (va : Value) (LA : List (Nat × List UInt8)) (W : World) : Prop where
  f : ∀ q ∈ F, At W q.1 q.2.1 q.2.2 ∧ q.1 < X
  o : At W X #[.int .i64 h, va, .slice E 33 cE] 80
  a : Al W (X + 1) va LA
  lo : w.heap.size ≤ X
  below : Below w.heap.size w W
section
variable {w W W' : World} {F : List (Nat × Array Value × TypeId)} {X cE : Nat} {h : Int} {E : Option Addr} {va v : Value} {LA : List (Nat × List UInt8)} {p : Nat × List UInt8}
theorem OtW.new (k : OtW w F X h E cE va LA W) (hb : Below W.heap.size W W') : OtW w F X h E cE va LA W' := ⟨fun q hq => ⟨(k.f q hq).1.new_ hb, (k.f q hq).2⟩, k.o.new_ hb, k.a.kept hb, k.lo, k.below.trans (hb.mono k.below.size)⟩
theorem OtW.drew (k : OtW w F X h E cE va LA W) : OtW w F X h E cE va LA W.drew := ⟨k.f, k.o, k.a, k.lo, k.below.drew⟩
theorem OtW.cell (k : OtW w F X h E cE va LA W) : W.cell? ⟨X, 1, none⟩ = some va := by rw [k.o.cell]; rfl
end
end Go.Proofs.YtfmbpdjcoopaeaaDoor
