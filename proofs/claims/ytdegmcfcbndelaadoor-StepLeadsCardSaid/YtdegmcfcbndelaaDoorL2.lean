/-
  Layer 9, the document's side: part, walked.
  Layer 9, the document's side: Node, Root.
  Layer 9, the document's side: Root, Path.
  Layer 9, the document's side: a tree that grows leaf by leaf; Resize.
  entrustnum.Hashes: two slices of hashes held against each other.
-/
import Derived.Test.YtdegmcfcbndelaaDoorJ4
import Derived.Test.YtdegmcfcbndelaaDoorY1
import Derived.Test.YtdegmcfcbndelaaDoorY4
namespace Go.Proofs.YtdegmcfcbndelaaDoor
open Go.RowKit

end Go.Proofs.YtdegmcfcbndelaaDoor

namespace Go.Proofs.YtdegmcfcbndelaaDoor
open Go.RowKit

/-- The leaves below a node; a node. -/
def bS (n pl : Nat) (L : List (Nat × List UInt8)) : List (Nat × List UInt8) := L.filter fun p => p.1 >>> n == pl
def nodeS (n pl : Nat) (L : List (Nat × List UInt8)) : List UInt8 := partS n pl (bS n pl L)
theorem okL.bS {L : List (Nat × List UInt8)} (h : okL L) (n pl : Nat) : okL (bS n pl L) := fun p hp => h p (List.mem_filter.1 hp).1
theorem nodeS_length (n pl : Nat) (L : List (Nat × List UInt8)) (h : okL L) : (nodeS n pl L).length = 32 := partS_length _ _ _ (h.bS n pl)
attribute [irreducible] bS
end Go.Proofs.YtdegmcfcbndelaaDoor

namespace Go.Proofs.YtdegmcfcbndelaaDoor
open Go.RowKit

/-- A slice of hashes of the call's own, one behind the other. -/
def Ah (W : World) (base : Nat) (v : Value) (n : Nat) (bs : List UInt8) : Prop := W.ownsRow base 25 32 v n (ubs bs)
theorem Ah.nil (W : World) (base : Nat) : Ah W base (.slice none 0 0) 0 [] := World.ownsRow_nil _ _ _ _
theorem Ah.form {W : World} {base n : Nat} {v : Value} {bs : List UInt8} (h : Ah W base v n bs) : ∃ A c, v = .slice A n c := by
  rcases h.2 with ⟨h1, h2⟩ | ⟨g, cap, cur, e, -⟩
  · rw [h1, h2]
    exact ⟨_, _, rfl⟩
  · exact ⟨_, _, e⟩
theorem Ah.kept {W W' : World} {base n : Nat} {v : Value} {bs : List UInt8} (h : Ah W base v n bs) (hb : Below W.heap.size W W') : Ah W' base v n bs := by
  refine ⟨h.1, ?_⟩
  rcases h.2 with h2 | ⟨g, cap, cur, rfl, hb1, hh, r⟩
  · exact .inl h2
  · exact .inr ⟨g, cap, cur, rfl, hb1, (hb.block g (lt_of_block hh)).trans hh, r⟩
theorem Ah.lt {W : World} {base n : Nat} {v : Value} {bs : List UInt8} (h : Ah W base v n bs) : ∀ k, v.ownBlock = some k → base ≤ k ∧ k < W.heap.size := World.ownsRow.lt h
theorem Ah.rd {W : World} {base n c : Nat} {A : Option Addr} {bs : List UInt8} (h : Ah W base (.slice A n c) n bs) : Rd W W.heap.size A (ubs bs) := fun hne => by
  rcases h.2 with ⟨h1, h2⟩ | ⟨g, cap, cur, e, hb, hh, -⟩
  · refine absurd ?_ hne
    exact List.eq_nil_of_length_eq_zero (by have := h.1; rw [h2] at this; omega)
  · obtain rfl : A = some ⟨g, 0, none⟩ := by cases e; rfl
    refine ⟨g, 0, rfl, lt_of_block hh, fun j u hu => ?_⟩
    have := World.ownsRow.cells h (g := g) rfl j u hu
    rwa [add_plain] at this
/-- The node beside that above an index, on a level; all of them, one behind the other. -/
def sibN (k i : Nat) : Nat := if (i >>> k) % 2 = 0 then i >>> k + 1 else i >>> k - 1
def pathS (L : List (Nat × List UInt8)) (i : Nat) : Nat → List UInt8
  | 0 => []
  | k + 1 => pathS L i k ++ nodeS k (sibN k i) L
theorem pathS_succ (L : List (Nat × List UInt8)) (i k : Nat) : pathS L i (k + 1) = pathS L i k ++ nodeS k (sibN k i) L := rfl
attribute [irreducible] pathS
/-- What holds in Path. -/
structure PhW (w : World) (T : Array Value) (v : Value) (n : Nat) (bs : List UInt8) (W : World) : Prop where
  t : At W w.heap.size T 33
  a : Ah W (w.heap.size + 1) v n bs
  below : Below w.heap.size w W
section
variable {w W W' : World} {T : Array Value} {v v' : Value} {n : Nat} {bs l : List UInt8}
theorem PhW.new (h : PhW w T v n bs W) (hb : Below W.heap.size W W') : PhW w T v n bs W' := ⟨h.t.new_ hb, h.a.kept hb, h.below.trans (hb.mono h.below.size)⟩
theorem PhW.start (w : World) (T : Array Value) : PhW w T (.slice none 0 0) 0 [] (w.alloc (.cells T 33)) := ⟨At.new _ _ _, Ah.nil _ _, (Below.refl w.heap.size w).alloc (Nat.le_refl _) _⟩
theorem PhW.push {o : Obj} (h : PhW w T v n bs W) (ha : Ah W' (w.heap.size + 1) v' (n + 1) (bs ++ l)) (hg : (W.alloc o).grownBy W' v.ownBlock) : PhW w T v' (n + 1) (bs ++ l) W' := by
  have hn := h.new ((Below.refl W.heap.size W).alloc (Nat.le_refl _) o)
  refine ⟨hn.t.grown hg (fun e => ?_), ha, hn.below.grown hg hn.below.size (fun k hk => by have := (h.a.lt k hk).1; omega)⟩
  have := (h.a.lt _ e).1
  omega
end
end Go.Proofs.YtdegmcfcbndelaaDoor

namespace Go.Proofs.YtdegmcfcbndelaaDoor
open Go.RowKit

theorem Al.setCell {W : World} {base : Nat} {v u : Value} {L : List (Nat × List UInt8)} {p : Addr} (h : Al W base v L) (hp : p.block < base) : Al (W.setCell p u) base v L := by
  refine ⟨h.1, ?_⟩
  rcases h.2 with h2 | ⟨g, cap, cur, rfl, hb1, hh, r⟩
  · exact .inl h2
  · exact .inr ⟨g, cap, cur, rfl, hb1, (Below.heap_setCell W p u g (by omega)).trans hh, r⟩
/-- A tree whose leaves grow, in block X; blocks ahead of it. -/
structure OtW (w : World) (F : List (Nat × Array Value × TypeId)) (X : Nat) (h : Int) (E : Option Addr) (cE : Nat) (va : Value) (LA : List (Nat × List UInt8)) (W : World) : Prop where
  f : ∀ q ∈ F, At W q.1 q.2.1 q.2.2 ∧ q.1 < X
  o : At W X #[.int .i64 h, va, .slice E 33 cE] 33
  a : Al W (X + 1) va LA
  lo : w.heap.size ≤ X
  below : Below w.heap.size w W
section
variable {w W W' : World} {F : List (Nat × Array Value × TypeId)} {X cE : Nat} {h : Int} {E : Option Addr} {va v : Value} {LA : List (Nat × List UInt8)} {p : Nat × List UInt8}
theorem OtW.new (k : OtW w F X h E cE va LA W) (hb : Below W.heap.size W W') : OtW w F X h E cE va LA W' := ⟨fun q hq => ⟨(k.f q hq).1.new_ hb, (k.f q hq).2⟩, k.o.new_ hb, k.a.kept hb, k.lo, k.below.trans (hb.mono k.below.size)⟩
theorem OtW.drew (k : OtW w F X h E cE va LA W) : OtW w F X h E cE va LA W.drew := ⟨k.f, k.o, k.a, k.lo, k.below.drew⟩
theorem OtW.cell (k : OtW w F X h E cE va LA W) : W.cell? ⟨X, 1, none⟩ = some va := by rw [k.o.cell]; rfl
/-- A leaf went in. -/
theorem OtW.push (k : OtW w F X h E cE va LA W) (ha : Al W' (X + 1) v (LA ++ [p])) (hg : W.grownBy W' va.ownBlock) : OtW w F X h E cE v (LA ++ [p]) (W'.setCell ⟨X, 1, none⟩ v) := by
  have hne : ∀ g, g ≤ X → va.ownBlock ≠ some g := fun g hg' e => by
    have := (k.a.lt _ e).1
    omega
  have hX : At W' X #[.int .i64 h, va, .slice E 33 cE] 33 := k.o.grown hg (hne X (Nat.le_refl _))
  refine ⟨fun q hq => ?_, hX.put 1 v, ha.setCell (by show X < X + 1; omega), k.lo, (k.below.grown hg k.below.size (fun j hj => ?_)).setCell (p := ⟨X, 1, none⟩) k.lo v⟩
  · obtain ⟨h1, h2⟩ := k.f q hq
    exact ⟨(h1.grown hg (hne _ (by omega))).far (p := ⟨X, 1, none⟩) (by show q.1 ≠ X; omega) v, h2⟩
  · have := (k.a.lt _ hj).1
    have := k.lo
    omega
end
/-- The leaves of few enough indices. -/
def cutS (b : Nat) (L : List (Nat × List UInt8)) : List (Nat × List UInt8) := L.filter fun p => decide (p.1 < b)
theorem okL.cutS {L : List (Nat × List UInt8)} (h : okL L) (b : Nat) : okL (cutS b L) := fun p hp => h p (List.mem_filter.1 hp).1
attribute [irreducible] cutS
end Go.Proofs.YtdegmcfcbndelaaDoor

namespace Go.Proofs.YtdegmcfcbndelaaDoor
open Go.RowKit

/-- A hash of a row of them. -/
def hpart (bs : List UInt8) (j : Nat) : List UInt8 := (bs.drop (32 * j)).take 32
theorem hpart_length {bs : List UInt8} {n j : Nat} (hb : bs.length = 32 * n) (hj : j < n) : (hpart bs j).length = 32 := by
  rw [hpart, List.length_take, List.length_drop]
  omega
theorem hpart_range {W : World} {B n j : Nat} {A : Option Addr} {bs : List UInt8} (h : Rd W B A (ubs bs)) (hb : bs.length = 32 * n) (hj : j < n) : ∃ g o, A = some ⟨g, o, none⟩ ∧ g < B ∧ W.rangeAt g (o + 32 * j) (ubs (hpart bs j)) := by
  obtain ⟨g, o, rfl, hg, hc⟩ := h (fun e => by have := congrArg List.length e; rw [ubs_length, hb] at this; simp only [List.length_nil] at this; omega)
  refine ⟨g, o, rfl, hg, fun q u hq => ?_⟩
  have hq2 : q < 32 := by
    have := (List.getElem?_eq_some_iff.1 hq).1
    rw [ubs_length, hpart_length hb hj] at this
    exact this
  have := hc (32 * j + q) u (by
    unfold ubs at hq ⊢
    rw [List.getElem?_map] at hq ⊢
    unfold hpart at hq
    rwa [List.getElem?_take_of_lt hq2, List.getElem?_drop] at hq)
  rwa [← Nat.add_assoc] at this
end Go.Proofs.YtdegmcfcbndelaaDoor
