/-
  The document's compression of a state with a block.
  The document's hash of a text.
-/
import Derived.Test.YtdegmcfcbndelaaDoorY2
import Derived.StillTailTactics
import Derived.BigQuiet
import Derived.Test.YtdegmcfcbndelaaDoorY3
namespace Go.Proofs.YtdegmcfcbndelaaDoor
open Go.RowKit

/-- What holds of the memory while the document compresses. -/
structure RcW (w : World) (s : S8) (ws : List (BitVec 32)) (w' : World) : Prop where
  st : At w' w.heap.size (us s.l).toArray 166
  res : At w' (w.heap.size + 1) (us z8).toArray 166
  words : At w' (w.heap.size + 1 + 1) (us ws).toArray 186
  below : Below w.heap.size w w'
theorem RcW.drewN {w w' : World} {s : S8} {ws : List (BitVec 32)} (h : RcW w s ws w') (n : Nat) : RcW w s ws (w'.drewN n) := ⟨h.st, h.res, h.words, below_drewN h.below n⟩
theorem RcW.put {w w' : World} {s : S8} {ws : List (BitVec 32)} (h : RcW w s ws w') (k : Nat) (x : BitVec 32) : RcW w s (ws.set k x) (w'.setCell ⟨w.heap.size + 1 + 1, k, none⟩ (uw x)) :=
  ⟨h.st.far (p := ⟨w.heap.size + 1 + 1, k, none⟩) (by simp; omega) _, h.res.far (p := ⟨w.heap.size + 1 + 1, k, none⟩) (by simp) _, at_us_put h.words k x, h.below.setCell (by simp; omega) _⟩
end Go.Proofs.YtdegmcfcbndelaaDoor

namespace Go.Proofs.YtdegmcfcbndelaaDoor
open Go.RowKit

/-- What holds of the memory while the document's hash is made: its result, its state, and the padded text. -/
structure SrW (w : World) (C g : Nat) (p : List UInt8) (s : S8) (w' : World) : Prop where
  res : At w' w.heap.size (ubs n32).toArray 25
  st : At w' C (us s.l).toArray 166
  pad : Rb w' C (some ⟨g, 0, none⟩) p
  lt : w.heap.size < C
  below : Below w.heap.size w w'
theorem SrW.drewN {w w' : World} {C g : Nat} {p : List UInt8} {s : S8} (h : SrW w C g p s w') (n : Nat) : SrW w C g p s (w'.drewN n) := ⟨h.res, h.st, h.pad.drewN n, h.lt, below_drewN h.below n⟩
/-- A call that leaves what was there, and the new state stored. -/
theorem SrW.next {w w' w2 : World} {C g : Nat} {p : List UInt8} {s : S8} (t : S8) (h : SrW w C g p s w') (hb : Below w'.heap.size w' w2) : SrW w C g p t (w2.setRow C (us t.l).toArray) := by
  have hC := h.st.lt
  have h1 : At w2 C (us s.l).toArray 166 := h.st.below hb hC
  have hw : w.heap.size < w'.heap.size := by have := h.lt; omega
  have hB : Below C w2 (w2.setRow C (us t.l).toArray) := below_setRow (Below.refl _ _) (Nat.le_refl _) _
  exact ⟨(h.res.below hb hw).below hB h.lt, setRow_heap _ _ _ _ _ _ h1, (Rd.below h.pad (hb.mono (Nat.le_of_lt hC))).below hB, h.lt, below_setRow (h.below.trans (hb.mono h.below.size)) (Nat.le_of_lt h.lt) _⟩
theorem SrW.at_ {w w' : World} {C g : Nat} {p : List UInt8} {s : S8} (h : SrW w C g p s w') {w2 : World} (hb : Below w'.heap.size w' w2) : At w2 C (us s.l).toArray 166 := h.st.below hb h.st.lt

end Go.Proofs.YtdegmcfcbndelaaDoor
