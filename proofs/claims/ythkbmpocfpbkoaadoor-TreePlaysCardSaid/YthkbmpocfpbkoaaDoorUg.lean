/-
  The program's layer 7: Put.
-/
import Derived.Test.YthkbmpocfpbkoaaDoorV4
import Derived.Test.YthkbmpocfpbkoaaDoorY1
namespace Go.Proofs.YthkbmpocfpbkoaaDoor
open Go.RowKit

def putL7 (e : Nat) (d t : List UInt8) : List UInt8 := toBE 8 e ++ d ++ t
theorem putL7_length (e : Nat) (d t : List UInt8) (hd : d.length = 32) (ht : t.length = 16) : (putL7 e d t).length = 56 := by simp [putL7, toBE_length, hd, ht]
/-- A row that is owned, as a block. -/
theorem ow_row {W : World} {base n c : Nat} {A : Option Addr} {bs : List UInt8} (h : Ow W base (.slice A (n + 1) c) bs) (hl : bs.length = n + 1) : ∃ g cur, A = some ⟨g, 0, none⟩ ∧ base ≤ g ∧ At W g cur 5 ∧ cur.toList.take (n + 1) = ubs bs := by
  rcases h.2 with ⟨h1, h2⟩ | ⟨g, cap, cur, h1, hg, hh, _, _, h5, h6⟩
  · obtain ⟨-, e2, -⟩ := Value.slice.inj h1
    omega
  · obtain ⟨e1, -, -⟩ := Value.slice.inj h1
    exact ⟨g, cur, e1, hg, hh, by simpa [hl] using h6⟩
/-- Only new memory has turned since. -/
def WB (w W : World) : Prop := True ∧ Below w.heap.size w W
end Go.Proofs.YthkbmpocfpbkoaaDoor
