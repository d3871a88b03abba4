/-
  The document's layer 7: Put.
-/
import Derived.Test.YtnaihcoafgigcaaDoorSd
namespace Go.Proofs.YtnaihcoafgigcaaDoor
open Go.RowKit

def putL (e : Nat) (d t : List UInt8) : List UInt8 := toBE 8 e ++ d ++ t
theorem putL_length (e : Nat) (d t : List UInt8) (hd : d.length = 32) (ht : t.length = 16) : (putL e d t).length = 56 := by simp [putL, toBE_length, hd, ht]
/-- What a sealed block's parts read as. -/
theorem sv_rb_data {W : World} {g e : Nat} {d t : List UInt8} {T : TypeId} (h : At W g (sv e d t).toArray T) : Rb W W.heap.size (some ⟨g, 1, none⟩) d := fun _ => ⟨g, 1, rfl, h.lt, sv_data h⟩
theorem sv_rb_tag {W : World} {g e : Nat} {d t : List UInt8} {T : TypeId} (h : At W g (sv e d t).toArray T) (hd : d.length = 32) : Rb W W.heap.size (some ⟨g, 33, none⟩) t := fun _ => ⟨g, 33, rfl, h.lt, sv_tag h hd⟩
end Go.Proofs.YtnaihcoafgigcaaDoor
