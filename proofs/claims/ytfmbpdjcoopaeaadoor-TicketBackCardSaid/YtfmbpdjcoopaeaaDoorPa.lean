/-
  The program's layer 8: a writer that may bear an error; the texts of leaves and of nodes.
-/
import Derived.Test.YtfmbpdjcoopaeaaDoorNl0
import Derived.Test.YtfmbpdjcoopaeaaDoorUg
namespace Go.Proofs.YtfmbpdjcoopaeaaDoor
open Go.RowKit

/-- A writer that lies where the world w ends, its error's number, and the bytes that it has; nothing else has turned. -/
def WE (w : World) (k : Nat) (bs : List UInt8) (W : World) : Prop := (∃ v, WI W w.heap.size w.heap.size k v bs) ∧ Below w.heap.size w W
theorem WE.of {w W : World} {bs : List UInt8} (h : WN w bs W) : WE w 0 bs W := h
theorem WE.new {w W W' : World} {k : Nat} {bs : List UInt8} (h : WE w k bs W) (hb : Below W.heap.size W W') : WE w k bs W' := by
  obtain ⟨⟨v, h1⟩, h2⟩ := h
  exact ⟨⟨v, h1.keep (Fr.of_new (S := fun _ => False) hb) (fun _ _ => id)⟩, h2.trans (hb.mono h2.size)⟩
/-- A sealed block's bytes. -/
theorem pput_rb (d t : List UInt8) (e : Nat) (w : World) (hd : d.length = 32) (ht : t.length = 16) (he : e < 18446744073709551616) :
    Calls Tryd.prog 29 #[.agg (sv e d t).toArray] w fun r w' => ∃ A c, r = .returned (.slice A 56 c) ∧ Rb w' w'.heap.size A (putL e d t) ∧ Below w.heap.size w w' := by
  refine (pput_any d t e w hd ht he).mono ?_
  rintro r w' ⟨g, c, cur, rfl, hg, hA, hc, hb⟩
  refine ⟨_, c, rfl, Rd.of_at hA 0 (fun j u hj => ?_) hA.lt, hb⟩
  rw [Nat.zero_add, ← Array.getElem?_toList]
  have h1 : putL e d t = putL7 e d t := rfl
  rw [h1, ← hc] at hj
  have hlt : j < 56 := by
    have := (List.getElem?_eq_some_iff.1 hj).1
    rw [List.length_take] at this
    omega
  rwa [List.getElem?_take_of_lt hlt] at hj
end Go.Proofs.YtfmbpdjcoopaeaaDoor
