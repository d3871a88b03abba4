/-
  Strings, and pairs of them, that came in.
-/
import Derived.Test.YtjfpdbhjbleffaaDoorOc
namespace Go.Proofs.YtjfpdbhjbleffaaDoor
open Go.ChangeShapes Go.WideShapes Go.ChangeAt Go.RowKit Go.Deep
theorem str_list (s : ByteArray) : ∃ l : List UInt8, s = ⟨l.toArray⟩ := ⟨s.data.toList, by cases s; simp⟩
section
variable {H : Type} {enc : TypeId × Value → H} {W : World} {sp : Nat → Bool} {fuel : Nat} {x : DataW H × List MemPlace}
theorem open_pair_str {cs : List Value} (hl : cs.length = 2) (h : DataW.trod enc Tryd.prog W 0 sp true fuel 38 cs = some x) : ∃ a b : List UInt8, cs = [.string ⟨a.toArray⟩, .string ⟨b.toArray⟩] := by
  obtain ⟨ys, m, _, _, _, hys, hel⟩ := DataW.trod_array Tryd.underlying38 h
  have each : ∀ i, i < 2 → ∃ a : List UInt8, cs[i]? = some (.string ⟨a.toArray⟩) := by
    intro i hi
    have h1 := hel i hi
    rw [show Tryd.prog.cellsOf 9 = 1 by kernel_rfl, Nat.mul_one, List.getElem?_eq_getElem (by omega)] at h1
    obtain ⟨s, e1, _, _⟩ := DataW.trod_string Tryd.underlying9 h1
    obtain ⟨a, rfl⟩ := str_list s
    refine ⟨a, ?_⟩
    have : ((cs.drop i).take 1)[0]? = some (.string ⟨a.toArray⟩) := by rw [e1]; rfl
    have h4 : (cs.drop i)[0]? = some (.string ⟨a.toArray⟩) := by simpa using this
    rwa [List.getElem?_drop, Nat.add_zero] at h4
  obtain ⟨a, ha⟩ := each 0 (by omega)
  obtain ⟨b, hb⟩ := each 1 (by omega)
  refine ⟨a, b, List.ext_getElem? fun i => ?_⟩
  rcases i with _ | _ | i
  · exact ha
  · exact hb
  · rw [List.getElem?_eq_none (by omega)]
    rfl
end
end Go.Proofs.YtjfpdbhjbleffaaDoor
