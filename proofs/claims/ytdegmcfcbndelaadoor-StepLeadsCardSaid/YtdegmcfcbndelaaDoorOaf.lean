/-
  Writing and cutting steps, two scripts, as they came in.
-/
import Derived.Test.YtdegmcfcbndelaaDoorJ9
namespace Go.Proofs.YtdegmcfcbndelaaDoor
open Go.ChangeShapes Go.WideShapes Go.ChangeAt Go.RowKit Go.Deep

section
variable {H : Type} {enc : TypeId × Value → H} {W : World} {sp : Nat → Bool} {fuel : Nat} {x : DataW H × List MemPlace}
theorem cellsSa12 : Tryd.prog.cellsOf 22 = 1 := by kernel_rfl
set_option maxRecDepth 100000 in
/-- Two scripts that came in. -/
theorem open_two_acts {cs : List Value} (h : DataW.trod enc Tryd.prog W 0 sp true fuel 97 cs = some x) (hl : cs.length = 2) :
    ∃ S0 c0 a0 S1 c1 a1, cs = [.slice S0 (a0 : List Act9).length c0, .slice S1 (a1 : List Act9).length c1] ∧ (Av W W.heap.size S0 a0 ∧ okA a0 ∧ a0.length ≤ c0) ∧ Av W W.heap.size S1 a1 ∧ okA a1 ∧ a1.length ≤ c1 := by
  obtain ⟨ys, m, _, _, _, hys, hel⟩ := DataW.trod_array Tryd.underlying97 h
  have cp := cellsSa12
  have h0 : DataW.trod enc Tryd.prog W 0 sp true m 22 ((cs.drop (0 * Tryd.prog.cellsOf 22)).take (Tryd.prog.cellsOf 22)) = ys[0]? := hel 0 (by omega)
  have h1 : DataW.trod enc Tryd.prog W 0 sp true m 22 ((cs.drop (1 * Tryd.prog.cellsOf 22)).take (Tryd.prog.cellsOf 22)) = ys[1]? := hel 1 (by omega)
  generalize Tryd.prog.cellsOf 22 = q at h0 h1 cp
  subst cp
  rw [List.getElem?_eq_getElem (by omega)] at h0 h1
  obtain ⟨S0, c0, a0, e0, r0⟩ := open_acts9 h0
  obtain ⟨S1, c1, a1, e1, r1⟩ := open_acts9 h1
  refine ⟨S0, c0, a0, S1, c1, a1, ?_, r0, r1⟩
  have := take_two (cs := cs) (n := 1) (m := 1) (by simpa using e0) (by simpa using e1) hl
  rw [this]
  rfl
end
end Go.Proofs.YtdegmcfcbndelaaDoor
