/-
  Writing and cutting steps, two scripts, as they came in.
-/
import Derived.Test.YtdegmcfcbndelaaDoorJ9
namespace Go.Proofs.YtdegmcfcbndelaaDoor
open Go.ChangeShapes Go.WideShapes Go.ChangeAt Go.RowKit Go.Deep

section
variable {H : Type} {enc : TypeId × Value → H} {W : World} {sp : Nat → Bool} {fuel : Nat} {x : DataW H × List MemPlace}
theorem cellsCut12 : Tryd.prog.cellsOf 83 = 33 := by kernel_rfl
theorem cellsWrite12 : Tryd.prog.cellsOf 72 = 3 := by kernel_rfl
theorem cellsSu12 : Tryd.prog.cellsOf 58 = 1 := by kernel_rfl
theorem cellsSa12 : Tryd.prog.cellsOf 22 = 1 := by kernel_rfl
/-- A cutting step that came in. -/
theorem open_cut12 {cs : List Value} (h : DataW.trod enc Tryd.prog W 0 sp true fuel 83 cs = some x) :
    ∃ leaf S n c bs, cs = ubs leaf ++ [.slice S n c] ∧ leaf.length = 32 ∧ Rd W W.heap.size S (ubs bs) ∧ bs.length = 32 * n ∧ n ≤ c := by
  obtain ⟨xs, m, rfl, -, hc, hl, hf⟩ := DataW.trod_struct Tryd.underlying83 h
  have h0 : DataW.trod enc Tryd.prog W 0 sp true m 25 ((cs.drop 0).take (Tryd.prog.cellsOf 25)) = xs[0]? := hf 0 _ rfl
  have h1 : DataW.trod enc Tryd.prog W 0 sp true m 31 ((cs.drop 32).take (Tryd.prog.cellsOf 31)) = xs[1]? := hf 1 _ rfl
  rw [List.getElem?_eq_getElem (by rw [hl]; decide)] at h0 h1
  rw [cellsHs9] at h0
  rw [cellsSl10] at h1
  rw [cellsCut12] at hc
  obtain ⟨d, e0, b0⟩ := open_block Tryd.underlying25 (by simp; omega) h0
  obtain ⟨S, n, c, bs, e1, r1⟩ := open_hashes h1
  refine ⟨d, S, n, c, bs, ?_, b0, r1⟩
  exact take_two (cs := cs) (n := 32) (m := 1) (by simpa using e0) e1 hc
/-- A writing step that came in. -/
theorem open_write12 {cs : List Value} (h : DataW.trod enc Tryd.prog W 0 sp true fuel 72 cs = some x) :
    ∃ S0 c0 l S1 n1 c1 b1 S2 n2 c2 b2, cs = [.slice S0 (l : List Nat).length c0, .slice S1 n1 c1, .slice S2 n2 c2] ∧ (Nu W W.heap.size S0 l ∧ okN l ∧ l.length ≤ c0) ∧ (Rd W W.heap.size S1 (ubs b1) ∧ b1.length = 32 * n1 ∧ n1 ≤ c1) ∧ Rd W W.heap.size S2 (ubs b2) ∧ b2.length = 32 * n2 ∧ n2 ≤ c2 := by
  obtain ⟨xs, m, rfl, -, hc, hl, hf⟩ := DataW.trod_struct Tryd.underlying72 h
  have h0 : DataW.trod enc Tryd.prog W 0 sp true m 58 ((cs.drop 0).take (Tryd.prog.cellsOf 58)) = xs[0]? := hf 0 _ rfl
  have h1 : DataW.trod enc Tryd.prog W 0 sp true m 31 ((cs.drop 1).take (Tryd.prog.cellsOf 31)) = xs[1]? := hf 1 _ rfl
  have h2 : DataW.trod enc Tryd.prog W 0 sp true m 31 ((cs.drop 2).take (Tryd.prog.cellsOf 31)) = xs[2]? := hf 2 _ rfl
  rw [List.getElem?_eq_getElem (by rw [hl]; decide)] at h0 h1 h2
  rw [cellsSu12] at h0
  rw [cellsSl10] at h1 h2
  rw [cellsWrite12] at hc
  rcases cs with _ | ⟨v0, _ | ⟨v1, _ | ⟨v2, _ | ⟨v3, cs⟩⟩⟩⟩
  · simp at hc
  · simp at hc
  · simp at hc
  · obtain ⟨S0, c0, l, e0, r0⟩ := open_nums h0
    obtain ⟨S1, n1, c1, b1, e1, r1⟩ := open_hashes h1
    obtain ⟨S2, n2, c2, b2, e2, r2⟩ := open_hashes h2
    refine ⟨S0, c0, l, S1, n1, c1, b1, S2, n2, c2, b2, ?_, r0, r1, r2⟩
    simp at e0 e1 e2
    rw [e0, e1, e2]
  · simp at hc
set_option maxRecDepth 100000 in
/-- Two scripts that came in. -/
theorem open_two_acts {cs : List Value} (h : DataW.trod enc Tryd.prog W 0 sp true fuel 97 cs = some x) (hl : cs.length = 2) :
    ∃ S0 c0 a0 S1 c1 a1, cs = [.slice S0 (a0 : List Act9).length c0, .slice S1 (a1 : List Act9).length c1] ∧ (Av W W.heap.size S0 a0 ∧ okA a0 ∧ a0.length ≤ c0) ∧ Av W W.heap.size S1 a1 ∧ okA a1 ∧ a1.length ≤ c1 := by
  obtain ⟨ys, m, _, _, _, hys, hel⟩ := DataW.trod_array Tryd.underlying97 h
  have cp := cellsSa12
  have h0 : DataW.trod enc Tryd.prog W 0 sp true m 22 ((cs.drop (0 * Tryd.prog.cellsOf 22)).take (Tryd.prog.cellsOf 22)) = ys[0]? := hel 0 (by omega)
  have h1 : DataW.trod enc Tryd.prog W 0 sp true m 22 ((cs.drop (1 * Tryd.prog.cellsOf 22)).take (Tryd.prog.cellsOf 22)) = ys[1]? := hel 1 (by omega)
  generalize Tryd.prog.cellsOf 22 = q at h0 h1 cp
  subst cp
  rw [List.getElem?_eq_getElem (by omega)] at h0 h1
  obtain ⟨S0, c0, a0, e0, r0⟩ := open_acts9 h0
  obtain ⟨S1, c1, a1, e1, r1⟩ := open_acts9 h1
  refine ⟨S0, c0, a0, S1, c1, a1, ?_, r0, r1⟩
  have := take_two (cs := cs) (n := 1) (m := 1) (by simpa using e0) (by simpa using e1) hl
  rw [this]
  rfl
end
end Go.Proofs.YtdegmcfcbndelaaDoor
