/-
  Spans, three lists of hashes, as they came in.
-/
import Derived.Test.YtlmecjnlinalkaaDoorJ9
namespace Go.Proofs.YtlmecjnlinalkaaDoor
open Go.ChangeShapes Go.WideShapes Go.ChangeAt Go.RowKit Go.Deep

section
variable {H : Type} {enc : TypeId × Value → H} {W : World} {sp : Nat → Bool} {fuel : Nat} {x : DataW H × List MemPlace}
theorem cellsSp11 : Tryd.prog.cellsOf 72 = 2 := by kernel_rfl
theorem open_span {cs : List Value} (h : DataW.trod enc Tryd.prog W 0 sp true fuel 72 cs = some x) :
    ∃ (i : Nat) (m : Int), cs = [.int .u64 (i : Int), .int .i64 m] ∧ i < 18446744073709551616 ∧ -9223372036854775808 ≤ m ∧ m < 9223372036854775808 := by
  obtain ⟨xs, n, rfl, -, hc, hl, hf⟩ := DataW.trod_struct Tryd.underlying72 h
  have h0 : DataW.trod enc Tryd.prog W 0 sp true n 23 ((cs.drop 0).take (Tryd.prog.cellsOf 23)) = xs[0]? := hf 0 _ rfl
  have h1 : DataW.trod enc Tryd.prog W 0 sp true n 3 ((cs.drop 1).take (Tryd.prog.cellsOf 3)) = xs[1]? := hf 1 _ rfl
  rw [List.getElem?_eq_getElem (by rw [hl]; decide)] at h0 h1
  rw [cellsU64p] at h0
  rw [cellsI64] at h1
  obtain ⟨i, e0, b0⟩ := open_u64 h0
  obtain ⟨m, e1, b1⟩ := open_i64 h1
  rw [cellsSp11] at hc
  refine ⟨i, m, ?_, b0, b1⟩
  have := take_two (cs := cs) (n := 1) (m := 1) e0 e1 hc
  rw [this]
  rfl
set_option maxRecDepth 100000 in
/-- Three lists of hashes. -/
theorem open_three_hashes {cs : List Value} (h : DataW.trod enc Tryd.prog W 0 sp true fuel 85 cs = some x) (hl : cs.length = 3) :
    ∃ S0 n0 c0 b0 S1 n1 c1 b1 S2 n2 c2 b2, cs = [.slice S0 n0 c0, .slice S1 n1 c1, .slice S2 n2 c2] ∧ (Rd W W.heap.size S0 (ubs b0) ∧ b0.length = 32 * n0 ∧ n0 ≤ c0) ∧ (Rd W W.heap.size S1 (ubs b1) ∧ b1.length = 32 * n1 ∧ n1 ≤ c1) ∧ Rd W W.heap.size S2 (ubs b2) ∧ b2.length = 32 * n2 ∧ n2 ≤ c2 := by
  obtain ⟨ys, m, _, _, _, hys, hel⟩ := DataW.trod_array Tryd.underlying85 h
  have cp := cellsSl10
  have h0 : DataW.trod enc Tryd.prog W 0 sp true m 31 ((cs.drop (0 * Tryd.prog.cellsOf 31)).take (Tryd.prog.cellsOf 31)) = ys[0]? := hel 0 (by omega)
  have h1 : DataW.trod enc Tryd.prog W 0 sp true m 31 ((cs.drop (1 * Tryd.prog.cellsOf 31)).take (Tryd.prog.cellsOf 31)) = ys[1]? := hel 1 (by omega)
  have h2 : DataW.trod enc Tryd.prog W 0 sp true m 31 ((cs.drop (2 * Tryd.prog.cellsOf 31)).take (Tryd.prog.cellsOf 31)) = ys[2]? := hel 2 (by omega)
  generalize Tryd.prog.cellsOf 31 = q at h0 h1 h2 cp
  subst cp
  rw [List.getElem?_eq_getElem (by omega)] at h0 h1 h2
  rcases cs with _ | ⟨v0, _ | ⟨v1, _ | ⟨v2, _ | ⟨v3, cs⟩⟩⟩⟩
  · simp at hl
  · simp at hl
  · simp at hl
  · obtain ⟨S0, n0, c0, b0, e0, r0⟩ := open_hashes h0
    obtain ⟨S1, n1, c1, b1, e1, r1⟩ := open_hashes h1
    obtain ⟨S2, n2, c2, b2, e2, r2⟩ := open_hashes h2
    refine ⟨S0, n0, c0, b0, S1, n1, c1, b1, S2, n2, c2, b2, ?_, r0, r1, r2⟩
    simp at e0 e1 e2
    rw [e0, e1, e2]
  · simp at hl
end
end Go.Proofs.YtlmecjnlinalkaaDoor
