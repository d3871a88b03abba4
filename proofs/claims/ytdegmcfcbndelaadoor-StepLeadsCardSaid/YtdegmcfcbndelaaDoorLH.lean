/-
  Layer 10, the document's side: an index put among those in order; what Sort's last region asks.
  Layer 10, the document's side: Sort.
-/
import Derived.Test.YtdegmcfcbndelaaDoorK6
import Derived.Test.YtdegmcfcbndelaaDoorK1
import Derived.Test.YtdegmcfcbndelaaDoorY1
import Derived.Test.YtdegmcfcbndelaaDoorX0
namespace Go.Proofs.YtdegmcfcbndelaaDoor
open Go.RowKit

theorem insS_length (x : Nat) (L : List Nat) : (insS x L).length ≤ L.length + 1 := by
  unfold insS
  split
  · omega
  · have h : ∀ M : List Nat, (M.filter (fun y => decide (y < x))).length + (M.filter (fun y => decide (x < y))).length ≤ M.length := by
      intro M
      induction M with
      | nil => simp
      | cons a M ih =>
        rw [List.filter_cons, List.filter_cons]
        by_cases h1 : a < x
        · simp [h1, show ¬ x < a by omega]
          omega
        · by_cases h2 : x < a
          · simp [h1, h2]
            omega
          · simp [h1, h2]
            omega
    have := h L
    rw [List.length_append, List.length_cons]
    omega
theorem sortS_length (l : List Nat) (j : Nat) (hj : j ≤ l.length) : (sortS (l.take j)).length ≤ j := by
  induction j with
  | zero => exact Nat.le_refl _
  | succ j ih =>
    rw [sortS_next l j (by omega)]
    have := insS_length l[j] (sortS (l.take j))
    have := ih (by omega)
    omega
theorem run_buildU1 {o : Oper} {a : Go.Act} {W : World} (x : Operand) (ho : o.op = .buildSlice 58 1 #[(0, x)]) (n : Nat) (hx : a.eval x = .int .u64 (n : Int)) :
    (execOp a.eval o).run Tryd.prog W = .ok (.value (.slice (some ⟨W.heap.size, 0, none⟩) 1 1)) (W.alloc (.cells #[.int .u64 (n : Int)] 23)) := by
  obtain ⟨ie, hie, hz, hs, -⟩ := infoU_parts
  unfold execOp
  simp only [ho, Sem.run_bind]
  rw [run_buildSlice W _ _ 1 _ #[.int .u64 (n : Int)] ie _ Tryd.underlying58 hie hz (by rw [hs]; decide) (by rw [hs]; decide) (by rw [hs]; simp [hx]; kernel_rfl)]
  rfl
section
variable {o : Oper} {a : Go.Act} {W : World} {K : Go.Act → World → Prop} {Q : Exit → Go.Act → World → Prop}
end
theorem Aun.mono {W : World} {base base' : Nat} {v : Value} {L : List Nat} (h : Aun W base v L) (hb : base' ≤ base) : Aun W base' v L := by
  refine ⟨h.1, ?_⟩
  rcases h.2 with h2 | ⟨g, cap, cur, rfl, hb1, r⟩
  · exact .inl h2
  · exact .inr ⟨g, cap, cur, rfl, Nat.le_trans hb hb1, r⟩
end Go.Proofs.YtdegmcfcbndelaaDoor

namespace Go.Proofs.YtdegmcfcbndelaaDoor
open Go.RowKit

end Go.Proofs.YtdegmcfcbndelaaDoor
