/-
  The program's layer 7: what is in range; a writer of the call's own; a place's bytes.
-/
import Derived.Test.YtnaihcoafgigcaaDoorSa
import Derived.Test.YtnaihcoafgigcaaDoorY9
namespace Go.Proofs.YtnaihcoafgigcaaDoor
open Go.RowKit

set_option maxRecDepth 100000 in
set_option maxHeartbeats 1000000 in
theorem pright_any (i e : Nat) (w : World) (he : e < 18446744073709551616) : Calls Tryd.prog 11 #[.int .u64 (i : Int), .int .u64 (e : Int)] w fun r w' => r = .returned (.bool (rightB i e)) ∧ w' = w := by
  by_cases h1 : i ≤ 4294967295
  · have c1 : decide ((i : Int) < 4294967296) = true := by simp; omega
    by_cases h2 : e = 0
    · have c2 : decide ((1 : Int) ≤ (e : Int)) = false := by rw [h2]; rfl
      have hr : rightB i e = false := by rw [rightB, h2]; simp
      rw [hr]
      clear h1 h2 hr he
      go_enter Tryd.func11, Tryd.ntmps11
      go_wp2
      go_ret
      exact ⟨rfl, rfl⟩
    · have c2 : decide ((1 : Int) ≤ (e : Int)) = true := by simp; omega
      by_cases h3 : e < 18446744073709551615
      · have c3 : decide ((e : Int) < 18446744073709551615) = true := by simp; omega
        have hr : rightB i e = true := by rw [rightB]; simp [h1, h2]; omega
        rw [hr]
        clear h1 h2 h3 hr he
        go_enter Tryd.func11, Tryd.ntmps11
        go_wp2
        go_ret
        exact ⟨rfl, rfl⟩
      · obtain rfl : e = 18446744073709551615 := by omega
        have hr : rightB i 18446744073709551615 = false := by rw [rightB]; simp
        rw [hr]
        clear h1 h2 h3 hr c2 he
        have c2 : decide ((1 : Int) ≤ ((18446744073709551615 : Nat) : Int)) = true := rfl
        have c3 : decide (((18446744073709551615 : Nat) : Int) < 18446744073709551615) = false := rfl
        go_enter Tryd.func11, Tryd.ntmps11
        go_wp2
        go_ret
        exact ⟨rfl, rfl⟩
  · have c1 : decide ((i : Int) < 4294967296) = false := by simp; omega
    have hr : rightB i e = false := by rw [rightB, decide_eq_false h1]; simp
    rw [hr]
    clear h1 hr he
    go_enter Tryd.func11, Tryd.ntmps11
    go_wp2
    go_ret
    exact ⟨rfl, rfl⟩
end Go.Proofs.YtnaihcoafgigcaaDoor
