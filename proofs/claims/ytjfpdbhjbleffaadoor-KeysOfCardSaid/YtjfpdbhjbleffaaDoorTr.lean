/-
  A word turned right: the program's and the document's.
-/
import Derived.Test.YtjfpdbhjbleffaaDoorWd
import Derived.Test.YtjfpdbhjbleffaaDoorProg
namespace Go.Proofs.YtjfpdbhjbleffaaDoor
open Go.RowKit

/-- A word turned right. -/
def rot (x : BitVec 32) (k : Nat) : BitVec 32 := x >>> k ||| x <<< (32 - k)

theorem and31 (k : Nat) (h1 : 1 ≤ k) (h2 : k ≤ 31) : bits .and .u64 (IntKind.u64.wrap (-(k : Int))) 31 = 32 - (k : Int) := by
  have e : ∀ j : Nat, j < 31 → bits .and .u64 (IntKind.u64.wrap (-((j + 1 : Nat) : Int))) 31 = 32 - ((j + 1 : Nat) : Int) := by decide
  have := e (k - 1) (by omega)
  rwa [show k - 1 + 1 = k by omega] at this

set_option maxRecDepth 100000 in
theorem rotl_any (x : BitVec 32) (k : Nat) (w : World) (h1 : 1 ≤ k) (h2 : k ≤ 31) :
    Calls Tryd.prog 46 #[uw x, .int .i64 (-(k : Int))] w fun e w' => e = .returned (uw (rot x k)) ∧ w = w' := by
  have hn := and31 k h1 h2
  have hs := w_shl 71 x (32 - (k : Int)) .u64 (by omega)
  have ht := w_shr 71 x (k : Int) .u64 (by omega)
  rw [show (32 - (k : Int)).toNat = 32 - k by omega] at hs
  rw [Int.toNat_natCast] at ht
  have hd : (32 - (32 - (k : Int))) = k := by omega
  have hc : x <<< (32 - k) ||| x >>> k = rot x k := BitVec.or_comm _ _
  go_enter Tryd.func46, Tryd.ntmps46
  go_wp2
  go_ret
  exact ⟨rfl, rfl⟩
set_option maxRecDepth 100000 in
theorem right_any (x : BitVec 32) (k : Nat) (w : World) (h1 : 1 ≤ k) (h2 : k ≤ 31) :
    Calls Tryd.prog 45 #[uw x, .int .i64 (k : Int)] w fun e w' => e = .returned (uw (rot x k)) ∧ w = w' := by
  go_enter Tryd.func45, Tryd.ntmps45
  go_wp2_with (go_at_call 46; refine (rotl_any _ _ _ h1 h2).mono ?_; rintro e w' ⟨rfl, rfl⟩)
  go_ret
  exact ⟨rfl, rfl⟩
set_option maxRecDepth 100000 in
theorem turn_any (x : BitVec 32) (k : Nat) (w : World) (h1 : 1 ≤ k) (h2 : k ≤ 31) :
    Calls Tryd.prog 38 #[uw x, .int .i64 (k : Int)] w fun e w' => e = .returned (uw (rot x k)) ∧ w = w' := by
  have hs := w_shl 71 x (32 - (k : Int)) .u64 (by omega)
  rw [show (32 - (k : Int)).toNat = 32 - k by omega] at hs
  go_enter Tryd.func38, Tryd.ntmps38
  go_wp2
  go_ret
  exact ⟨rfl, rfl⟩
/-- The same, the number as the walk has it. -/
theorem right_i (x : BitVec 32) (n : Int) (w : World) (h1 : 1 ≤ n) (h2 : n ≤ 31) :
    Calls Tryd.prog 45 #[uw x, .int .i64 n] w fun e w' => e = .returned (uw (rot x n.toNat)) ∧ w' = w := by
  have := right_any x n.toNat w (by omega) (by omega)
  rw [Int.toNat_of_nonneg (by omega)] at this
  exact this.mono fun _ _ h => ⟨h.1, h.2.symm⟩
theorem turn_i (x : BitVec 32) (n : Int) (w : World) (h1 : 1 ≤ n) (h2 : n ≤ 31) :
    Calls Tryd.prog 38 #[uw x, .int .i64 n] w fun e w' => e = .returned (uw (rot x n.toNat)) ∧ w' = w := by
  have := turn_any x n.toNat w (by omega) (by omega)
  rw [Int.toNat_of_nonneg (by omega)] at this
  exact this.mono fun _ _ h => ⟨h.1, h.2.symm⟩
theorem right_j (x : BitVec 32) (n : Int) (w : World) (h1 : 1 ≤ n) (h2 : n ≤ 31) :
    Calls Tryd.prog 45 #[uw x, .int .i64 n] w fun e w' => e = .returned (uw (rot x n.toNat)) ∧ w = w' :=
  (right_i x n w h1 h2).mono fun _ _ h => ⟨h.1, h.2.symm⟩
theorem turn_j (x : BitVec 32) (n : Int) (w : World) (h1 : 1 ≤ n) (h2 : n ≤ 31) :
    Calls Tryd.prog 38 #[uw x, .int .i64 n] w fun e w' => e = .returned (uw (rot x n.toNat)) ∧ w = w' :=
  (turn_i x n w h1 h2).mono fun _ _ h => ⟨h.1, h.2.symm⟩
end Go.Proofs.YtjfpdbhjbleffaaDoor
