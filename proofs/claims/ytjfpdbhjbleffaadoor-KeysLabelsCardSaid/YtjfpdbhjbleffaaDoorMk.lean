/-
  Rows of noughts made.
-/
import Derived.Test.YtjfpdbhjbleffaaDoorCm
namespace Go.Proofs.YtjfpdbhjbleffaaDoor
open Go.RowKit

theorem madeB (n : Nat) : madeCells (Value.int .u8 0).cells (n * 1) = (ubs (List.replicate n 0)).toArray := by
  apply Array.toList_inj.1
  rw [Nat.mul_one]
  show (madeCells #[Value.int .u8 0] n).toList = _
  rw [toList_madeCells_one]
  simp [ubs, ub]
/-- make([]byte, n). -/
theorem run_makeB (n : Nat) (h : n ≤ 281474976710656) (w : World) : (Instr.makeSlice 41 (.int .i64 (n : Int)) (.int .i64 (n : Int))).run Tryd.prog w = .ok (.slice (some ⟨w.heap.size, 0, none⟩) n n) (w.alloc (.cells (ubs (List.replicate n 0)).toArray 5)) := by
  obtain ⟨i0, hi, hz0, hz1, hz2⟩ := info_parts infoB
  have := run_make (P := Tryd.prog) w 41 5 i0 _ Tryd.underlying41 hi hz0 .i64 .i64 n n (by omega) (by omega) (by rw [hz2]; omega) (by omega)
  rw [hz1, Int.toNat_natCast, madeB] at this
  exact this
end Go.Proofs.YtjfpdbhjbleffaaDoor
