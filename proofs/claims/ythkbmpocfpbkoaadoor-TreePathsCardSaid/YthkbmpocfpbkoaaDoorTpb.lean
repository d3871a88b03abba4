/-
  TreePaths of layer 9, whatever the height and the script.
-/
import Derived.Test.YthkbmpocfpbkoaaDoorTpa
namespace Go.Proofs.YthkbmpocfpbkoaaDoor
open Go.RowKit

theorem treePaths_law {Pt : PtT} {w : World} (t : T9c Pt w) (hJ : JoinC w) (h : Int) (sc : List Act9) (A : Option Addr) (c : Nat) (hsc : Av w w.heap.size A sc) (ho : okA sc) (i : Nat) (hi : i < 18446744073709551616) :
    Calls Tryd.prog 6 #[.int .i64 h, .slice A sc.length c, .int .u64 (i : Int)] w fun r w' => r = .returned (.bool true) ∧ Below w.heap.size w w' := by
  by_cases hl : sc.length ≤ 25
  · by_cases hh : 0 ≤ h ∧ h ≤ 32
    · exact treePaths_ok t hJ h sc A c hsc ho i hi hl hh
    · exact treePaths_range t h sc.length A c i hl (by omega)
  · exact treePaths_large t h sc.length A c i (by omega)
end Go.Proofs.YthkbmpocfpbkoaaDoor
