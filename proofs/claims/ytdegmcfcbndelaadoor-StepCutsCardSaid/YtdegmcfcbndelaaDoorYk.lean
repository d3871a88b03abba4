/-
  Layer 12: StepCuts: the root behind any cutting step, and what any leaf and path come to.
-/
import Derived.Test.YtdegmcfcbndelaaDoorLL
import Derived.Test.YtdegmcfcbndelaaDoorLM
import Derived.Test.YtdegmcfcbndelaaDoorLN
import Derived.Test.YtdegmcfcbndelaaDoorLO
namespace Go.Proofs.YtdegmcfcbndelaaDoor
open Go.RowKit

set_option maxHeartbeats 400000 in
theorem stepCuts_law {w : World} (hA : Alive12C w) (leaf path rb : List UInt8) (n c a b m cr : Nat) (A AR : Option Addr) (hl : leaf.length = 32) (h1 : a < 18446744073709551616) (h2 : b < 18446744073709551616) (hc : n ≤ c) (hp : path.length = 32 * n) (hr : Rd w w.heap.size A (ubs path)) (hT : Tabs w) (hR : Tabr w) (hI : Tab w 1 IV.l) (hrb : rb.length = 32 * m) (hrr : Rd w w.heap.size AR (ubs rb)) :
    Calls Tryd.prog 8 #[.agg (cutV leaf A n c).toArray, .agg #[.int .u64 (a : Int), .int .u64 (b : Int)], .slice AR m cr] w fun r w' => r = .returned (.bool true) ∧ Below w.heap.size w w' := by
  by_cases hg : 60 < n ∨ 1 < m
  · exact stepCuts_large hA leaf n c a b m cr A AR hl hg
  · by_cases hm : m = 0
    · subst hm
      by_cases hb : b = 0
      · cases ht : ftB a n with
        | true => exact stepCuts_Zy hA leaf path n c a b cr A AR hl h1 h2 hc hp hr hT hR hI (by omega) hb ht
        | false => exact stepCuts_Zn hA leaf path n c a b cr A AR hl h1 h2 hc hp hr hT hR hI (by omega) hb ht
      · cases hf : ftB (b - 1) n with
        | true =>
          cases ht : ftB a n with
          | true => exact stepCuts_Yy hA leaf path n c a b cr A AR hl h1 h2 hc hp hr hT hR hI (by omega) (by omega) hf ht
          | false => exact stepCuts_Yn hA leaf path n c a b cr A AR hl h1 h2 hc hp hr hT hR hI (by omega) (by omega) hf ht
        | false =>
          cases ht : ftB a n with
          | true => exact stepCuts_Ny hA leaf path n c a b cr A AR hl h1 h2 hc hp hr hT hR hI (by omega) (by omega) hf ht
          | false => exact stepCuts_Nn hA leaf path n c a b cr A AR hl h1 h2 hc hp hr hT hR hI (by omega) (by omega) hf ht
    · obtain rfl : m = 1 := by omega
      cases ht : ftB a n with
      | true => exact stepCuts_Ry hA leaf path rb n c a b cr A AR hl h1 h2 hc hp hr hT hR hI (by omega) hrb hrr ht
      | false => exact stepCuts_Rn hA leaf path rb n c a b cr A AR hl h1 h2 hc hp hr hT hR hI (by omega) hrb hrr ht
end Go.Proofs.YtdegmcfcbndelaaDoor
