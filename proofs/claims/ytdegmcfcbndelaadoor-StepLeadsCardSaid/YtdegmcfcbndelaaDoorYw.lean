/-
  Layer 12: StepLeads: a tree's step leads to the root of the tree that is written to, cut or grown.
-/
import Derived.Test.YtdegmcfcbndelaaDoorLJ
import Derived.Test.YtdegmcfcbndelaaDoorLK
import Derived.Test.YtdegmcfcbndelaaDoorYvwg
import Derived.Test.YtdegmcfcbndelaaDoorYvwc
namespace Go.Proofs.YtdegmcfcbndelaaDoor
open Go.RowKit

theorem stepLeads_law {Pt : PtT} {w : World} (t : T12 Pt w) (HALV : Alive12C w) (was blocks : Nat) (l0 l1 : List Act9) (A0 A1 : Option Addr) (c0 c1 : Nat) (hwl : was < 18446744073709551616) (hbl : blocks < 18446744073709551616) (h0 : Av w w.heap.size A0 l0) (h1 : Av w w.heap.size A1 l1) (o0 : okA l0) (o1 : okA l1) (hT : Tabs w) :
    Calls Tryd.prog 11 #[.int .u64 (was : Int), .agg #[.slice A0 l0.length c0, .slice A1 l1.length c1], .int .u64 (blocks : Int)] w fun r w' => r = .returned (.bool true) ∧ Below w.heap.size w w' := by
  by_cases hq : 20 < l0.length ∨ 20 < l1.length
  · exact stepLeads_long HALV was blocks l0 l1 A0 A1 c0 c1 hq
  have hq0 : ¬ 20 < l0.length := fun h => hq (.inl h)
  have hq1 : ¬ 20 < l1.length := fun h => hq (.inr h)
  cases hg : highOk was with
  | false => exact stepLeads_none t HALV was blocks l0 l1 A0 A1 c0 c1 hwl hq0 hq1 hg
  | true =>
    cases he : highOk blocks with
    | false =>
      by_cases hz : sortS (idxW was l1) = []
      · exact stepLeads_ne t HALV was blocks l0 l1 A0 A1 c0 c1 hwl hbl h0 h1 o0 o1 hT hq0 hq1 hg hz he
      · exact stepLeads_we t HALV was blocks l0 l1 A0 A1 c0 c1 hwl hbl h0 h1 o0 o1 hT hq0 hq1 hg hz he
    | true =>
      by_cases hle : was ≤ blocks
      · by_cases hz : sortS (idxW was l1) = []
        · exact stepLeads_ng t HALV was blocks l0 l1 A0 A1 c0 c1 hwl hbl h0 h1 o0 o1 hT hq0 hq1 hg hz he hle
        · exact stepLeads_wg t HALV was blocks l0 l1 A0 A1 c0 c1 hwl hbl h0 h1 o0 o1 hT hq0 hq1 hg hz he hle
      · by_cases hz : sortS (idxW was l1) = []
        · exact stepLeads_nc t HALV was blocks l0 l1 A0 A1 c0 c1 hwl hbl h0 h1 o0 o1 hT hq0 hq1 hg hz he (by omega)
        · exact stepLeads_wc t HALV was blocks l0 l1 A0 A1 c0 c1 hwl hbl h0 h1 o0 o1 hT hq0 hq1 hg hz he (by omega)
end Go.Proofs.YtdegmcfcbndelaaDoor
