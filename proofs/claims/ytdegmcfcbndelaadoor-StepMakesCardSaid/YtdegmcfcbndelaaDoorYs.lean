/-
  Layer 12: StepMakes: the steps of any tree.
-/
import Derived.Test.YtdegmcfcbndelaaDoorLC
import Derived.Test.YtdegmcfcbndelaaDoorLE
import Derived.Test.YtdegmcfcbndelaaDoorLD
import Derived.Test.YtdegmcfcbndelaaDoorYrbz
import Derived.Test.YtdegmcfcbndelaaDoorYrby
namespace Go.Proofs.YtdegmcfcbndelaaDoor
open Go.RowKit

theorem stepMakes_law {Pt : PtT} {w : World} (t : T12 Pt w) (HALV : Alive12C w) (h : Int) (sc : List Act9) (A : Option Addr) (c : Nat) (l : List Nat) (AI : Option Addr) (cI : Nat) (hsc : Av w w.heap.size A sc) (ho : okA sc) (hr : Nu w w.heap.size AI l) (hc : l.length ≤ cI) (hok : okN l) (hT : Tabr w) (hI : Tab w 1 IV.l) :
    Calls Tryd.prog 10 #[.int .i64 h, .slice A sc.length c, .slice AI l.length cI] w fun r w' => r = .returned (.bool true) ∧ Below w.heap.size w w' := by
  by_cases hq : 40 < l.length
  · exact stepMakes_large HALV h sc A c l AI cI hq
  by_cases hb : bothB h sc.length
  · cases hg : rgtB h l with
    | true =>
      obtain ⟨k, rfl⟩ : ∃ k : Nat, h = (k : Int) := ⟨h.toNat, by unfold bothB at hb; omega⟩
      obtain ⟨hh, hne, hlen, hs, hfit⟩ := rgtB_parts hg
      have hn : 0 < l.length := List.length_pos_iff.2 hne
      by_cases hz : l[0] = 0
      · exact stepMakes_bz t HALV k sc A c l AI cI hsc ho hr hc hok hT hI hq hb hg hn hz
      · refine stepMakes_by t HALV k sc A c l AI cI hsc ho hr hc hok hT hI hq hb hg hn (by omega) ?_
        have := hfit _ (List.getElem_mem hn)
        unfold hasB
        simp
        omega
    | false =>
      by_cases hn : l.length = 0
      · by_cases hz : sc.length = 0
        · exact stepMakes_az t HALV h sc A c l AI cI hsc ho hr hT hI hq hb hg hn hz
        · cases hh : hasB h.toNat 0 (sc.length - 1) with
          | true => exact stepMakes_ay t HALV h sc A c l AI cI hsc ho hr hT hI hq hb hg hn (by omega) hh
          | false => exact stepMakes_an t HALV h sc A c l AI cI hsc ho hr hT hI hq hb hg hn (by omega) hh
      · have hn : 0 < l.length := by omega
        by_cases hz : l[0] = 0
        · exact stepMakes_cz t HALV h sc A c l AI cI hsc ho hr hok hT hI hq hb hg hn hz
        · cases hh : hasB h.toNat 0 (l[0] - 1) with
          | true => exact stepMakes_cy t HALV h sc A c l AI cI hsc ho hr hok hT hI hq hb hg hn (by omega) hh
          | false => exact stepMakes_cn t HALV h sc A c l AI cI hsc ho hr hok hT hI hq hb hg hn (by omega) hh
  · exact stepMakes_none t HALV h sc A c l AI cI hq hb
end Go.Proofs.YtdegmcfcbndelaaDoor
