/-
  Layer 12: StepWrites: the root behind any writing step.
-/
import Derived.Test.YtdegmcfcbndelaaDoorLP
namespace Go.Proofs.YtdegmcfcbndelaaDoor
open Go.RowKit

theorem stepWrites_law {w : World} (hA : Alive12C w) (h : Int) (l : List Nat) (old bes lv rb : List UInt8) (A AO AB AL AR : Option Addr) (c no co nb cb nl cl m cr : Nat) (hr : Nu w w.heap.size A l) (hc : l.length ≤ c) (hO : Rd w w.heap.size AO (ubs old)) (hB : Rd w w.heap.size AB (ubs bes)) (hL : Rd w w.heap.size AL (ubs lv)) (hco : no ≤ co) (hcb : nb ≤ cb) (hcl : nl ≤ cl) (hold : old.length = 32 * no) (hbes : bes.length = 32 * nb) (hlv : lv.length = 32 * nl) (hT : Tabs w) (hR : Tabr w) (hI : Tab w 1 IV.l) (hrb : rb.length = 32 * m) (hrr : Rd w w.heap.size AR (ubs rb)) :
    Calls Tryd.prog 7 #[.int .i64 h, .agg #[.slice A l.length c, .slice AO no co, .slice AB nb cb], .agg #[.slice AL nl cl, .slice AR m cr]] w fun r w' => r = .returned (.bool true) ∧ Below w.heap.size w w' := by
  by_cases hg : largeB l.length no nb = true ∨ 300 < nl ∨ 1 < m
  · exact stepWrites_large hA h l A AO AB AL AR c no co nb cb nl cl m cr hg
  · have hg1 : largeB l.length no nb = false := by
      cases e : largeB l.length no nb with
      | false => rfl
      | true => exact absurd (.inl e) hg
    have hg2 : ¬ 300 < nl := fun e => hg (.inr (.inl e))
    have hg3 : ¬ 1 < m := fun e => hg (.inr (.inr e))
    by_cases hm : m = 0
    · subst hm
      by_cases hk : ccB h l no nb = 0
      · exact stepWrites_T hA h l old bes lv A AO AB AL AR c no co nb cb nl cl cr hr hc hO hB hL hco hcb hcl hold hbes hlv hT hR hI hg1 (by omega) hk
      · exact stepWrites_F hA h l old bes lv A AO AB AL AR c no co nb cb nl cl cr hr hc hO hB hL hco hcb hcl hold hbes hlv hT hR hI hg1 (by omega) hk
    · obtain rfl : m = 1 := by omega
      exact stepWrites_R hA h l old bes lv rb A AO AB AL AR c no co nb cb nl cl cr hr hc hO hB hL hco hcb hcl hold hbes hlv hT hR hI hg1 (by omega) hrb hrr
end Go.Proofs.YtdegmcfcbndelaaDoor
