/-
  Is of layer 9: a tree held against the document's, over what the program's trees are to answer.
  What layer 9's laws share: dropping all that a script names; what Both has, later on.
  Slices of indices, of hashes, compared (entrustnum.Wide, entrustnum.Hashes).
-/
import Derived.Test.YtdegmcfcbndelaaDoorTo
import Derived.Test.YtdegmcfcbndelaaDoorY1
import Derived.Test.YtdegmcfcbndelaaDoorK1
import Derived.Test.YtdegmcfcbndelaaDoorY4
namespace Go.Proofs.YtdegmcfcbndelaaDoor
open Go.RowKit

attribute [local go_sem] Oper.semAt_some

section
variable {F : Fence} {rm : Nat} {P : Program} {ops : Array Oper} {Q : Exit → Act → World → Prop}
end
end Go.Proofs.YtdegmcfcbndelaaDoor

namespace Go.Proofs.YtdegmcfcbndelaaDoor
open Go.RowKit

section
variable {Pt : PtT} {w0 W W' W'' : World} {S : Nat → Prop} {b h : Nat} {L : List (Nat × List UInt8)} {A1 E : Option Addr}
theorem BoW.new (t : T9c Pt w0) (k : BoW Pt W S b h L A1 E W') (hb : Below W'.heap.size W' W'') : BoW Pt W S b h L A1 E W'' :=
  ⟨t.new k.t hb, k.l.new hb, k.e.new hb, k.far, k.sA, k.sE, k.below.trans (hb.mono k.below.size)⟩
end
end Go.Proofs.YtdegmcfcbndelaaDoor

namespace Go.Proofs.YtdegmcfcbndelaaDoor
open Go.RowKit

end Go.Proofs.YtdegmcfcbndelaaDoor
