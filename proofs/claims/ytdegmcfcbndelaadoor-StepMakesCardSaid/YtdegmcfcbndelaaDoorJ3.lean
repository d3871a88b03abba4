/-
  Layer 10, the document's side: climb: two nodes joined.
  Layer 10, the document's side: climb, for every node that is reached.
  Layer 10, the document's side: Texts.
  Layer 10, the document's side: Texts where there is a root; Check.
-/
import Derived.Test.YtdegmcfcbndelaaDoorK4
import Derived.Test.YtdegmcfcbndelaaDoorJ1
import Derived.Test.YtdegmcfcbndelaaDoorK6
import Derived.Test.YtdegmcfcbndelaaDoorK9
namespace Go.Proofs.YtdegmcfcbndelaaDoor
open Go.RowKit

end Go.Proofs.YtdegmcfcbndelaaDoor

namespace Go.Proofs.YtdegmcfcbndelaaDoor
open Go.RowKit

end Go.Proofs.YtdegmcfcbndelaaDoor

namespace Go.Proofs.YtdegmcfcbndelaaDoor
open Go.RowKit

end Go.Proofs.YtdegmcfcbndelaaDoor

namespace Go.Proofs.YtdegmcfcbndelaaDoor
open Go.RowKit

end Go.Proofs.YtdegmcfcbndelaaDoor
