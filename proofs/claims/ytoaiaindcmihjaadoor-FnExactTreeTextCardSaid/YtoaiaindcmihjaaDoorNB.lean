/-
  spec.sortInts.
-/
import Derived.Test.YtoaiaindcmihjaaDoorSA
import Derived.Test.YtoaiaindcmihjaaDoorN2
namespace Go.Proofs.YtoaiaindcmihjaaDoor
open Go.RowKit

end Go.Proofs.YtoaiaindcmihjaaDoor
