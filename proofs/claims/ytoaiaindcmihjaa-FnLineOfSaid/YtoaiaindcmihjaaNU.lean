/-
  spec.ReadTree.
-/
import Derived.Test.YtoaiaindcmihjaaNR
namespace Go.Proofs.Ytoaiaindcmihjaa
open Go.RowKit

end Go.Proofs.Ytoaiaindcmihjaa
