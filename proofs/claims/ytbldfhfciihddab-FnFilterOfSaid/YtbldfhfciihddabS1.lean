/-
  spec.empty, spec.linear, spec.LinearTable.
-/
import Derived.Test.YtbldfhfciihddabM1
import Derived.Test.YtbldfhfciihddabW1
namespace Go.Proofs.Ytbldfhfciihddab
open Go.RowKit

end Go.Proofs.Ytbldfhfciihddab
