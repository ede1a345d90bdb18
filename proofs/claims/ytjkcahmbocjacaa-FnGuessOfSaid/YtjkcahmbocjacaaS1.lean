/-
  spec.empty, spec.linear, spec.LinearTable.
-/
import Derived.Test.YtjkcahmbocjacaaM1
import Derived.Test.YtjkcahmbocjacaaW1
namespace Go.Proofs.Ytjkcahmbocjacaa
open Go.RowKit

end Go.Proofs.Ytjkcahmbocjacaa
