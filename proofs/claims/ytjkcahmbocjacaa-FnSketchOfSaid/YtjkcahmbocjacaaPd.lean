/-
  A slice of pairs that came in by a row; impl.isSlot, impl.ValidPairs, spec.validPairs, spec.ValidPairs.
-/
import Derived.Test.YtjkcahmbocjacaaPc
import Derived.Test.YtjkcahmbocjacaaW1
import Derived.Deep.SlicePairs
namespace Go.Proofs.Ytjkcahmbocjacaa
open Go.RowKit

/-- What the row's frame says of a slice of pairs that came in. -/
def PRow (w : World) (a : Option Addr) (len : Nat) (l : List (Int × Int)) : Prop := l.length = len ∧ ReadsP w a l ∧ len ≤ 9223372036854775807
end Go.Proofs.Ytjkcahmbocjacaa
