/-
  impl.LineMoves.
-/
import Derived.Test.YtoaiaindcmihjaaO8
import Derived.Test.YtoaiaindcmihjaaNJ
import Derived.Test.YtoaiaindcmihjaaD2
namespace Go.Proofs.Ytoaiaindcmihjaa
open Go.RowKit

theorem lineOf_gives : LineOfGives := implLineOf_e
theorem lawFnLineOf (a : Option Addr) (n cap : Nat) (w : World) (hB : Bytes w w.heap.size a n) (hn : n ≤ 9223372036854775807) (hc : n ≤ cap) :
    Calls Try.prog 5 #[.slice a n cap] w fun e w' => e = .returned (.bool true) ∧ Below w.heap.size w w' := lawFnLineOf_of lineOf_gives a n cap w hB hn hc
end Go.Proofs.Ytoaiaindcmihjaa
