/-
  The law of LineMoves.
-/
import Derived.Test.YtoaiaindcmihjaaOA1
import Derived.Test.YtoaiaindcmihjaaNK
import Derived.Test.YtoaiaindcmihjaaD2
namespace Go.Proofs.Ytoaiaindcmihjaa
open Go.RowKit

theorem lineOf_q : LineOfQ := implLineOf_q
theorem lineMoves_gives : LineMovesGives := implLineMoves_e
theorem lawFnLineMoves (a : Option Addr) (n cap : Nat) (w : World) (hB : Bytes w w.heap.size a n) (hn : n ≤ 9223372036854775807) (hc : n ≤ cap) :
    Calls Try.prog 6 #[.slice a n cap] w fun e w' => e = .returned (.bool true) ∧ Below w.heap.size w w' := lawFnLineMoves_of lineOf_q lineMoves_gives a n cap w hB hn hc
end Go.Proofs.Ytoaiaindcmihjaa
