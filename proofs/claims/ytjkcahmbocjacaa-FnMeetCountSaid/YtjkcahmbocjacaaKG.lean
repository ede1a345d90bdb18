/-
  laws.FnMeetCount: the walk.
-/
import Derived.Test.YtjkcahmbocjacaaKE
import Derived.Test.YtjkcahmbocjacaaLS7
namespace Go.Proofs.Ytjkcahmbocjacaa
open Go.RowKit
theorem lawFnMeetCount (a : Option Addr) (n cap : Nat) (w : World) (hB : Bytes w w.heap.size a n) (hn : n ≤ 9223372036854775807) (hc : n ≤ cap) :
    Calls Try.prog 11 #[.slice a n cap] w fun e w' => e = .returned (.bool true) ∧ Below w.heap.size w w' :=
  lawFnMeetCount_of ordersGive a n cap w hB hn hc
end Go.Proofs.Ytjkcahmbocjacaa
