/-
  laws.FnExactMeetCount: the walk.
-/
import Derived.Test.YtjkcahmbocjacaaKE
import Derived.Test.YtjkcahmbocjacaaEMeetCount
namespace Go.Proofs.Ytjkcahmbocjacaa
open Go.RowKit
theorem lawExactMeetCount (n : Int) (a : Int) (b : Int) (w : World) (hn : In64 n) (ha : In64 a) (hb : In64 b) :
    Calls Try.prog 20 #[.int .i64 n, .int .i64 a, .int .i64 b] w fun e w' => e = .returned (.bool true) ∧ Below w.heap.size w w' :=
  lawExactMeetCount_of ordersGive n a b w hn ha hb
end Go.Proofs.Ytjkcahmbocjacaa
