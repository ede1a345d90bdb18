/-
  Chapter 6: the specification's contracts in the form that the exact laws' walks take: texts of trees.
-/
import Derived.Test.YtoaiaindcmihjaaDoorNT
namespace Go.Proofs.YtoaiaindcmihjaaDoor
open Go.RowKit

theorem specTreeText_e (a : Option Addr) (l : List Int) (cap : Nat) (w : World) (hr : Reads w a l) (_hi : ∀ n ∈ l, In64 n) (hl : l.length ≤ 1048586) (hcap : l.length ≤ cap) :
    Calls Tryd.prog 4 #[.slice a l.length cap] w fun e w' => e = .returned (.string (B8 (TXT l))) ∧ Below w.heap.size w w' := specTreeText_any a l cap w hr hl hcap
end Go.Proofs.YtoaiaindcmihjaaDoor
