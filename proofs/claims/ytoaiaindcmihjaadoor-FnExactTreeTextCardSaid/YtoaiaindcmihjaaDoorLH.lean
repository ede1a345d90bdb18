/-
  The laws' helpers: equalInts, keysIn, total, isIn.
-/
import Derived.Test.YtoaiaindcmihjaaDoorM1
import Derived.Test.YtoaiaindcmihjaaDoorLib
namespace Go.Proofs.YtoaiaindcmihjaaDoor
open Go.RowKit

theorem take_succ_getD {l : List Int} {k : Nat} (h : k < l.length) : l.take (k + 1) = l.take k ++ [l.getD k 0] := by
  rw [List.take_succ_eq_append_getElem h]; simp [List.getD, h]

theorem held_take {l : List Int} {k : Nat} (h : k < l.length) : held (l.take (k + 1)) = held (l.take k) + (if 0 ≤ l.getD k 0 then 1 else 0) := by
  rw [take_succ_getD h]; unfold held; rw [List.countP_append]; simp [List.countP_cons]

end Go.Proofs.YtoaiaindcmihjaaDoor
