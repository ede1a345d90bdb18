/-
  The laws' helper turned.
-/
import Derived.Test.YtapkalpmnldhpabLH
namespace Go.Proofs.Ytapkalpmnldhpab
open Go.RowKit

theorem drop_rev {l : List Int} {k : Nat} (h : k < l.length) : (l.drop k).reverse = (l.drop (k + 1)).reverse ++ [l.getD k 0] := by
  rw [List.drop_eq_getElem_cons h, List.reverse_cons]; simp [List.getD, h]

end Go.Proofs.Ytapkalpmnldhpab
