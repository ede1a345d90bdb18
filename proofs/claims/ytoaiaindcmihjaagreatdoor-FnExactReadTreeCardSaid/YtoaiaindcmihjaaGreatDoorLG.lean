/-
  The laws' helpers besides: total, isIn, taken, turned.
-/
import Derived.Test.YtoaiaindcmihjaaGreatDoorLH
namespace Go.Proofs.YtoaiaindcmihjaaGreatDoor
open Go.RowKit

/-- The sum of numbers. -/
def summ : List Int → Int
  | [] => 0
  | x :: r => x + summ r
theorem summ_append (a b : List Int) : summ (a ++ b) = summ a + summ b := by
  induction a with
  | nil => simp [summ]
  | cons x r ih => simp only [List.cons_append, summ, ih]; omega
theorem summ_take {l : List Int} {k : Nat} (h : k < l.length) : summ (l.take (k + 1)) = summ (l.take k) + l.getD k 0 := by
  rw [take_succ_getD h, summ_append]; simp [summ]

/-- Is the number in the list? -/
def inL (l : List Int) (n : Int) : Bool := decide (n ∈ l)

/-- Are keys in the same slots? -/
def tkn (a b : List Int) : Bool := decide (∀ i, i < a.length → (a.getD i 0 < 0 ↔ b.getD i 0 < 0))

end Go.Proofs.YtoaiaindcmihjaaGreatDoor
