/-
  A slice of pairs that came in by a row; impl.isSlot, impl.ValidPairs, spec.validPairs, spec.ValidPairs.
-/
import Derived.Test.YtbldfhfciihddabPc
import Derived.Test.YtbldfhfciihddabW1
import Derived.Deep.SlicePairs
namespace Go.Proofs.Ytbldfhfciihddab
open Go.RowKit

/-- What the row's frame says of a slice of pairs that came in. -/
def PRow (w : World) (a : Option Addr) (len : Nat) (l : List (Int × Int)) : Prop := l.length = len ∧ ReadsP w a l ∧ len ≤ 9223372036854775807
set_option maxHeartbeats 400000 in
theorem isSlot_any (m x : Int) (w : World) :
    Calls Try.prog 35 #[.int .i64 m, .int .i64 x] w fun e w' => e = .returned (.bool (decide (0 ≤ x) && decide (x < m))) ∧ w = w' := by
  by_cases h1 : 0 ≤ x
  · have hd : decide (0 ≤ x) = true := by simp [h1]
    go_enter Try.func35, Try.ntmps35
    go_wp2
    go_ret
    exact ⟨ret_bool (by simp [h1]), rfl⟩
  · have hd : decide (0 ≤ x) = false := by simpa using h1
    go_enter Try.func35, Try.ntmps35
    go_wp2
    go_ret
    exact ⟨ret_bool (by simp [h1]), rfl⟩

end Go.Proofs.Ytbldfhfciihddab
