/-
  spec.someHomes, the draws of chapter 1 that give homes.
-/
import Derived.Test.YtoaiaindcmihjaaD0
namespace Go.Proofs.Ytoaiaindcmihjaa
open Go.RowKit

/-- What a draw's numbers are: small. -/
def Small (l : List Int) : Prop := ∀ x ∈ l, -1 ≤ x ∧ x ≤ 11
theorem Small.nil : Small [] := by intro x hx; simp at hx
theorem Small.push {l : List Int} {x : Int} (h : Small l) (hx : -1 ≤ x ∧ x ≤ 11) : Small (l ++ [x]) := by
  intro y hy
  rcases List.mem_append.1 hy with hy | hy
  · exact h y hy
  · simp at hy; rw [hy]; exact hx

end Go.Proofs.Ytoaiaindcmihjaa
