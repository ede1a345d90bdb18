/-
  Chapter 6: the specification's contracts in the form that the exact laws' walks take: lines.
-/
import Derived.Test.YtoaiaindcmihjaaNG
namespace Go.Proofs.Ytoaiaindcmihjaa
open Go.RowKit

theorem LMV_lenE (c : Int) (l : List Int) (h : l.length ≤ 1048586) : (LMV c l).length ≤ 1048586 := Nat.le_trans (LMV_len c l) h
theorem specLineOf_e (c x : Int) (w : World) (_hc : In64 c) (_hx : In64 x) : Calls Try.prog 25 #[.int .i64 c, .int .i64 x] w fun e w' => e = .returned (.int .i64 (LNO c x)) ∧ Below w.heap.size w w' := by
  refine (specLineOf_any c x w).mono ?_
  rintro e w' ⟨rfl, rfl⟩
  exact ⟨rfl, Below.refl _ _⟩
theorem specLineMoves_e (c : Int) (a : Option Addr) (l : List Int) (cap : Nat) (w : World) (_hc : In64 c) (hr : Reads w a l) (_hi : ∀ n ∈ l, In64 n) (hl : l.length ≤ 1048586) (hcap : l.length ≤ cap) :
    Calls Try.prog 28 #[.int .i64 c, .slice a l.length cap] w fun e w' => ∃ v, e = .returned v ∧ Own w' w.heap.size v (LMV c l) ∧ Below w.heap.size w w' := specLineMoves_any c a l cap w hr hl hcap
end Go.Proofs.Ytoaiaindcmihjaa
