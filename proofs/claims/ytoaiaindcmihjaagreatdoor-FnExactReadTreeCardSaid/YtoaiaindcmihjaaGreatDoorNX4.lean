/-
  Chapter 6: the specification's contracts in the form that the exact laws' walks take: trees read.
-/
import Derived.Test.YtoaiaindcmihjaaGreatDoorNU
namespace Go.Proofs.YtoaiaindcmihjaaGreatDoor
open Go.RowKit

theorem RT_lenE (s : List UInt8) : ((RT s).getD []).length ≤ 1048586 := by
  cases h : RT s with
  | none => simp
  | some R =>
    have := (VNm_iff.1 (RT_iff.1 h).1).1
    simp only [Option.getD_some]; omega
theorem specReadTree_e (s : List UInt8) (w : World) (_hs : s.length ≤ 9223372036854775807) : Calls Tryz.prog 16 #[.string (B8 s)] w fun e w' => ∃ v, e = .returned (.tuple #[v, .bool (RT s).isSome]) ∧ Own w' w.heap.size v ((RT s).getD []) ∧ Below w.heap.size w w' := specReadTree_any s w
end Go.Proofs.YtoaiaindcmihjaaGreatDoor
