/-
  spec.split, BucketsOf.
-/
import Derived.Test.YtoaiaindcmihjaaGreatDoorNB
import Derived.Test.YtoaiaindcmihjaaGreatDoorNC
import Derived.Test.YtoaiaindcmihjaaGreatDoorBk
namespace Go.Proofs.YtoaiaindcmihjaaGreatDoor
open Go.RowKit

theorem tfl_take {l : List Int} {d e i : Nat} (h : i < l.length) : tfl (l.take (i + 1)) d e = tfl (l.take i) d e ++ if (l.getD i 0).toNat % 2 ^ d = e then [l.getD i 0] else [] := by
  rw [take_snocN h]
  unfold tfl
  rw [List.filter_append]
  by_cases g : (l.getD i 0).toNat % 2 ^ d = e
  · rw [if_pos g, List.filter_cons_of_pos (by rw [decide_eq_true g]), List.filter_nil]
  · rw [if_neg g, List.filter_cons_of_neg (by rw [decide_eq_false g]; simp), List.filter_nil]
theorem tfl_len (l : List Int) (d e : Nat) : (tfl l d e).length ≤ l.length := List.length_filter_le _ _

/-- The buckets of names, none for other arguments. -/
def BKs (l : List Int) (m : Int) : List Bk := if VNm l = true ∧ 1 ≤ m ∧ m ≤ 4 then spl l m.toNat 6 0 0 else []
theorem BKs_len (l : List Int) (m : Int) : (BKs l m).length ≤ 64 := by
  unfold BKs; split
  · exact spl_len _ _ _ _ _
  · simp
end Go.Proofs.YtoaiaindcmihjaaGreatDoor
