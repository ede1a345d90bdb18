/-
  spec.LineOf, LineMoves.
-/
import Derived.Test.YtoaiaindcmihjaaGreatDoorNC
namespace Go.Proofs.YtoaiaindcmihjaaGreatDoor
open Go.RowKit

theorem in63 {x : Int} : inR x 0 63 = true ↔ 0 ≤ x ∧ x ≤ 63 := inR_iff
/-- The names that move, for a table and names. -/
def lmv (c : Nat) (l : List Int) : List Int := l.filter (fun x => decide (lno c x.toNat ≠ lno (c + 1) x.toNat))
theorem lmv_take {c : Nat} {l : List Int} {i : Nat} (h : i < l.length) : lmv c (l.take (i + 1)) = lmv c (l.take i) ++ if lno c (l.getD i 0).toNat ≠ lno (c + 1) (l.getD i 0).toNat then [l.getD i 0] else [] := by
  rw [take_snocN h]
  unfold lmv
  rw [List.filter_append]
  by_cases g : lno c (l.getD i 0).toNat ≠ lno (c + 1) (l.getD i 0).toNat
  · rw [if_pos g, List.filter_cons_of_pos (by rw [decide_eq_true g]), List.filter_nil]
  · rw [if_neg g, List.filter_cons_of_neg (by rw [decide_eq_false g]; simp), List.filter_nil]
theorem LMV_is {c : Nat} {l : List Int} (h : VLm (c : Int) l) : LMV c l = lmv c l := by
  unfold LMV lmv
  rw [if_pos h]
  refine List.filter_congr fun x hx => ?_
  have hr := (VNm_iff.1 h.2).2.1 x hx
  have hc := h.1
  rw [LNO_some ⟨⟨by omega, by omega⟩, hr⟩, LNO_some ⟨⟨by omega, by omega⟩, hr⟩, show ((c : Int) + 1).toNat = c + 1 by omega, Int.toNat_natCast]
  exact decide_eq_decide.2 (by omega)
theorem lmv_len (c : Nat) (l : List Int) : (lmv c l).length ≤ l.length := List.length_filter_le _ _
end Go.Proofs.YtoaiaindcmihjaaGreatDoor
