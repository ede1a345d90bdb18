/-
  spec.validRing, owner, ValidRing, OwnerOf, SharesOf, MovedBy.
-/
import Derived.Test.YtjkcahmbocjacaaF1
import Derived.Test.YtjkcahmbocjacaaR3
namespace Go.Proofs.Ytjkcahmbocjacaa
open Go.RowKit

theorem VR_end {l : List Int} (h : FitV l l.length) : VR l = inR (l.length : Int) 1 6 := by
  rw [Bool.eq_iff_iff, VR_iff, inR_iff]
  constructor
  · intro h2; omega
  · intro h2; exact ⟨by omega, by omega, h⟩
theorem VR_bad1 {l : List Int} {k : Nat} (hk : k < l.length) (h : ¬ (0 ≤ l.getD k 0 ∧ l.getD k 0 ≤ 63)) : VR l = false :=
  VR_false fun h2 => h ⟨(h2.2.2 k hk).1, (h2.2.2 k hk).2.1⟩
theorem VR_bad2 {l : List Int} {k : Nat} (hk : k < l.length) (h : l.getD k 0 ∈ l.take k) : VR l = false :=
  VR_false fun h2 => (h2.2.2 k hk).2.2 h

theorem st_eq {l : List Int} {k : Int} {i : Nat} {y : Int} (h : l.getD i 0 = y) (hy : 0 ≤ y) (hy' : y ≤ 63) (hk : 0 ≤ k) (hk' : k ≤ 63) : ∃ Y Z T, T = st l k i ∧ IntKind.i64.wrap (y - k) = Y ∧ IntKind.i64.wrap (Y + 64) = Z ∧ Z.tmod 64 = T ∧ 0 ≤ T ∧ T < 64 ∧ 0 ≤ Z ∧ Z < 200 ∧ -100 ≤ Y ∧ Y ≤ 100 := by
  refine ⟨y - k, y - k + 64, st l k i, rfl, IntWalk.i64_in _ (by omega), IntWalk.i64_in _ (by omega), ?_, ?_, ?_, by omega, by omega, by omega, by omega⟩
  · rw [Int.tmod_eq_emod_of_nonneg (by omega)]; unfold st offI; rw [h]
  · unfold st; exact off_nn.1
  · unfold st; exact off_nn.2

end Go.Proofs.Ytjkcahmbocjacaa
