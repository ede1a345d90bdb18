/-
  laws.FnLinearTable: the walk.
-/
import Derived.Test.YtapkalpmnldhpabM9
import Derived.Test.YtapkalpmnldhpabI1
import Derived.Test.YtapkalpmnldhpabI3
import Derived.Test.YtapkalpmnldhpabI4
import Derived.Test.YtapkalpmnldhpabD4
import Derived.Test.YtapkalpmnldhpabLT
namespace Go.Proofs.Ytapkalpmnldhpab
open Go.RowKit

theorem lks_bound {m : Nat} {l t : List Int} (hm : 0 < m) : ∀ i, ∀ x ∈ lks m l t i, 0 ≤ x ∧ x ≤ m := by
  intro i
  induction i with
  | zero => intro x hx; rw [lks] at hx; have := List.eq_of_mem_replicate hx; omega
  | succ i ih =>
    intro x hx
    rw [lks] at hx
    split at hx
    · exact ih x hx
    · rcases List.mem_or_eq_of_mem_set hx with h | h
      · exact ih x h
      · have := offI_range (m := m) (h := l.getD (t.getD i 0).toNat 0) (p := i) (by omega)
        omega
theorem LK_bound {m : Int} {l t : List Int} : (∀ x ∈ LK m l t, -1000 ≤ x ∧ x ≤ 1000) := by
  intro x hx
  unfold LK at hx
  split at hx
  · rename_i h
    have := VH_iff.1 (VT_iff.1 h).1
    have := lks_bound (m := m.toNat) (by omega) _ x hx
    omega
  · simp at hx
theorem LK_len10 {m : Int} {l t : List Int} : (LK m l t).length ≤ 10 := by
  unfold LK
  split
  · rename_i h
    have := VH_iff.1 (VT_iff.1 h).1
    rw [lks_len]; omega
  · simp

/-- What the law of LinearTable asks. -/
theorem LT_law {m : Int} {l : List Int} (hv : VH m l = true) : VH m l.reverse = true ∧ (LT m l.reverse).2 = (LT m l).2 ∧ (LT m l.reverse).1.length = (LT m l).1.length ∧ tkn (LT m l).1 (LT m l.reverse).1 = true ∧
    FD m l (LT m l).1 = true ∧ held (LT m l).1 = l.length ∧ summ (LK m l (LT m l).1) = (LT m l).2 ∧ 0 ≤ (LT m l).2 ∧ (LT m l).2 ≤ 1000 := by
  have hh := VH_iff.1 hv
  obtain ⟨M, rfl⟩ := Int.eq_ofNat_of_zero_le (show 0 ≤ m by omega)
  have hM := Homes.of_VH hh
  rw [Int.toNat_natCast] at hM
  have hr : VH M l.reverse = true := VH_iff.2 ⟨hh.1, hh.2.1, by simp; omega, fun x hx => hh.2.2.2 x (by simpa using hx)⟩
  obtain ⟨t1, t2⟩ := lin_turned hM
  obtain ⟨f1, f2, f3⟩ := LT_facts hM hv
  have e1 : LT M l = ((lin M l l.length).1, ((lin M l l.length).2 : Int)) := by unfold LT; rw [if_pos hv, Int.toNat_natCast]
  have e2 : LT M l.reverse = ((lin M l.reverse l.length).1, ((lin M l.reverse l.length).2 : Int)) := by unfold LT; rw [if_pos hr, Int.toNat_natCast, List.length_reverse]
  have hb := lin_bound hM l.length (Nat.le_refl _)
  have h10 := hM.len
  rw [e1, e2]
  refine ⟨hr, by rw [t2], by simp only [lin_len], ?_, f2, lin_held hM _ (Nat.le_refl _), f3, by simp, by simp only; omega⟩
  unfold tkn
  refine decide_eq_true fun i _ => ?_
  rw [← norm_neg, ← norm_neg (lin M l.reverse l.length).1, t1]

theorem LT_no {m : Int} {l : List Int} (hv : ¬ VH m l = true) : LT m l = ([], -1) := by unfold LT; rw [if_neg hv]

end Go.Proofs.Ytapkalpmnldhpab
