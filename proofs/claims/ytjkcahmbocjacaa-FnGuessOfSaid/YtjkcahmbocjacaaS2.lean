/-
  spec.off, spec.robin, spec.FairTable.
-/
import Derived.Test.YtjkcahmbocjacaaM2
import Derived.Test.YtjkcahmbocjacaaS1
namespace Go.Proofs.Ytjkcahmbocjacaa
open Go.RowKit

theorem offI_bd {m h p : Int} (hm : 1 ≤ m) : 0 ≤ offI m h p ∧ offI m h p < m :=
  ⟨Int.emod_nonneg _ (by omega), Int.emod_lt_of_pos _ (by omega)⟩

theorem gives_lt {m : Nat} {l : List Int} {p o k : Nat} {A B : Int} (hA : offI m (l.getD k 0) p = A) (hB : offI m (l.getD o 0) p = B) (h : B < A) : gives m l p o k = true := by
  unfold gives; rw [hA, hB]; simp [h]
theorem gives_eq {m : Nat} {l : List Int} {p o k : Nat} {A B : Int} (hA : offI m (l.getD k 0) p = A) (hB : offI m (l.getD o 0) p = B) (h : A = B) (hk : k < o) : gives m l p o k = true := by
  unfold gives; rw [hA, hB]; simp [h, hk]
theorem gives_no {m : Nat} {l : List Int} {p o k : Nat} {A B : Int} (hA : offI m (l.getD k 0) p = A) (hB : offI m (l.getD o 0) p = B) (h : ¬ B < A) (hk : ¬ (A = B ∧ k < o)) : gives m l p o k = false := by
  simp only [gives, hA, hB, Bool.or_eq_false_iff, decide_eq_false_iff_not, Bool.and_eq_false_iff]
  refine ⟨h, ?_⟩
  by_cases e : A = B
  · exact .inr (fun hh => hk ⟨e, hh⟩)
  · exact .inl e

theorem rob1_succ_yes {m : Nat} {l : List Int} {a : Nat} {t : List Int} {k d p o : Nat} (hp : p = (a + d) % m) (ho : (rob1 m l a t k d).1.getD p 0 = o) (hg : gives m l p o (rob1 m l a t k d).2 = true) :
    rob1 m l a t k (d + 1) = ((rob1 m l a t k d).1.set p (rob1 m l a t k d).2, o) := by
  subst hp
  rw [rob1, if_pos (by rw [ho, Int.toNat_natCast]; exact hg), ho, Int.toNat_natCast]
theorem rob1_succ_no {m : Nat} {l : List Int} {a : Nat} {t : List Int} {k d p o : Nat} (hp : p = (a + d) % m) (ho : (rob1 m l a t k d).1.getD p 0 = o) (hg : gives m l p o (rob1 m l a t k d).2 = false) :
    rob1 m l a t k (d + 1) = rob1 m l a t k d := by
  subst hp
  rw [rob1, if_neg (by rw [ho, Int.toNat_natCast, hg]; decide)]
theorem rob_succ {m : Nat} {l : List Int} {k D p : Nat} (hw : Way (rob m l k) m (home l k) D) (hp : p = (home l k + D) % m) :
    rob m l (k + 1) = (rob1 m l (home l k) (rob m l k) k D).1.set p (rob1 m l (home l k) (rob m l k) k D).2 := by
  simp only [rob, hw.is, ← hp]

end Go.Proofs.Ytjkcahmbocjacaa
