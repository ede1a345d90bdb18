/-
  What is read of a text: lengths.
-/
import Derived.Test.YtoaiaindcmihjaaGreatDoorN4
namespace Go.Proofs.YtoaiaindcmihjaaGreatDoor

theorem rdn_len : ∀ (s : List UInt8) (n k : Nat), (rdn n k s).2.1 + (rdn n k s).2.2.length = k + s.length ∧ k ≤ (rdn n k s).2.1 := by
  intro s
  induction s with
  | nil => intro n k; simp [rdn]
  | cons c s ih =>
    intro n k
    rw [rdn]
    split
    · have := ih (10 * n + (c.toNat - 48)) (k + 1)
      rw [List.length_cons]; omega
    · simp
theorem rdn_le : ∀ (s : List UInt8) (n k : Nat), n ≤ 9999 → (rdn n k s).1 ≤ 9999 := by
  intro s
  induction s with
  | nil => intro n k h; simpa [rdn] using h
  | cons c s ih =>
    intro n k h
    rw [rdn]
    split
    · rename_i g
      refine ih _ _ ?_
      have hd := g.1
      unfold isD at hd
      have := of_decide_eq_true hd
      omega
    · exact h
theorem rd_len : ∀ (g : Nat) (s : List UInt8) (a : List Int) (r : List UInt8), rd g s = some (a, r) → a.length + r.length ≤ s.length ∧ r.length < s.length := by
  intro g
  induction g with
  | zero => intro s a r h; rw [rd] at h; cases h
  | succ g ih =>
    intro s a r h
    cases s with
    | nil => rw [rd] at h; cases h
    | cons c t =>
      rw [rd] at h
      rw [List.length_cons]
      split at h
      · injection h with h; injection h with h1 h2; subst h1; subst h2; simp
      · split at h
        · split at h
          · rename_i a1 c1 r1 e1
            split at h
            · split at h
              · rename_i b c2 m e2
                split at h
                · injection h with h; injection h with h1 h2; subst h1; subst h2
                  have k1 := ih _ _ _ e1
                  have k2 := ih _ _ _ e2
                  simp only [List.length_cons, List.length_append] at k1 k2 ⊢
                  omega
                · cases h
              · cases h
            · cases h
          · cases h
        · have k1 := rdn_len (c :: t) 0 0
          split at h
          rename_i n k r1 e1
          rw [e1] at k1
          split at h
          · cases h
          · injection h with h; injection h with h1 h2; subst h1; subst h2
            simp only [List.length_cons, List.length_nil] at k1 ⊢
            omega
end Go.Proofs.YtoaiaindcmihjaaGreatDoor
