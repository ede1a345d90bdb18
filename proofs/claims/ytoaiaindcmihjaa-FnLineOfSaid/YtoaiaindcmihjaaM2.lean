/-
  The plain mathematics of the fair table.
-/
import Derived.Test.YtoaiaindcmihjaaM1
namespace Go.Proofs.Ytoaiaindcmihjaa
open Go.RowKit

/-- How far a slot is behind a home, round the table. -/
def offI (m h p : Int) : Int := (p - h + m) % m

/-- Does the key that holds the slot give way to the one that looks? -/
def gives (m : Nat) (l : List Int) (p other key : Nat) : Bool :=
  decide (offI m (l.getD other 0) p < offI m (l.getD key 0) p) || (decide (offI m (l.getD key 0) p = offI m (l.getD other 0) p) && decide (key < other))

/-- The table and the key that looks, after d steps. -/
def rob1 (m : Nat) (l : List Int) (a : Nat) (t : List Int) (key : Nat) : Nat → List Int × Nat
  | 0 => (t, key)
  | d + 1 =>
    if gives m l ((a + d) % m) ((rob1 m l a t key d).1.getD ((a + d) % m) 0).toNat (rob1 m l a t key d).2 = true
    then ((rob1 m l a t key d).1.set ((a + d) % m) (rob1 m l a t key d).2, ((rob1 m l a t key d).1.getD ((a + d) % m) 0).toNat)
    else rob1 m l a t key d

/-- FairTable's table after k keys. -/
def rob (m : Nat) (l : List Int) : Nat → List Int
  | 0 => List.replicate m (-1)
  | k + 1 => (rob1 m l (home l k) (rob m l k) k (look (rob m l k) m (home l k) 0 m)).1.set ((home l k + look (rob m l k) m (home l k) 0 m) % m) (rob1 m l (home l k) (rob m l k) k (look (rob m l k) m (home l k) 0 m)).2

/-- The slots hold -1 or keys below k. -/
def Keys (k : Nat) (t : List Int) : Prop := ∀ i, i < t.length → t.getD i 0 = -1 ∨ (0 ≤ t.getD i 0 ∧ t.getD i 0 < k)
theorem Keys.mono {k k' : Nat} {t : List Int} (h : Keys k t) (hk : k ≤ k') : Keys k' t := fun i hi => (h i hi).imp id fun ⟨a, b⟩ => ⟨a, by omega⟩
theorem Keys.set {k : Nat} {t : List Int} (h : Keys k t) {i : Nat} {x : Nat} (hx : x < k) : Keys k (t.set i x) := by
  intro j hj
  rw [List.length_set] at hj
  by_cases hi : i < t.length
  · rw [getD_set hi]
    split
    · exact .inr ⟨by omega, by omega⟩
    · exact h j hj
  · rw [List.set_eq_of_length_le (by omega)]; exact h j hj
theorem Keys.rep (k m : Nat) : Keys k (List.replicate m (-1)) := by
  intro i hi
  rw [List.length_replicate] at hi
  simp [List.getD, hi]

/-- What holds of the table and the key that looks while it looks. -/
structure Rob1 (m k : Nat) (t0 : List Int) (t : List Int) (key : Nat) : Prop where
  len : t.length = m
  keys : Keys (k + 1) t
  key : key < k + 1
  free : ∀ i, i < m → (t.getD i 0 < 0 ↔ t0.getD i 0 < 0)

theorem rob1_inv {m k a D : Nat} {l t0 : List Int} (hm : 0 < m) (hl : t0.length = m) (hk : Keys k t0) (hw : Way t0 m a D) : ∀ d, d ≤ D → Rob1 m k t0 (rob1 m l a t0 k d).1 (rob1 m l a t0 k d).2 := by
  intro d
  induction d with
  | zero => intro _; exact ⟨hl, hk.mono (by omega), by simp [rob1], fun i _ => Iff.rfl⟩
  | succ d ih =>
    intro hd
    obtain ⟨h1, h2, h3, h4⟩ := ih (by omega)
    have hp : (a + d) % m < m := Nat.mod_lt _ hm
    unfold rob1
    split
    · have hnf : ¬ (rob1 m l a t0 k d).1.getD ((a + d) % m) 0 < 0 := by
        rw [h4 _ hp]; exact hw.full d _ (by omega) rfl
      have hkk := h2 ((a + d) % m) (by omega)
      refine ⟨by simpa using h1, h2.set h3, by omega, fun i hi => ?_⟩
      rw [getD_set (by omega)]
      split
      · rename_i e
        rw [← e, ← h4 _ hp]
        constructor
        · intro h; omega
        · intro h; exact absurd h hnf
      · exact h4 i hi
    · exact ⟨h1, h2, h3, h4⟩

theorem rob_inv {m : Nat} {l : List Int} (h : Homes m l) : ∀ k, k ≤ l.length → (rob m l k).length = m ∧ Keys k (rob m l k) ∧ held (rob m l k) = k := by
  intro k
  induction k with
  | zero => intro _; exact ⟨by simp [rob], Keys.rep _ _, by simp [rob, held_replicate]⟩
  | succ k ih =>
    intro hk
    obtain ⟨h1, h2, h3⟩ := ih (by omega)
    obtain ⟨D, hw⟩ := way h1 (h.home_lt (by omega : k < l.length)) (by rw [h3]; have := h.len; omega)
    obtain ⟨r1, r2, r3, r4⟩ := rob1_inv (l := l) h.pos h1 h2 hw D (Nat.le_refl _)
    have hp : (home l k + D) % m < m := Nat.mod_lt _ h.pos
    unfold rob
    rw [hw.is]
    refine ⟨by simpa using r1, r2.set r3, ?_⟩
    rw [held_set (by omega) ((r4 _ hp).2 (hw.free _ rfl)) (by omega)]
    have : held (rob1 m l (home l k) (rob m l k) k D).1 = held (rob m l k) := by
      have key : ∀ (t t' : List Int), t.length = t'.length → (∀ i, i < t.length → (t.getD i 0 < 0 ↔ t'.getD i 0 < 0)) → held t = held t' := by
        intro t
        induction t with
        | nil => intro t' hl _; cases t' with | nil => rfl | cons _ _ => simp at hl
        | cons x t ih =>
          intro t' hl hh
          cases t' with
          | nil => simp at hl
          | cons y t' =>
            have h0 := hh 0 (by simp)
            have ht := ih t' (by simpa using hl) (fun i hi => by have := hh (i + 1) (by simp; omega); simpa using this)
            unfold held at ht ⊢
            rw [List.countP_cons, List.countP_cons, ht]
            have : decide (0 ≤ x) = decide (0 ≤ y) := by
              simp at h0
              rw [decide_eq_decide]; omega
            rw [this]
      exact key _ _ (by rw [r1, h1]) (fun i hi => r4 i (by omega))
    omega

/-- FairTable. -/
def FT (m : Int) (l : List Int) : List Int := if VH m l = true then rob m.toNat l l.length else []
theorem FT_len (m : Int) (l : List Int) : (FT m l).length ≤ 1048586 := by
  unfold FT
  split
  · rename_i h
    have hh := Homes.of_VH (VH_iff.1 h)
    rw [(rob_inv hh l.length (Nat.le_refl _)).1]
    have := hh.le
    omega
  · simp

end Go.Proofs.Ytoaiaindcmihjaa
