/-
  Buckets: names parted by their ends, directories.
-/
import Derived.Test.YtoaiaindcmihjaaGreatDoorN1
import Derived.Test.YtoaiaindcmihjaaGreatDoorN2
namespace Go.Proofs.YtoaiaindcmihjaaGreatDoor

/-- The names of one end. -/
def tfl (l : List Int) (d e : Nat) : List Int := l.filter (fun x => decide (x.toNat % 2 ^ d = e))
theorem tfl_mem {l : List Int} {d e : Nat} {x : Int} : x ∈ tfl l d e ↔ x ∈ l ∧ x.toNat % 2 ^ d = e := by simp [tfl, List.mem_filter]
theorem tfl_zero (l : List Int) : tfl l 0 0 = l := by
  unfold tfl
  rw [List.filter_eq_self]
  intro x _
  simp [Nat.mod_one]
theorem tfl_perm {l l' : List Int} (h : l.Perm l') (d e : Nat) : (tfl l d e).Perm (tfl l' d e) := h.filter _
theorem tfl_nodup {l : List Int} (h : l.Nodup) (d e : Nat) : (tfl l d e).Nodup := h.sublist List.filter_sublist
theorem mod_next (x d e : Nat) (he : e < 2 ^ d) : x % 2 ^ d = e ↔ (x % 2 ^ (d + 1) = e ∨ x % 2 ^ (d + 1) = e + 2 ^ d) := by
  have h1 : x % 2 ^ (d + 1) % 2 ^ d = x % 2 ^ d := mod_mod_pow x d
  have h2 : x % 2 ^ (d + 1) < 2 ^ (d + 1) := Nat.mod_lt _ (Nat.two_pow_pos _)
  have h3 : 2 ^ (d + 1) = 2 * 2 ^ d := by rw [Nat.pow_succ]; omega
  obtain ⟨y, hy⟩ : ∃ y, y = x % 2 ^ (d + 1) := ⟨_, rfl⟩
  obtain ⟨P, hP⟩ : ∃ P, P = 2 ^ d := ⟨_, rfl⟩
  rw [← hy, ← hP] at h1
  rw [← hy] at h2
  rw [h3, ← hP] at h2
  rw [← hP] at he
  rw [← hy, ← hP, ← h1]
  by_cases h : y < P
  · rw [Nat.mod_eq_of_lt h]; omega
  · rw [Nat.mod_eq_sub_mod (by omega), Nat.mod_eq_of_lt (by omega)]; omega
/-- The names of one end are those of both next digits. -/
theorem tfl_next (l : List Int) (d e : Nat) (he : e < 2 ^ d) : (tfl l (d + 1) e ++ tfl l (d + 1) (e + 2 ^ d)).Perm (tfl l d e) := by
  induction l with
  | nil => simp [tfl]
  | cons x l ih =>
    have hn := mod_next x.toNat d e he
    have hp := Nat.two_pow_pos d
    unfold tfl at ih ⊢
    by_cases h1 : x.toNat % 2 ^ (d + 1) = e
    · have h2 : ¬ x.toNat % 2 ^ (d + 1) = e + 2 ^ d := by omega
      have h3 : x.toNat % 2 ^ d = e := hn.2 (.inl h1)
      rw [List.filter_cons_of_pos (by simpa using h1), List.filter_cons_of_neg (by simpa using h2), List.filter_cons_of_pos (by simpa using h3)]
      exact ih.cons _
    · by_cases h2 : x.toNat % 2 ^ (d + 1) = e + 2 ^ d
      · have h3 : x.toNat % 2 ^ d = e := hn.2 (.inr h2)
        rw [List.filter_cons_of_neg (by simpa using h1), List.filter_cons_of_pos (by simpa using h2), List.filter_cons_of_pos (by simpa using h3)]
        exact List.perm_middle.trans (ih.cons _)
      · have h3 : ¬ x.toNat % 2 ^ d = e := fun h => by rcases hn.1 h with h | h <;> omega
        rw [List.filter_cons_of_neg (by simpa using h1), List.filter_cons_of_neg (by simpa using h2), List.filter_cons_of_neg (by simpa using h3)]
        exact ih
theorem tfl_six {l : List Int} (hn : l.Nodup) (hr : ∀ x ∈ l, 0 ≤ x ∧ x ≤ 63) (e : Nat) : (tfl l 6 e).length ≤ 1 := by
  have h1 := tfl_nodup hn 6 e
  have h2 : ∀ x ∈ tfl l 6 e, x = (e : Int) := fun x hx => by
    obtain ⟨h3, h4⟩ := tfl_mem.1 hx
    have := hr x h3
    rw [Nat.mod_eq_of_lt (by omega)] at h4
    omega
  cases h : tfl l 6 e with
  | nil => simp
  | cons x t =>
    cases t with
    | nil => simp
    | cons y t =>
      rw [h] at h1 h2
      have a := h2 x (by simp)
      have b := h2 y (by simp)
      rw [List.nodup_cons] at h1
      exact absurd (by rw [a, b]; simp) h1.1

/-- A bucket: its depth, its end, its names. -/
abbrev Bk := Nat × Nat × List Int
/-- Buckets of the names with one end. -/
def spl (l : List Int) (m : Nat) : Nat → Nat → Nat → List Bk
  | 0, d, e => [(d, e, srt (tfl l d e))]
  | f + 1, d, e => if (tfl l d e).length ≤ m then [(d, e, srt (tfl l d e))] else spl l m f (d + 1) e ++ spl l m f (d + 1) (e + 2 ^ d)
theorem spl_perm {l l' : List Int} (h : l.Perm l') (m : Nat) : ∀ f d e, spl l m f d e = spl l' m f d e := by
  intro f
  induction f with
  | zero => intro d e; rw [spl, spl, srt_congr (tfl_perm h d e)]
  | succ f ih =>
    intro d e
    rw [spl, spl, (tfl_perm h d e).length_eq, srt_congr (tfl_perm h d e), ih, ih]
theorem spl_ok {l : List Int} {m : Nat} (hn : l.Nodup) (hr : ∀ x ∈ l, 0 ≤ x ∧ x ≤ 63) (hm : 1 ≤ m) : ∀ f d e, f + d = 6 → e < 2 ^ d → ∀ b ∈ spl l m f d e, (d ≤ b.1 ∧ b.1 ≤ 6) ∧ b.2.1 < 2 ^ b.1 ∧ b.2.2 = srt (tfl l b.1 b.2.1) ∧ b.2.2.length ≤ m := by
  intro f
  induction f with
  | zero =>
    intro d e hf he b hb
    rw [spl, List.mem_singleton] at hb
    subst hb
    have hd : d = 6 := by omega
    subst hd
    refine ⟨⟨by simp, by simp⟩, he, rfl, ?_⟩
    have := tfl_six hn hr e
    show (srt (tfl l 6 e)).length ≤ m
    rw [srt_len]; omega
  | succ f ih =>
    intro d e hf he b hb
    rw [spl] at hb
    have hp : 2 ^ (d + 1) = 2 * 2 ^ d := by rw [Nat.pow_succ]; omega
    split at hb
    · rename_i h
      rw [List.mem_singleton] at hb
      subst hb
      refine ⟨⟨by simp, by simp; omega⟩, he, rfl, ?_⟩
      show (srt (tfl l d e)).length ≤ m
      rw [srt_len]; exact h
    · rcases List.mem_append.1 hb with h | h
      · obtain ⟨h1, h2⟩ := ih (d + 1) e (by omega) (by omega) b h
        exact ⟨⟨by omega, h1.2⟩, h2⟩
      · obtain ⟨h1, h2⟩ := ih (d + 1) (e + 2 ^ d) (by omega) (by omega) b h
        exact ⟨⟨by omega, h1.2⟩, h2⟩
theorem spl_all (l : List Int) (m : Nat) : ∀ f d e, e < 2 ^ d → ((spl l m f d e).flatMap (fun b => b.2.2)).Perm (tfl l d e) := by
  intro f
  induction f with
  | zero => intro d e _; rw [spl]; simpa using srt_perm _
  | succ f ih =>
    intro d e he
    have hp : 2 ^ (d + 1) = 2 * 2 ^ d := by rw [Nat.pow_succ]; omega
    rw [spl]
    split
    · simpa using srt_perm _
    · rw [List.flatMap_append]
      exact ((ih (d + 1) e (by omega)).append (ih (d + 1) (e + 2 ^ d) (by omega))).trans (tfl_next l d e he)
theorem spl_pos (l : List Int) (m : Nat) : ∀ f d e, 0 < (spl l m f d e).length := by
  intro f
  induction f with
  | zero => intro d e; simp [spl]
  | succ f ih =>
    intro d e
    rw [spl]
    split
    · simp
    · rw [List.length_append]; have := ih (d + 1) e; omega
theorem spl_len (l : List Int) (m : Nat) : ∀ f d e, (spl l m f d e).length ≤ 2 ^ f := by
  intro f
  induction f with
  | zero => intro d e; simp [spl]
  | succ f ih =>
    intro d e
    have hp : 2 ^ (f + 1) = 2 * 2 ^ f := by rw [Nat.pow_succ]; omega
    have := Nat.two_pow_pos f
    rw [spl]
    split
    · simp; omega
    · rw [List.length_append]; have := ih (d + 1) e; have := ih (d + 1) (e + 2 ^ d); omega
/-- Does a number end so? -/
def hit (x : Nat) (b : Bk) : Bool := decide (x % 2 ^ b.1 = b.2.1)
/-- Just one bucket has the end of a number. -/
theorem spl_hit (l : List Int) (m : Nat) (x : Nat) : ∀ f d e, e < 2 ^ d → (spl l m f d e).countP (hit x) = if x % 2 ^ d = e then 1 else 0 := by
  intro f
  induction f with
  | zero => intro d e _; rw [spl]; by_cases h : x % 2 ^ d = e <;> simp [hit, h]
  | succ f ih =>
    intro d e he
    have hp : 2 ^ (d + 1) = 2 * 2 ^ d := by rw [Nat.pow_succ]; omega
    have hn := mod_next x d e he
    rw [spl]
    split
    · by_cases h : x % 2 ^ d = e <;> simp [hit, h]
    · rw [List.countP_append, ih _ _ (by omega), ih _ _ (by omega)]
      have h2 : 0 < 2 ^ d := Nat.two_pow_pos d
      by_cases h : x % 2 ^ (d + 1) = e
      · rw [if_pos h, if_neg (by omega), if_pos (hn.2 (.inl h))]
      · rw [if_neg h]
        by_cases g : x % 2 ^ (d + 1) = e + 2 ^ d
        · rw [if_pos g, if_pos (hn.2 (.inr g))]
        · rw [if_neg g, if_neg (fun q => by rcases hn.1 q with q | q <;> omega)]
end Go.Proofs.YtoaiaindcmihjaaGreatDoor
