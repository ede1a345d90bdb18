/-
  Chapter 6's plain mathematics: names, and the buckets of a table that grows one by one.
-/
namespace Go.Proofs.YtoaiaindcmihjaaGreatDoor

/-- Names: different numbers of six binary digits. -/
def VNm (l : List Int) : Bool := decide (l.length ≤ 12 ∧ (∀ x ∈ l, 0 ≤ x ∧ x ≤ 63) ∧ l.Nodup)
theorem VNm_iff {l : List Int} : VNm l = true ↔ l.length ≤ 12 ∧ (∀ x ∈ l, 0 ≤ x ∧ x ≤ 63) ∧ l.Nodup := by simp [VNm]
/-- The level of a table of c buckets. -/
def lvc (c : Nat) : Nat := Nat.log2 c
theorem lvc_le {c : Nat} (h : 1 ≤ c) : 2 ^ lvc c ≤ c := Nat.log2_self_le (by omega)
theorem lvc_lt (c : Nat) : c < 2 ^ (lvc c + 1) := Nat.lt_log2_self
theorem lvc_eq {c L : Nat} (h1 : 2 ^ L ≤ c) (h2 : c < 2 ^ (L + 1)) : lvc c = L := by
  have hc : 1 ≤ c := by have := Nat.two_pow_pos L; omega
  have a1 := lvc_le hc
  have a2 := lvc_lt c
  have b1 : lvc c < L + 1 := (Nat.pow_lt_pow_iff_right (a := 2) (by omega)).1 (Nat.lt_of_le_of_lt a1 h2)
  have b2 : L < lvc c + 1 := (Nat.pow_lt_pow_iff_right (a := 2) (by omega)).1 (Nat.lt_of_le_of_lt h1 a2)
  omega
/-- The bucket of a name. -/
def lno (c x : Nat) : Nat := if x % 2 ^ (lvc c + 1) < c then x % 2 ^ (lvc c + 1) else x % 2 ^ lvc c
theorem lno_lt {c : Nat} (h : 1 ≤ c) (x : Nat) : lno c x < c := by
  unfold lno
  split
  · assumption
  · exact Nat.lt_of_lt_of_le (Nat.mod_lt _ (Nat.two_pow_pos _)) (lvc_le h)
theorem mod_mod_pow (x L : Nat) : x % 2 ^ (L + 1) % 2 ^ L = x % 2 ^ L := Nat.mod_mod_of_dvd _ (Nat.pow_dvd_pow 2 (by omega))
/-- With one bucket more a name stays, or it is in the new one. -/
theorem lno_next {c : Nat} (h : 1 ≤ c) (x : Nat) : lno (c + 1) x = lno c x ∨ (lno (c + 1) x = c ∧ lno c x = c % 2 ^ lvc c) := by
  have h1 := lvc_le h
  have h2 := lvc_lt c
  by_cases e : c + 1 < 2 ^ (lvc c + 1)
  · have hl : lvc (c + 1) = lvc c := lvc_eq (by omega) e
    unfold lno
    rw [hl]
    by_cases g : x % 2 ^ (lvc c + 1) < c
    · rw [if_pos g, if_pos (by omega)]; exact .inl rfl
    · rw [if_neg g]
      by_cases g2 : x % 2 ^ (lvc c + 1) = c
      · rw [if_pos (by omega)]
        refine .inr ⟨g2, ?_⟩
        rw [← mod_mod_pow, g2]
      · rw [if_neg (by omega)]; exact .inl rfl
  · have e2 : c + 1 = 2 ^ (lvc c + 1) := by omega
    have hl : lvc (c + 1) = lvc c + 1 := lvc_eq (by omega) (by have := Nat.pow_lt_pow_succ (a := 2) (n := lvc c + 1) (by omega); omega)
    have hm : x % 2 ^ (lvc c + 1) < c + 1 := by rw [e2]; exact Nat.mod_lt _ (Nat.two_pow_pos _)
    have hn : lno (c + 1) x = x % 2 ^ (lvc c + 1) := by
      unfold lno
      rw [hl]
      by_cases g : x % 2 ^ (lvc c + 1 + 1) < c + 1
      · have q := mod_mod_pow x (lvc c + 1)
        rw [Nat.mod_eq_of_lt (a := x % 2 ^ (lvc c + 1 + 1)) (by omega)] at q
        rw [if_pos g, q]
      · rw [if_neg g]
    rw [hn]
    unfold lno
    by_cases g : x % 2 ^ (lvc c + 1) < c
    · rw [if_pos g]; exact .inl rfl
    · have g2 : x % 2 ^ (lvc c + 1) = c := by omega
      rw [if_neg g]
      refine .inr ⟨g2, ?_⟩
      rw [← mod_mod_pow, g2]
/-- The bucket of a name, -1 for other numbers. -/
def LNO (c x : Int) : Int := if (1 ≤ c ∧ c ≤ 40) ∧ 0 ≤ x ∧ x ≤ 63 then (lno c.toNat x.toNat : Nat) else -1
def VLm (c : Int) (l : List Int) : Prop := (1 ≤ c ∧ c ≤ 39) ∧ VNm l = true
instance (c : Int) (l : List Int) : Decidable (VLm c l) := by unfold VLm; infer_instance
/-- The names that move. -/
def LMV (c : Int) (l : List Int) : List Int := if VLm c l then l.filter (fun x => decide (LNO c x ≠ LNO (c + 1) x)) else []
theorem LNO_some {c x : Int} (h : (1 ≤ c ∧ c ≤ 40) ∧ 0 ≤ x ∧ x ≤ 63) : LNO c x = (lno c.toNat x.toNat : Nat) := if_pos h
theorem LNO_none {c x : Int} (h : ¬ ((1 ≤ c ∧ c ≤ 40) ∧ 0 ≤ x ∧ x ≤ 63)) : LNO c x = -1 := if_neg h
/-- The law of LineOf. -/
theorem LNO_law {c x : Int} (h : (1 ≤ c ∧ c ≤ 40) ∧ 0 ≤ x ∧ x ≤ 63) : (0 ≤ LNO c x ∧ LNO c x < c) ∧ (c < 40 → LNO (c + 1) x = LNO c x ∨ LNO (c + 1) x = c) := by
  have h1 := lno_lt (c := c.toNat) (by omega) x.toNat
  rw [LNO_some h]
  refine ⟨by omega, fun h2 => ?_⟩
  rw [LNO_some ⟨⟨by omega, by omega⟩, h.2⟩]
  have e : (c + 1).toNat = c.toNat + 1 := by omega
  rw [e]
  rcases lno_next (c := c.toNat) (by omega) x.toNat with h3 | ⟨h3, _⟩
  · exact .inl (by rw [h3])
  · exact .inr (by rw [h3]; omega)
/-- The law of LineMoves: what moves comes from one bucket, and goes to the new one. -/
theorem LMV_law {c : Int} {l : List Int} (h : VLm c l) {x : Int} (hx : x ∈ LMV c l) : LNO c x = ((c.toNat % 2 ^ lvc c.toNat : Nat) : Int) ∧ LNO (c + 1) x = c ∧ x ∈ l ∧ 0 ≤ x ∧ x ≤ 63 := by
  unfold LMV at hx
  rw [if_pos h] at hx
  obtain ⟨hm, hne⟩ := List.mem_filter.1 hx
  have hne := of_decide_eq_true hne
  have hr := (VNm_iff.1 h.2).2.1 x hm
  have hc := h.1
  have e : (c + 1).toNat = c.toNat + 1 := by omega
  rw [LNO_some ⟨⟨by omega, by omega⟩, hr⟩, LNO_some ⟨⟨by omega, by omega⟩, hr⟩, e] at hne
  rw [LNO_some ⟨⟨by omega, by omega⟩, hr⟩, LNO_some ⟨⟨by omega, by omega⟩, hr⟩, e]
  rcases lno_next (c := c.toNat) (by omega) x.toNat with h3 | ⟨h3, h4⟩
  · exact absurd (by rw [h3]) hne
  · refine ⟨by rw [h4], by rw [h3]; omega, hm, hr⟩
theorem LMV_len (c : Int) (l : List Int) : (LMV c l).length ≤ l.length := by
  unfold LMV; split
  · exact List.length_filter_le _ _
  · simp
end Go.Proofs.YtoaiaindcmihjaaGreatDoor
