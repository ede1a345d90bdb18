/-
  Chapter 3's plain mathematics: hashes, pairs that meet, counts by slots, first and least ones over the family.
-/
namespace Go.Proofs.YtoaiaindcmihjaaGreatDoor

/-- The slot of a key. -/
def hs (a b m k : Int) : Int := (a * k + b) % 31 % m
def VF (a b m : Int) : Bool := decide (1 ≤ a ∧ a ≤ 30 ∧ 0 ≤ b ∧ b ≤ 30 ∧ 1 ≤ m ∧ m ≤ 31)
def KR (k : Int) : Bool := decide (0 ≤ k ∧ k ≤ 30)
def VK (l : List Int) : Bool := decide (l.length ≤ 8 ∧ (∀ x ∈ l, 0 ≤ x ∧ x ≤ 30) ∧ l.Nodup)
theorem VF_iff {a b m : Int} : VF a b m = true ↔ 1 ≤ a ∧ a ≤ 30 ∧ 0 ≤ b ∧ b ≤ 30 ∧ 1 ≤ m ∧ m ≤ 31 := by simp [VF]
theorem KR_iff {k : Int} : KR k = true ↔ 0 ≤ k ∧ k ≤ 30 := by simp [KR]
theorem VK_iff {l : List Int} : VK l = true ↔ l.length ≤ 8 ∧ (∀ x ∈ l, 0 ≤ x ∧ x ≤ 30) ∧ l.Nodup := by simp [VK]
def HO (a b m k : Int) : Int := if VF a b m = true ∧ KR k = true then hs a b m k else -1

theorem hs_range {a b m k : Int} (h : 1 ≤ m) : 0 ≤ hs a b m k ∧ hs a b m k < m := by
  unfold hs
  exact ⟨Int.emod_nonneg _ (by omega), Int.emod_lt_of_pos _ (by omega)⟩
theorem hs_31 {a b m k : Int} (h : 1 ≤ m) : hs a b m k < 31 := by
  unfold hs
  have h1 : 0 ≤ (a * k + b) % 31 := Int.emod_nonneg _ (by omega)
  have h2 : (a * k + b) % 31 < 31 := Int.emod_lt_of_pos _ (by omega)
  have h3 : (a * k + b) % 31 % m ≤ (a * k + b) % 31 := by
    have := Int.emod_add_mul_ediv ((a * k + b) % 31) m
    have h4 : 0 ≤ (a * k + b) % 31 / m := Int.ediv_nonneg h1 (by omega)
    have h5 : 0 ≤ m * ((a * k + b) % 31 / m) := Int.mul_nonneg (by omega) h4
    omega
  omega

/-- Pairs of equal numbers. -/
def pr : List Int → Nat
  | [] => 0
  | x :: l => l.count x + pr l
theorem pr_snoc (l : List Int) (x : Int) : pr (l ++ [x]) = pr l + l.count x := by
  induction l with
  | nil => simp [pr]
  | cons y l ih =>
    rw [List.cons_append, pr, pr, ih, List.count_append, List.count_cons]
    by_cases h : y = x
    · subst h; simp; omega
    · have h' : ¬ x = y := fun e => h e.symm
      simp [List.count_cons, h, h']; omega
theorem pr_le (l : List Int) : 2 * pr l ≤ l.length * (l.length - 1) := by
  induction l with
  | nil => simp [pr]
  | cons x l ih =>
    rw [pr, List.length_cons]
    have h1 : l.count x ≤ l.length := List.count_le_length
    cases hl : l.length with
    | zero => rw [hl] at ih h1; simp at ih h1 ⊢; omega
    | succ n =>
      rw [hl] at ih h1
      simp only [Nat.add_sub_cancel] at ih ⊢
      have e : (n + 1 + 1) * (n + 1) = (n + 1) * n + 2 * (n + 1) := by
        rw [Nat.add_mul, Nat.mul_add, Nat.one_mul, Nat.mul_one, Nat.add_mul, Nat.one_mul, Nat.mul_add]; omega
      omega
theorem pr_zero {l : List Int} : pr l = 0 ↔ l.Nodup := by
  induction l with
  | nil => simp [pr]
  | cons x l ih =>
    rw [pr, List.nodup_cons, ← ih, Nat.add_eq_zero_iff, List.count_eq_zero]
theorem pr_same {l : List Int} {c : Int} (h : ∀ x ∈ l, x = c) : 2 * pr l = l.length * (l.length - 1) := by
  induction l with
  | nil => simp [pr]
  | cons x l ih =>
    have ih := ih (fun y hy => h y (by simp [hy]))
    have hx : x = c := h x (by simp)
    have hc : l.count x = l.length := by
      rw [List.count_eq_length]
      intro y hy
      have := h y (by simp [hy])
      rw [hx, this]
    rw [pr, hc, List.length_cons]
    cases hl : l.length with
    | zero => rw [hl] at ih; simp at ih ⊢; omega
    | succ n =>
      rw [hl] at ih
      simp only [Nat.add_sub_cancel] at ih ⊢
      have e : (n + 1 + 1) * (n + 1) = (n + 1) * n + 2 * (n + 1) := by
        rw [Nat.add_mul, Nat.mul_add, Nat.one_mul, Nat.mul_one, Nat.add_mul, Nat.one_mul, Nat.mul_add]; omega
      omega

/-- Pairs of the keys that meet. -/
def mt (a b m : Int) (l : List Int) : Nat := pr (l.map (hs a b m))
def MO (a b m : Int) (l : List Int) : Int := if VF a b m = true ∧ VK l = true then (mt a b m l : Int) else -1

/-- A sum of the first numbers. -/
def sumR (f : Nat → Nat) : Nat → Nat
  | 0 => 0
  | n + 1 => sumR f n + f n
theorem sumR_congr {f g : Nat → Nat} {n : Nat} (h : ∀ i, i < n → f i = g i) : sumR f n = sumR g n := by
  induction n with
  | zero => rfl
  | succ n ih => rw [sumR, sumR, ih (fun i hi => h i (by omega)), h n (by omega)]
theorem sumR_le {f : Nat → Nat} {n k : Nat} (h : k ≤ n) : sumR f k ≤ sumR f n := by
  induction n with
  | zero => have : k = 0 := by omega
            subst this; exact Nat.le_refl _
  | succ n ih =>
    by_cases e : k = n + 1
    · subst e; exact Nat.le_refl _
    · have := ih (by omega); rw [sumR]; omega
theorem sumR_add {f g : Nat → Nat} {n : Nat} : sumR (fun i => f i + g i) n = sumR f n + sumR g n := by
  induction n with
  | zero => rfl
  | succ n ih => simp only [sumR, ih]; omega
/-- One place's summand grows. -/
theorem sumR_bump {f g : Nat → Nat} {n k d : Nat} (hk : k < n) (h1 : g k = f k + d) (h2 : ∀ i, i < n → i ≠ k → g i = f i) : sumR g n = sumR f n + d := by
  induction n with
  | zero => omega
  | succ n ih =>
    rw [sumR, sumR]
    by_cases e : k = n
    · subst e
      rw [h1, sumR_congr (fun i hi => h2 i (by omega) (by omega))]; omega
    · rw [ih (by omega) (fun i hi => h2 i (by omega)), h2 n (by omega) (by omega)]; omega

/-- Pairs of c things. -/
def tri (c : Nat) : Nat := c * (c - 1) / 2
theorem tri_succ (c : Nat) : tri (c + 1) = tri c + c := by
  unfold tri
  cases c with
  | zero => rfl
  | succ n =>
    simp only [Nat.add_sub_cancel]
    have e : (n + 1 + 1) * (n + 1) = (n + 1) * n + (n + 1) * 2 := by rw [Nat.mul_comm, ← Nat.mul_add]
    rw [e, Nat.add_mul_div_right _ _ (by omega)]
theorem sq_succ (c : Nat) : (c + 1) * (c + 1) = c * c + (2 * c + 1) := by
  rw [Nat.add_mul, Nat.mul_add]; omega

theorem sum_tri {L : List Int} (h : ∀ x ∈ L, 0 ≤ x ∧ x < 31) : sumR (fun s => tri (L.count (s : Int))) 31 = pr L := by
  induction L with
  | nil => rfl
  | cons x L ih =>
    have ih := ih (fun y hy => h y (by simp [hy]))
    obtain ⟨h0, h1⟩ := h x (by simp)
    obtain ⟨X, rfl⟩ := Int.eq_ofNat_of_zero_le h0
    rw [pr, ← ih, Nat.add_comm]
    refine sumR_bump (k := X) (by omega) ?_ ?_
    · simp only [List.count_cons_self, tri_succ]
    · intro i hi hne
      have : ¬ (X : Int) = (i : Int) := by omega
      simp [List.count_cons, this]
theorem sum_sq {L : List Int} (h : ∀ x ∈ L, 0 ≤ x ∧ x < 31) : sumR (fun s => L.count (s : Int) * L.count (s : Int)) 31 = L.length + 2 * pr L := by
  induction L with
  | nil => rfl
  | cons x L ih =>
    have ih := ih (fun y hy => h y (by simp [hy]))
    obtain ⟨h0, h1⟩ := h x (by simp)
    obtain ⟨X, rfl⟩ := Int.eq_ofNat_of_zero_le h0
    have e : sumR (fun s => (↑X :: L).count (s : Int) * (↑X :: L).count (s : Int)) 31 = sumR (fun s => L.count (s : Int) * L.count (s : Int)) 31 + (2 * L.count (X : Int) + 1) := by
      refine sumR_bump (k := X) (by omega) ?_ ?_
      · simp only [List.count_cons_self, sq_succ]
      · intro i hi hne
        have : ¬ (X : Int) = (i : Int) := by omega
        simp [List.count_cons, this]
    rw [e, ih, pr, List.length_cons]; omega

/-- The counts by slots, as impl's array has them. -/
def cs (L : List Int) : List Int := (List.range 31).map fun s : Nat => ((L.count (s : Int) : Nat) : Int)
theorem cs_len (L : List Int) : (cs L).length = 31 := by simp [cs]
theorem cs_nil : cs [] = List.replicate 31 0 := by decide
theorem cs_get (L : List Int) {s : Nat} (h : s < 31) : (cs L).getD s 0 = (L.count (s : Int) : Int) := by simp [cs, List.getD, h]
theorem cs_snoc {L : List Int} {X : Nat} (h : X < 31) : (cs L).set X ((L.count (X : Int) : Int) + 1) = cs (L ++ [(X : Int)]) := by
  refine List.ext_getElem (by simp [cs]) fun i h1 h2 => ?_
  have hi : i < 31 := by simpa [cs] using h2
  rw [List.getElem_set]
  by_cases e : X = i
  · subst e; simp [cs]
  · have : ¬ (X : Int) = (i : Int) := by omega
    simp [cs, e, List.count_append, List.count_cons, this]

/-- How many of the first numbers are so. -/
def cntN (p : Nat → Bool) : Nat → Nat
  | 0 => 0
  | n + 1 => cntN p n + (if p n = true then 1 else 0)
theorem cntN_le (p : Nat → Bool) (n : Nat) : cntN p n ≤ n := by
  induction n with
  | zero => exact Nat.le_refl _
  | succ n ih => rw [cntN]; split <;> omega
/-- The family: number t is by 1 + t/31 and t%31. -/
def fA (t : Nat) : Nat := 1 + t / 31
def fB (t : Nat) : Nat := t % 31
theorem fA_at (a b : Nat) (h : b < 31) (ha : 1 ≤ a) : fA ((a - 1) * 31 + b) = a := by unfold fA; omega
theorem fB_at (a b : Nat) (h : b < 31) : fB ((a - 1) * 31 + b) = b := by unfold fB; omega
theorem fA_le {t : Nat} (h : t < 930) : 1 ≤ fA t ∧ fA t ≤ 30 := by unfold fA; omega
theorem fB_le (t : Nat) : fB t ≤ 30 := by unfold fB; omega
/-- Two keys meet by function number t. -/
def meet (m x y : Int) (t : Nat) : Bool := decide (hs (fA t) (fB t) m x = hs (fA t) (fB t) m y)
def VX (m x y : Int) : Bool := decide (1 ≤ m ∧ m ≤ 31 ∧ 0 ≤ x ∧ x ≤ 30 ∧ 0 ≤ y ∧ y ≤ 30 ∧ x ≠ y)
theorem VX_iff {m x y : Int} : VX m x y = true ↔ 1 ≤ m ∧ m ≤ 31 ∧ 0 ≤ x ∧ x ≤ 30 ∧ 0 ≤ y ∧ y ≤ 30 ∧ x ≠ y := by simp [VX]
def PC (m x y : Int) : Int := if VX m x y = true then (cntN (meet m x y) 930 : Int) else -1

/-- Pairs that meet by function number t. -/
def mtt (m : Int) (l : List Int) (t : Nat) : Nat := mt (fA t) (fB t) m l
/-- The first function that keeps the keys apart. -/
def ap (m : Int) (l : List Int) : Option Nat := (List.range 930).find? fun t => mtt m l t == 0
theorem ap_some {m : Int} {l : List Int} {t : Nat} (ht : t < 930) (h0 : mtt m l t = 0) (h : ∀ s, s < t → mtt m l s ≠ 0) : ap m l = some t := by
  unfold ap
  rw [List.find?_range_eq_some]
  refine ⟨by simp [h0], by simp [ht], fun j hj => by simp [h j hj]⟩
theorem ap_none {m : Int} {l : List Int} (h : ∀ s, s < 930 → mtt m l s ≠ 0) : ap m l = none := by
  unfold ap
  rw [List.find?_eq_none]
  intro s hs
  have := h s (by simpa using hs)
  simp [this]
theorem ap_spec {m : Int} {l : List Int} {t : Nat} (h : ap m l = some t) : t < 930 ∧ mtt m l t = 0 := by
  unfold ap at h
  rw [List.find?_range_eq_some] at h
  exact ⟨by simpa using h.2.1, by simpa using h.1⟩
def SZ (m : Int) : Bool := decide (1 ≤ m ∧ m ≤ 31)
theorem SZ_iff {m : Int} : SZ m = true ↔ 1 ≤ m ∧ m ≤ 31 := by simp [SZ]
def apR : Option Nat → Int × Int × Bool
  | some t => ((fA t : Int), (fB t : Int), true)
  | none => (0, 0, false)
def AP (m : Int) (l : List Int) : Int × Int × Bool := if SZ m = true ∧ VK l = true then apR (ap m l) else (0, 0, false)

/-- The least of the first numbers of slots that keep the keys apart. -/
def la (l : List Int) : Option Nat := (List.range 31).find? fun i => (ap ((i : Int) + 1) l).isSome
def LA (l : List Int) : Int := if VK l = true then (match la l with | some i => (i : Int) + 1 | none => -1) else -1

theorem hs_one {k : Int} (h0 : 0 ≤ k) (h1 : k ≤ 30) : hs 1 0 31 k = k := by unfold hs; omega
theorem ap_31 {l : List Int} (h : VK l = true) : ap 31 l = some 0 := by
  obtain ⟨_, h1, h2⟩ := VK_iff.1 h
  refine ap_some (by omega) ?_ (fun s hs => by omega)
  show pr (l.map (hs 1 0 31)) = 0
  have e : l.map (hs 1 0 31) = l := by
    conv => rhs; rw [← List.map_id l]
    refine List.map_congr_left fun x hx => ?_
    obtain ⟨a, b⟩ := h1 x hx
    exact hs_one a b
  rw [e, pr_zero]; exact h2
theorem la_some {l : List Int} {i : Nat} (hi : i < 31) (h0 : (ap ((i : Int) + 1) l).isSome = true) (h : ∀ j, j < i → ap ((j : Int) + 1) l = none) : la l = some i := by
  unfold la
  rw [List.find?_range_eq_some]
  refine ⟨h0, by simp [hi], fun j hj => by simp [h j hj]⟩
theorem la_spec {l : List Int} (hv : VK l = true) : ∃ i, i < 31 ∧ la l = some i ∧ (ap ((i : Int) + 1) l).isSome = true ∧ ∀ j, j < i → ap ((j : Int) + 1) l = none := by
  cases hl : la l with
  | none =>
    exfalso
    unfold la at hl
    rw [List.find?_eq_none] at hl
    have := hl 30 (by simp)
    rw [show ((30 : Nat) : Int) + 1 = 31 by omega, ap_31 hv] at this
    simp at this
  | some i =>
    have h2 := hl
    unfold la at h2
    rw [List.find?_range_eq_some] at h2
    refine ⟨i, by simpa using h2.2.1, rfl, h2.1, fun j hj => ?_⟩
    have := h2.2.2 j hj
    simpa using this

/-- A table of two levels by function number t. -/
def TL (a b : Int) (l : List Int) : Int := if l ≠ [] ∧ VF a b l.length = true ∧ VK l = true then 2 * (l.length : Int) + 2 * (mt a b l.length l : Int) else -1
/-- The least of f 0 .. f n. -/
def mn (f : Nat → Nat) : Nat → Nat
  | 0 => f 0
  | n + 1 => if f (n + 1) < mn f n then f (n + 1) else mn f n
theorem mn_le (f : Nat → Nat) (n : Nat) : ∀ i, i ≤ n → mn f n ≤ f i := by
  induction n with
  | zero => intro i hi; have : i = 0 := by omega
            subst this; exact Nat.le_refl _
  | succ n ih =>
    intro i hi
    rw [mn]
    by_cases e : i = n + 1
    · subst e; split <;> omega
    · have := ih i (by omega)
      split <;> omega
theorem mn_mem (f : Nat → Nat) (n : Nat) : ∃ i, i ≤ n ∧ mn f n = f i := by
  induction n with
  | zero => exact ⟨0, by omega, rfl⟩
  | succ n ih =>
    rw [mn]
    split
    · exact ⟨n + 1, by omega, rfl⟩
    · obtain ⟨i, h1, h2⟩ := ih
      exact ⟨i, by omega, h2⟩
/-- What a function's levels cost. -/
def lvl (l : List Int) (t : Nat) : Nat := 2 * l.length + 2 * mtt l.length l t
def BL (l : List Int) : Int := if l ≠ [] ∧ VK l = true then (mn (lvl l) 929 : Int) else -1

/-- The index of the first least one of f 0 .. f n. -/
def am (f : Nat → Nat) : Nat → Nat
  | 0 => 0
  | n + 1 => if f (n + 1) < f (am f n) then n + 1 else am f n
theorem am_le (f : Nat → Nat) (n : Nat) : am f n ≤ n := by
  induction n with
  | zero => exact Nat.le_refl _
  | succ n ih => rw [am]; split <;> omega
theorem am_mn (f : Nat → Nat) (n : Nat) : f (am f n) = mn f n := by
  induction n with
  | zero => rfl
  | succ n ih => rw [am, mn, ih]; split <;> simp [ih]
theorem am_first (f : Nat → Nat) (n : Nat) : ∀ i, i < am f n → mn f n < f i := by
  induction n with
  | zero => intro i hi; exact absurd hi (by simp [am])
  | succ n ih =>
    intro i hi
    rw [am] at hi
    rw [mn]
    rw [am_mn f n] at hi
    split
    · rename_i h
      rw [if_pos h] at hi
      have := mn_le f n i (by omega)
      omega
    · rename_i h
      rw [if_neg h] at hi
      exact ih i hi
/-- The first function with the fewest pairs that meet keeps the keys apart, if any does. -/
theorem ap_am {m : Int} {l : List Int} : ap m l = if mtt m l (am (mtt m l) 929) = 0 then some (am (mtt m l) 929) else none := by
  have h1 := am_le (mtt m l) 929
  have h2 := am_mn (mtt m l) 929
  have h3 := am_first (mtt m l) 929
  have h4 := mn_le (mtt m l) 929
  split
  · rename_i h
    exact ap_some (by omega) h (fun s hs => by have := h3 s hs; omega)
  · rename_i h
    exact ap_none (fun s hs => by have := h4 s (by omega); omega)
end Go.Proofs.YtoaiaindcmihjaaGreatDoor
