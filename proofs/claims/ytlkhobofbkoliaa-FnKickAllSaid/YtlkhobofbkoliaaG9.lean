/-
  The plain mathematics of chapter 2: keys that push each other come to rest if there is room.
-/
import Derived.Test.YtlkhobofbkoliaaG8
namespace Go.Proofs.Ytlkhobofbkoliaa

/-- Keys are in the table once, all of them below K, and the key k is not in it. -/
structure Once (M : Nat) (t : List Int) (K : Nat) (k : Nat) : Prop where
  lt : ∀ s, s < M → t.getD s 0 < (K : Int)
  one : ∀ s u, s < M → u < M → 0 ≤ t.getD s 0 → t.getD s 0 = t.getD u 0 → s = u
  not : ∀ s, s < M → t.getD s 0 ≠ (k : Int)
theorem Once.step {M : Nat} {t : List Int} {K k a o : Nat} (h : Once M t K k) (hl : t.length = M) (ha : a < M) (hk : k < K) (e : t.getD a 0 = (o : Int)) : Once M (t.set a k) K o := by
  refine ⟨fun s hs => ?_, fun s u hs hu h0 he => ?_, fun s hs => ?_⟩
  · rw [getD_setP (by omega)]
    split
    · omega
    · exact h.lt s hs
  · rw [getD_setP (by omega)] at h0 he
    rw [getD_setP (by omega)] at he
    by_cases e1 : s = a
    · by_cases e2 : u = a
      · omega
      · rw [if_pos e1, if_neg e2] at he
        exact absurd he.symm (h.not u hu)
    · by_cases e2 : u = a
      · rw [if_neg e1, if_pos e2] at he
        exact absurd he (h.not s hs)
      · rw [if_neg e1] at h0 he
        rw [if_neg e2] at he
        exact h.one s u hs hu h0 he
  · rw [getD_setP (by omega)]
    by_cases e1 : s = a
    · rw [if_pos e1]
      have := h.not a ha
      omega
    · rw [if_neg e1]
      intro hh
      exact e1 (h.one s a hs ha (by omega) (by omega))
/-- The slots whose keys are where they are to be. -/
def sett (M : Nat) (f : Nat → Nat) (t : List Int) : Nat := (List.range M).countP fun s => decide (0 ≤ t.getD s 0) && f (t.getD s 0).toNat == s
theorem sett_le (M : Nat) (f : Nat → Nat) (t : List Int) : sett M f t ≤ M := by
  have := List.countP_le_length (p := fun s => decide (0 ≤ t.getD s 0) && f (t.getD s 0).toNat == s) (l := List.range M)
  simpa [sett] using this
theorem countP_two {p q : Nat → Bool} {s : Nat} (h : ∀ u, u ≠ s → p u = q u) : ∀ M, (List.range M).countP q + (if s < M ∧ p s = true then 1 else 0) = (List.range M).countP p + if s < M ∧ q s = true then 1 else 0 := by
  intro M
  induction M with
  | zero => simp
  | succ M ih =>
    rw [List.range_succ, List.countP_append, List.countP_append, List.countP_singleton, List.countP_singleton]
    by_cases e : M = s
    · subst e
      have n1 : ¬ (M < M ∧ p M = true) := by omega
      have n2 : ¬ (M < M ∧ q M = true) := by omega
      rw [if_neg n1, if_neg n2] at ih
      cases hp : p M <;> cases hq : q M <;> simp <;> omega
    · rw [h M e]
      have c1 : (if s < M + 1 ∧ p s = true then 1 else 0) = if s < M ∧ p s = true then 1 else 0 := by
        by_cases h1 : s < M ∧ p s = true
        · have : s < M + 1 ∧ p s = true := ⟨by omega, h1.2⟩
          rw [if_pos h1, if_pos this]
        · have : ¬ (s < M + 1 ∧ p s = true) := fun hh => h1 ⟨by omega, hh.2⟩
          rw [if_neg h1, if_neg this]
      have c2 : (if s < M + 1 ∧ q s = true then 1 else 0) = if s < M ∧ q s = true then 1 else 0 := by
        by_cases h1 : s < M ∧ q s = true
        · have : s < M + 1 ∧ q s = true := ⟨by omega, h1.2⟩
          rw [if_pos h1, if_pos this]
        · have : ¬ (s < M + 1 ∧ q s = true) := fun hh => h1 ⟨by omega, hh.2⟩
          rw [if_neg h1, if_neg this]
      rw [c1, c2]
      omega
theorem sett_set {M : Nat} {f : Nat → Nat} {t : List Int} {a k o : Nat} (hl : t.length = M) (ha : a < M) (e : t.getD a 0 = (o : Int)) :
    sett M f (t.set a k) + (if f o = a then 1 else 0) = sett M f t + if f k = a then 1 else 0 := by
  have h := countP_two (p := fun s => decide (0 ≤ t.getD s 0) && f (t.getD s 0).toNat == s) (q := fun s => decide (0 ≤ (t.set a (k : Int)).getD s 0) && f ((t.set a (k : Int)).getD s 0).toNat == s) (s := a) (fun u hu => by
    simp only [getD_setP (show a < t.length by omega), if_neg hu]) M
  simp only [getD_setP (show a < t.length by omega), if_true, e, ha, true_and] at h
  have e1 : (decide (0 ≤ (o : Int)) && f ((o : Int)).toNat == a) = decide (f o = a) := by
    rw [decide_eq_true (show (0 : Int) ≤ o by omega), Bool.true_and, show ((o : Int)).toNat = o by omega]
    rw [Bool.eq_iff_iff]; simp
  have e2 : (decide (0 ≤ (k : Int)) && f ((k : Int)).toNat == a) = decide (f k = a) := by
    rw [decide_eq_true (show (0 : Int) ≤ k by omega), Bool.true_and, show ((k : Int)).toNat = k by omega]
    rw [Bool.eq_iff_iff]; simp
  rw [e1, e2] at h
  simp only [decide_eq_true_eq] at h
  unfold sett
  simp only [getD_setP (show a < t.length by omega)]
  exact h

section
variable {M : Nat} {l : List (Int × Int)} {f : Nat → Nat}
theorem bes_to (f1 : ∀ i, i < l.length → f i = hA l i ∨ f i = hB l i) {o a : Nat} (ho : o < l.length) (ha : a = hA l o ∨ a = hB l o) (hne : f o ≠ a) : bes l o a = f o := by
  unfold bes
  have := f1 o ho
  by_cases e : a = hA l o
  · rw [if_pos e]; omega
  · rw [if_neg e]; omega
/-- Once a key is where it is to be, all that it pushes go where they are to be. -/
theorem push_home (h : Prs M l) (f1 : ∀ i, i < l.length → f i = hA l i ∨ f i = hB l i) (f2 : ∀ i j, i < l.length → j < l.length → f i = f j → i = j) :
    ∀ F k t, k < l.length → Tbl M l t → Once M t l.length k → M - sett M f t < F → (kk l F k (f k) t).isSome = true := by
  intro F
  induction F with
  | zero => intro k t _ _ _ hF; omega
  | succ F ih =>
    intro k t hk ht ho hF
    have haM : f k < M := by rcases f1 k hk with e | e <;> rw [e]; exact h.lA hk; exact h.lB hk
    by_cases hn : t.getD (f k) 0 < 0
    · rw [kk_end hn]; rfl
    · obtain ⟨o, hol, e, hh⟩ := ht.pos haM hn
      have hne : f o ≠ f k := fun e2 => by
        have := f2 o k hol hk e2
        have := ho.not (f k) haM
        omega
      have hs := sett_set (f := f) (k := k) ht.len haM e
      rw [if_neg hne, if_pos rfl] at hs
      have hle := sett_le M f (t.set (f k) k)
      rw [kk_on e, bes_to f1 hol hh hne]
      have := ih o (t.set (f k) k) hol (ht.put haM hk (f1 k hk)) (ho.step ht.len haM hk e) (by omega)
      rw [Option.isSome_map]; exact this
theorem push_any (h : Prs M l) (f1 : ∀ i, i < l.length → f i = hA l i ∨ f i = hB l i) (f2 : ∀ i j, i < l.length → j < l.length → f i = f j → i = j) :
    ∀ F k a t, k < l.length → (a = hA l k ∨ a = hB l k) → Tbl M l t → Once M t l.length k → sett M f t + M + 2 ≤ F → (kk l F k a t).isSome = true := by
  intro F
  induction F with
  | zero => intro k a t _ _ _ _ hF; omega
  | succ F ih =>
    intro k a t hk ha ht ho hF
    by_cases hfa : f k = a
    · rw [← hfa]
      exact push_home h f1 f2 _ k t hk ht ho (by omega)
    have haM : a < M := by rcases ha with e | e <;> rw [e]; exact h.lA hk; exact h.lB hk
    by_cases hn : t.getD a 0 < 0
    · rw [kk_end hn]; rfl
    · obtain ⟨o, hol, e, hh⟩ := ht.pos haM hn
      have hs := sett_set (f := f) (k := k) ht.len haM e
      rw [if_neg hfa] at hs
      have ht2 := ht.put haM hk ha
      have ho2 := ho.step ht.len haM hk e
      rw [kk_on e, Option.isSome_map]
      by_cases hfo : f o = a
      · rw [if_pos hfo] at hs
        exact ih o (bes l o a) _ hol (bes_home l o a) ht2 ho2 (by omega)
      · rw [bes_to f1 hol hh hfo]
        exact push_home h f1 f2 _ o _ hol ht2 ho2 (by omega)
end
/-- What is behind pushing: keys once each, all below K. -/
theorem kk_once {M : Nat} {l : List (Int × Int)} (hl : Prs M l) {K : Nat} (hK : K ≤ l.length) : ∀ (F k a : Nat) (t : List Int), Tbl M l t → k < K → (a = hA l k ∨ a = hB l k) → Once M t K k → ∀ r, kk l F k a t = some r → ∀ k', K ≤ k' → Once M r.1 K k' := by
  intro F
  induction F with
  | zero => intro k a t _ _ _ _ r h; cases h
  | succ F ih =>
    intro k a t ht hk ha ho r h k' hk'
    have haM : a < M := by rcases ha with e | e <;> rw [e]; exact hl.lA (by omega); exact hl.lB (by omega)
    by_cases hn : t.getD a 0 < 0
    · rw [kk_end hn] at h
      obtain rfl := Option.some.inj h
      have hl2 := ht.len
      refine ⟨fun s hs => ?_, fun s u hs hu h0 he => ?_, fun s hs => ?_⟩
      · simp only; rw [getD_setP (by omega)]
        split
        · omega
        · exact ho.lt s hs
      · simp only at h0 he
        rw [getD_setP (by omega)] at h0 he
        rw [getD_setP (by omega)] at he
        by_cases e1 : s = a
        · by_cases e2 : u = a
          · omega
          · rw [if_pos e1, if_neg e2] at he
            exact absurd he.symm (ho.not u hu)
        · by_cases e2 : u = a
          · rw [if_neg e1, if_pos e2] at he
            exact absurd he (ho.not s hs)
          · rw [if_neg e1] at h0 he
            rw [if_neg e2] at he
            exact ho.one s u hs hu h0 he
      · simp only; rw [getD_setP (by omega)]
        split
        · omega
        · have := ho.lt s hs
          omega
    · obtain ⟨o, hol, e, hh⟩ := ht.pos haM hn
      rw [kk_on e, Option.map_eq_some_iff] at h
      obtain ⟨r', hr', rfl⟩ := h
      have hoK : o < K := by have := ho.lt a haM; omega
      exact ih o (bes l o a) _ (ht.put haM (by omega) ha) hoK (bes_home l o a) (ho.step ht.len haM hk e) r' hr' k' hk'
theorem Once.more {M : Nat} {t : List Int} {K k : Nat} (h : Once M t K K) (hk : K ≤ k) {L : Nat} (hL : K ≤ L) : Once M t L k :=
  ⟨fun s hs => by have := h.lt s hs; omega, h.one, fun s hs => by have := h.lt s hs; omega⟩
/-- Keys that push each other come to rest if there is room. -/
theorem rmy_kall {M : Nat} {l : List (Int × Int)} (h : Prs M l) (hr : rmy M l = true) : ∀ k, k ≤ l.length → ∃ t n, kall M l k = some (t, n) ∧ Once M t k k := by
  obtain ⟨f, f1, f2⟩ := rmy_places h hr
  intro k
  induction k with
  | zero =>
    intro _
    refine ⟨_, _, rfl, fun s hs => ?_, fun s u hs hu h0 => ?_, fun s hs => ?_⟩
    · simp [List.getD, List.getElem?_replicate, hs]
    · simp [List.getD, List.getElem?_replicate, hs] at h0
    · simp [List.getD, List.getElem?_replicate, hs]
  | succ k ih =>
    intro hk
    obtain ⟨t, n, e, ho⟩ := ih (by omega)
    have ht := (kall_tbl h k (by omega) t n e).1
    have hM := h.le
    have hs := sett_le M f t
    have hsome := push_any h f1 f2 30 k (hA l k) t (by omega) (.inl rfl) ht (ho.more (Nat.le_refl _) (by omega)) (by omega)
    obtain ⟨r, hr'⟩ := Option.isSome_iff_exists.1 hsome
    obtain ⟨u, d⟩ := r
    exact ⟨u, n + d, kall_some e hr', kk_once h hk 30 k (hA l k) t ht (by omega) (.inl rfl) (ho.more (Nat.le_refl _) (by omega)) _ hr' (k + 1) (Nat.le_refl _)⟩
theorem kall_rmy {M : Nat} {l : List (Int × Int)} (h : Prs M l) : (kall M l l.length).isSome = rmy M l := by
  cases hr : rmy M l with
  | true =>
    obtain ⟨t, n, e, _⟩ := rmy_kall h hr l.length (Nat.le_refl _)
    rw [e]; rfl
  | false =>
    cases hp : kall M l l.length with
    | none => rfl
    | some r =>
      obtain ⟨t, n⟩ := r
      rw [(kall_law h hp).2.2.1] at hr; cases hr
end Go.Proofs.Ytlkhobofbkoliaa
