/-
  The plain mathematics of chapter 2: tables have their keys once, and groups have room for them.
-/
import Derived.Test.YtlkhobofbkoliaaG6
namespace Go.Proofs.Ytlkhobofbkoliaa

theorem countP_one {p q : Nat → Bool} {s : Nat} (h : ∀ u, u ≠ s → p u = q u) (hp : p s = false) : ∀ M, (List.range M).countP q = (List.range M).countP p + if s < M ∧ q s = true then 1 else 0 := by
  intro M
  induction M with
  | zero => simp
  | succ M ih =>
    rw [List.range_succ, List.countP_append, List.countP_append, List.countP_singleton, List.countP_singleton, ih]
    by_cases e : M = s
    · subst e
      rw [hp]
      have : ¬ (M < M ∧ q M = true) := by omega
      rw [if_neg this]
      by_cases e2 : q M = true
      · simp [e2]
      · simp [e2]
    · rw [h M e]
      by_cases e2 : s < M ∧ q s = true
      · have e3 : s < M + 1 ∧ q s = true := ⟨by omega, e2.2⟩
        rw [if_pos e2, if_pos e3]; omega
      · have : ¬ (s < M + 1 ∧ q s = true) := fun hh => e2 ⟨by omega, hh.2⟩
        rw [if_neg e2, if_neg this]; omega
theorem countP_same {p q : Nat → Bool} (h : ∀ u, p u = q u) (M : Nat) : (List.range M).countP q = (List.range M).countP p := by
  have : p = q := funext h
  rw [this]

/-- The slots of group g that have keys. -/
def occ (M : Nat) (X t : List Int) (g : Int) : Nat := (List.range M).countP fun s => decide (0 ≤ t.getD s 0) && X.getD s 0 == g
/-- The slots that have keys. -/
def occ1 (M : Nat) (t : List Int) : Nat := (List.range M).countP fun s => decide (0 ≤ t.getD s 0)
theorem getD_setP {t : List Int} {s : Nat} (hs : s < t.length) (x : Int) (u : Nat) : (t.set s x).getD u 0 = if u = s then x else t.getD u 0 := by
  by_cases e : u = s
  · subst e; rw [if_pos rfl]; simp [List.getD, hs]
  · have e' : ¬ s = u := fun h => e h.symm
    rw [if_neg e]; simp [List.getD, List.getElem?_set, e']
theorem occ_put {M : Nat} {X t : List Int} {g : Int} {s k : Nat} (hl : t.length = M) (hs : s < M) (hn : t.getD s 0 < 0) : occ M X (t.set s k) g = occ M X t g + if X.getD s 0 = g then 1 else 0 := by
  unfold occ
  rw [countP_one (p := fun s => decide (0 ≤ t.getD s 0) && X.getD s 0 == g) (s := s) (fun u hu => by simp only [getD_setP (show s < t.length by omega), if_neg hu]) (by rw [decide_eq_false (by omega)]; rfl)]
  congr 1
  rw [getD_setP (by omega), if_pos rfl]
  by_cases e : X.getD s 0 = g
  · rw [if_pos e, if_pos ⟨hs, by rw [e, decide_eq_true (by omega)]; simp⟩]
  · rw [if_neg e, if_neg (fun hh => e (by have := hh.2; rw [Bool.and_eq_true] at this; simpa using this.2))]
theorem occ_swap {M : Nat} {X t : List Int} {g : Int} {s k : Nat} (hl : t.length = M) (hs : s < M) (hn : 0 ≤ t.getD s 0) : occ M X (t.set s k) g = occ M X t g := by
  unfold occ
  refine countP_same (fun u => ?_) M
  rw [getD_setP (by omega)]
  by_cases e : u = s
  · subst e
    rw [if_pos rfl, decide_eq_true hn, decide_eq_true (by omega)]
  · rw [if_neg e]
theorem occ1_put {M : Nat} {t : List Int} {s k : Nat} (hl : t.length = M) (hs : s < M) (hn : t.getD s 0 < 0) : occ1 M (t.set s k) = occ1 M t + 1 := by
  unfold occ1
  rw [countP_one (p := fun s => decide (0 ≤ t.getD s 0)) (s := s) (fun u hu => by simp only [getD_setP (show s < t.length by omega), if_neg hu]) (by rw [decide_eq_false (by omega)])]
  rw [getD_setP (by omega), if_pos rfl, if_pos ⟨hs, by rw [decide_eq_true (by omega)]⟩]
theorem occ1_swap {M : Nat} {t : List Int} {s k : Nat} (hl : t.length = M) (hs : s < M) (hn : 0 ≤ t.getD s 0) : occ1 M (t.set s k) = occ1 M t := by
  unfold occ1
  refine countP_same (fun u => ?_) M
  rw [getD_setP (by omega)]
  by_cases e : u = s
  · subst e; rw [if_pos rfl, decide_eq_true hn, decide_eq_true (by omega)]
  · rw [if_neg e]
theorem countP_range (p : Int → Bool) (t : List Int) : t.countP p = (List.range t.length).countP fun s => p (t.getD s 0) := by
  have e : t = (List.range t.length).map fun s => t.getD s 0 := by
    refine List.ext_getElem (by simp) fun i h1 h2 => by simp [List.getD, h1]
  conv => lhs; rw [e]
  rw [List.countP_map]
  rfl
theorem occ1_eq (t : List Int) : t.countP (fun x => decide (0 ≤ x)) = occ1 t.length t := countP_range _ t
theorem occ_le {M : Nat} {X t : List Int} {g : Nat} (hX : X.length = M) : occ M X t g ≤ cS X g := by
  unfold cS
  rw [countP_range, hX]
  unfold occ
  exact List.countP_mono_left fun s _ h => by
    simp only [Bool.and_eq_true] at h
    exact h.2
theorem occ_empty (M : Nat) (X : List Int) (g : Int) : occ M X (List.replicate M (-1)) g = 0 := by
  unfold occ
  rw [List.countP_eq_zero]
  intro s hs
  have : s < M := by simpa using hs
  simp [List.getD, List.getElem?_replicate, this]
theorem occ1_empty (M : Nat) : occ1 M (List.replicate M (-1)) = 0 := by
  unfold occ1
  rw [List.countP_eq_zero]
  intro s hs
  have : s < M := by simpa using hs
  simp [List.getD, List.getElem?_replicate, this]

/-- The table has the first i keys once each. -/
def Cnt (M : Nat) (l : List (Int × Int)) (t : List Int) (i : Nat) : Prop := (∀ g : Nat, occ M (gra M l) t g = nK l (gra M l) g i) ∧ occ1 M t = i
theorem Cnt.start (M : Nat) (l : List (Int × Int)) : Cnt M l (List.replicate M (-1)) 0 := ⟨fun g => by rw [occ_empty, nK_zero], occ1_empty M⟩
theorem grp_home {M : Nat} {l : List (Int × Int)} (h : Prs M l) {k s : Nat} (hk : k < l.length) (hs : s = hA l k ∨ s = hB l k) : (gra M l).getD s 0 = (gra M l).getD (hA l k) 0 := by
  rcases hs with e | e
  · rw [e]
  · rw [e]; exact ((gra_inv h).2 k hk).symm
theorem nK_step {l : List (Int × Int)} {X : List Int} {g k : Nat} (h : k < l.length) : nK l X g (k + 1) = nK l X g k + if X.getD (hA l k) 0 = (g : Int) then 1 else 0 := by
  by_cases e : X.getD (hA l k) 0 = (g : Int)
  · rw [if_pos e, nK_yes h e]
  · rw [if_neg e, nK_no h e]; omega
theorem Cnt.put {M : Nat} {l : List (Int × Int)} {t : List Int} {i s : Nat} (h : Cnt M l t i) (hP : Prs M l) (hl : t.length = M) (hi : i < l.length) (hs : s = hA l i ∨ s = hB l i) (hn : t.getD s 0 < 0) : Cnt M l (t.set s i) (i + 1) := by
  have hsM : s < M := by rcases hs with e | e <;> rw [e]; exact hP.lA hi; exact hP.lB hi
  refine ⟨fun g => ?_, by rw [occ1_put hl hsM hn, h.2]⟩
  rw [occ_put hl hsM hn, h.1 g, nK_step hi, grp_home hP hi hs]
theorem plc_cnt {M : Nat} {l : List (Int × Int)} (hl : Prs M l) : ∀ (n i : Nat) (t r : List Int), Tbl M l t → Cnt M l t i → i + n = l.length → plc l n i t = some r → Cnt M l r l.length := by
  intro n
  induction n with
  | zero => intro i t r ht hc hn h; simp [plc] at h; subst h; have : i = l.length := by omega
            rw [← this]; exact hc
  | succ n ih =>
    intro i t r ht hc hn h
    have ha := hl.lA (k := i) (by omega)
    have hb := hl.lB (k := i) (by omega)
    by_cases hA' : t.getD (hA l i) 0 < 0 ∧ (plc l n (i + 1) (t.set (hA l i) i)).isSome
    · obtain ⟨h1, h2⟩ := hA'
      obtain ⟨r', hr'⟩ := Option.isSome_iff_exists.1 h2
      rw [plc_A h1 hr'] at h
      obtain rfl := Option.some.inj h
      exact ih _ _ _ (ht.put ha (by omega) (.inl rfl)) (hc.put hl ht.len (by omega) (.inl rfl) h1) (by omega) hr'
    · have hno : t.getD (hA l i) 0 < 0 → plc l n (i + 1) (t.set (hA l i) i) = none := by
        intro h1
        cases e : plc l n (i + 1) (t.set (hA l i) i) with
        | none => rfl
        | some r => exact absurd ⟨h1, by rw [e]; rfl⟩ hA'
      rw [plc_notA hno] at h
      by_cases hB' : t.getD (hB l i) 0 < 0 ∧ pA l i ≠ pB l i
      · rw [if_pos hB'] at h
        exact ih _ _ _ (ht.put hb (by omega) (.inr rfl)) (hc.put hl ht.len (by omega) (.inr rfl) hB'.1) (by omega) h
      · rw [if_neg hB'] at h; cases h
/-- A table with all keys shows that there is room. -/
theorem Cnt.roomy {M : Nat} {l : List (Int × Int)} {t : List Int} (h : Cnt M l t l.length) : rmy M l = true := by
  refine rmy_iff.2 fun g hg => ?_
  have h1 := h.1 g
  rw [nK_all] at h1
  have h2 := occ_le (X := gra M l) (t := t) (g := g) (gra_len M l)
  omega
theorem pla_law {M : Nat} {l : List (Int × Int)} (hl : Prs M l) {r : List Int} (h : pla M l = some r) : Tbl M l r ∧ r.countP (fun x => decide (0 ≤ x)) = l.length ∧ rmy M l = true := by
  have ht := pla_tbl hl h
  have hc := plc_cnt hl _ _ _ _ (Tbl.empty M l) (Cnt.start M l) (by omega) h
  refine ⟨ht, ?_, hc.roomy⟩
  rw [occ1_eq, ht.len]
  exact hc.2

theorem kk_cnt {M : Nat} {l : List (Int × Int)} (hl : Prs M l) : ∀ (f k a : Nat) (t : List Int), Tbl M l t → k < l.length → (a = hA l k ∨ a = hB l k) → ∀ r, kk l f k a t = some r →
    (∀ g : Nat, occ M (gra M l) r.1 g = occ M (gra M l) t g + if (gra M l).getD (hA l k) 0 = (g : Int) then 1 else 0) ∧ occ1 M r.1 = occ1 M t + 1 := by
  intro f
  induction f with
  | zero => intro k a t _ _ _ r h; cases h
  | succ f ih =>
    intro k a t ht hk ha r h
    have haM : a < M := by rcases ha with e | e <;> subst e; exact hl.lA hk; exact hl.lB hk
    by_cases hn : t.getD a 0 < 0
    · rw [kk_end hn] at h
      obtain rfl := Option.some.inj h
      refine ⟨fun g => ?_, occ1_put ht.len haM hn⟩
      rw [occ_put ht.len haM hn, grp_home hl hk ha]
    · obtain ⟨o, ho, e, hh⟩ := ht.pos haM hn
      rw [kk_on e, Option.map_eq_some_iff] at h
      obtain ⟨r', hr', rfl⟩ := h
      obtain ⟨h1, h2⟩ := ih o (bes l o a) _ (ht.put haM hk ha) ho (bes_home l o a) r' hr'
      refine ⟨fun g => ?_, ?_⟩
      · have := h1 g
        rw [occ_swap ht.len haM (by omega)] at this
        simp only
        rw [this]
        congr 1
        rw [← grp_home hl ho hh, grp_home hl hk ha]
      · rw [occ1_swap ht.len haM (by omega)] at h2
        exact h2
theorem kall_cnt {M : Nat} {l : List (Int × Int)} (hl : Prs M l) : ∀ k, k ≤ l.length → ∀ t n, kall M l k = some (t, n) → Cnt M l t k ∧ k ≤ n := by
  intro k
  induction k with
  | zero => intro _ t n h; simp [kall] at h; obtain ⟨rfl, rfl⟩ := h; exact ⟨Cnt.start M l, by omega⟩
  | succ k ih =>
    intro hk t n h
    cases e : kall M l k with
    | none => simp [kall, e] at h
    | some r =>
      obtain ⟨u, c⟩ := r
      obtain ⟨h1, h2⟩ := ih (by omega) u c e
      have hu := (kall_tbl hl k (by omega) u c e).1
      cases e2 : kk l 30 k (hA l k) u with
      | none => rw [kall_none e e2] at h; cases h
      | some q =>
        obtain ⟨v, d⟩ := q
        rw [kall_some e e2] at h
        simp at h
        obtain ⟨rfl, rfl⟩ := h
        obtain ⟨a, b⟩ := kk_cnt hl 30 k (hA l k) u hu (by omega) (.inl rfl) _ e2
        have b2 := (kk_tbl hl 30 k (hA l k) u hu (by omega) (.inl rfl) _ e2).2.1
        refine ⟨⟨fun g => ?_, ?_⟩, ?_⟩
        · have := a g
          simp only at this
          rw [this, h1.1 g, nK_step (by omega)]
        · simp only at b
          rw [b, h1.2]
        · simp at b2; omega
/-- What the law of KickAll asks where KickAll is there. -/
theorem kall_law {M : Nat} {l : List (Int × Int)} (hl : Prs M l) {t : List Int} {n : Nat} (h : kall M l l.length = some (t, n)) : Tbl M l t ∧ t.countP (fun x => decide (0 ≤ x)) = l.length ∧ rmy M l = true ∧ l.length ≤ n ∧ n ≤ 240 := by
  obtain ⟨ht, hb⟩ := kall_tbl hl _ (Nat.le_refl _) t n h
  obtain ⟨hc, hn⟩ := kall_cnt hl _ (Nat.le_refl _) t n h
  have := hl.len
  refine ⟨ht, ?_, hc.roomy, hn, by omega⟩
  rw [occ1_eq, ht.len]
  exact hc.2
end Go.Proofs.Ytlkhobofbkoliaa
