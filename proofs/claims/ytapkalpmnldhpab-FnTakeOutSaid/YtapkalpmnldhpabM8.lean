/-
  The order does not matter: linear tables have the same slots taken, and as many looks, in any order of the keys.
-/
import Derived.Test.YtapkalpmnldhpabM1
namespace Go.Proofs.Ytapkalpmnldhpab
open Go.RowKit

/-- Is a slot taken? -1 for no, 0 for yes. -/
def norm (t : List Int) : List Int := t.map fun x => if x < 0 then -1 else 0
theorem norm_len (t : List Int) : (norm t).length = t.length := by simp [norm]
theorem norm_neg (t : List Int) (i : Nat) : (norm t).getD i 0 < 0 ↔ t.getD i 0 < 0 := by
  simp only [List.getD, norm, List.getElem?_map]
  cases h : t[i]? with
  | none => simp
  | some x => simp only [Option.map_some, Option.getD_some]; split <;> omega
theorem norm_set (t : List Int) (p : Nat) (x : Int) (hx : 0 ≤ x) : norm (t.set p x) = (norm t).set p 0 := by
  unfold norm; rw [List.map_set, if_neg (by omega)]
theorem norm_rep (m : Nat) : norm (List.replicate m (-1)) = List.replicate m (-1) := by simp [norm]

theorem look_congr {t t' : List Int} {m a : Nat} (h : ∀ i, t.getD i 0 < 0 ↔ t'.getD i 0 < 0) : ∀ f d, look t m a d f = look t' m a d f := by
  intro f
  induction f with
  | zero => intro d; rfl
  | succ f ih =>
    intro d
    unfold look
    by_cases hx : t.getD ((a + d) % m) 0 < 0
    · rw [if_pos hx, if_pos ((h _).1 hx)]
    · rw [if_neg hx, if_neg (fun h2 => hx ((h _).2 h2)), ih]

/-- One key more. -/
def stepN (m : Nat) (s : List Int × Nat) (a : Nat) : List Int × Nat := (s.1.set ((a + look s.1 m a 0 m) % m) 0, s.2 + look s.1 m a 0 m + 1)

theorem stepN_way {m a D p : Nat} {s : List Int × Nat} (h : Way s.1 m a D) (hp : p = (a + D) % m) : stepN m s a = (s.1.set p 0, s.2 + D + 1) := by
  unfold stepN; rw [h.is, ← hp]

theorem Way.mk' {t : List Int} {m a D : Nat} (h : D < m) (h1 : t.getD ((a + D) % m) 0 < 0) (h2 : ∀ d, d < D → ¬ t.getD ((a + d) % m) 0 < 0) : Way t m a D :=
  ⟨h, fun p hp => by rw [hp]; exact h1, fun d p hd hp => by rw [hp]; exact h2 d hd, look_eq h h2 h1⟩

/-- Past a slot that is taken now, the way is that from the slot. -/
theorem Way.through {t : List Int} {m a D p E : Nat} (hm : t.length = m) (ha : a < m) (h : Way t m a D) (hp : p = (a + D) % m) (hh : held (t.set p 0) < m) (h2 : Way (t.set p 0) m p E) : Way (t.set p 0) m a (D + E) := by
  have hpm : p < t.length := by rw [hp, hm]; exact Nat.mod_lt _ (by omega)
  have e : ∀ d, (a + (D + d)) % m = (p + d) % m := by intro d; rw [hp, Nat.mod_add_mod, Nat.add_assoc]
  have hfull : ∀ d, d < D + E → ¬ (t.set p 0).getD ((a + d) % m) 0 < 0 := by
    intro d hd
    by_cases h3 : d < D
    · rw [getD_set hpm]
      split
      · omega
      · exact h.full d _ h3 rfl
    · obtain ⟨x, rfl⟩ : ∃ x, d = D + x := ⟨d - D, by omega⟩
      rw [e]
      exact h2.full x _ (by omega) rfl
  exact .mk' (not_all (by rw [List.length_set]; exact hm) ha hh hfull) (by rw [e]; exact h2.free _ rfl) hfull

theorem step_swap {m a b : Nat} {s : List Int × Nat} (hm : s.1.length = m) (hs : held s.1 + 2 ≤ m) (ha : a < m) (hb : b < m) : stepN m (stepN m s a) b = stepN m (stepN m s b) a := by
  obtain ⟨t, c⟩ := s
  dsimp only at hm hs
  obtain ⟨Da, wa⟩ := way hm ha (by omega)
  obtain ⟨Db, wb⟩ := way hm hb (by omega)
  obtain ⟨p, hp⟩ : ∃ p, p = (a + Da) % m := ⟨_, rfl⟩
  obtain ⟨q, hq⟩ : ∃ q, q = (b + Db) % m := ⟨_, rfl⟩
  have hpm : p < t.length := by rw [hp, hm]; exact Nat.mod_lt _ (by omega)
  have hqm : q < t.length := by rw [hq, hm]; exact Nat.mod_lt _ (by omega)
  have ep := stepN_way (s := (t, c)) wa hp
  have eq := stepN_way (s := (t, c)) wb hq
  rw [ep, eq]
  by_cases hpq : p = q
  · subst hpq
    have hh : held (t.set p 0) = held t + 1 := held_set hpm (wa.free _ hp) (by omega)
    have hl : (t.set p 0).length = m := by rw [List.length_set]; exact hm
    obtain ⟨E, we⟩ := way (a := p) hl (by omega) (by omega)
    obtain ⟨r, hr⟩ : ∃ r, r = (p + E) % m := ⟨_, rfl⟩
    have w1 := wa.through hm ha hp (by omega) we
    have w2 := wb.through hm hb hq (by omega) we
    have r1 : r = (a + (Da + E)) % m := by rw [hr, hp, Nat.mod_add_mod, Nat.add_assoc]
    have r2 : r = (b + (Db + E)) % m := by rw [hr, hq, Nat.mod_add_mod, Nat.add_assoc]
    rw [stepN_way (s := (t.set p 0, c + Da + 1)) w2 r2, stepN_way (s := (t.set p 0, c + Db + 1)) w1 r1]
    simp only [Prod.mk.injEq, true_and]
    omega
  · have w1 : Way (t.set p 0) m b Db := by
      refine .mk' wb.lt ?_ (fun d hd => ?_)
      · rw [getD_set hpm, ← hq, if_neg hpq]; exact wb.free _ hq
      · rw [getD_set hpm]; split
        · omega
        · exact wb.full d _ hd rfl
    have w2 : Way (t.set q 0) m a Da := by
      refine .mk' wa.lt ?_ (fun d hd => ?_)
      · rw [getD_set hqm, ← hp, if_neg (fun e => hpq e.symm)]; exact wa.free _ hp
      · rw [getD_set hqm]; split
        · omega
        · exact wa.full d _ hd rfl
    rw [stepN_way (s := (t.set p 0, c + Da + 1)) w1 hq, stepN_way (s := (t.set q 0, c + Db + 1)) w2 hp]
    rw [List.set_comm _ _ hpq]
    simp only [Prod.mk.injEq, true_and]
    omega

theorem step_keeps {m a : Nat} {s : List Int × Nat} (hm : s.1.length = m) (hs : held s.1 + 1 ≤ m) (ha : a < m) : (stepN m s a).1.length = m ∧ held (stepN m s a).1 = held s.1 + 1 := by
  obtain ⟨D, w⟩ := way hm ha (by omega)
  rw [stepN_way w rfl]
  refine ⟨by simp [hm], held_set (by rw [hm]; exact Nat.mod_lt _ (by omega)) (w.free _ rfl) (by omega)⟩

theorem fold_perm {m : Nat} {l1 l2 : List Nat} (h : l1.Perm l2) : ∀ s : List Int × Nat, s.1.length = m → held s.1 + l1.length ≤ m → (∀ a ∈ l1, a < m) → l1.foldl (stepN m) s = l2.foldl (stepN m) s := by
  induction h with
  | nil => intro s _ _ _; rfl
  | cons x _ ih =>
    intro s h1 h2 h3
    simp only [List.length_cons] at h2
    have hk := step_keeps (a := x) h1 (by omega) (h3 x (by simp))
    simp only [List.foldl_cons]
    exact ih _ hk.1 (by rw [hk.2]; omega) (fun a ha => h3 a (by simp [ha]))
  | swap x y l =>
    intro s h1 h2 h3
    simp only [List.length_cons] at h2
    simp only [List.foldl_cons]
    rw [step_swap h1 (by omega) (h3 y (by simp)) (h3 x (by simp))]
  | trans h1 _ ih1 ih2 =>
    intro s a1 a2 a3
    rw [ih1 s a1 a2 a3, ih2 s a1 (by rw [← h1.length_eq]; exact a2) (fun a ha => a3 a (h1.mem_iff.2 ha))]

theorem lin_fold {m : Nat} {l : List Int} : ∀ k, k ≤ l.length → ((l.map Int.toNat).take k).foldl (stepN m) (List.replicate m (-1), 0) = (norm (lin m l k).1, (lin m l k).2) := by
  intro k
  induction k with
  | zero => intro _; simp [lin, norm_rep]
  | succ k ih =>
    intro hk
    have hk' : k < (l.map Int.toNat).length := by simp; omega
    rw [List.take_succ_eq_append_getElem hk', List.foldl_append, ih (by omega)]
    simp only [List.foldl_cons, List.foldl_nil, stepN, List.getElem_map]
    have e : l[k].toNat = home l k := by unfold home; simp [List.getD, show k < l.length by omega]
    rw [e, look_congr (norm_neg (lin m l k).1)]
    simp only [lin]
    rw [norm_set _ _ _ (by omega)]

/-- The other way round: the same slots, and as many looks. -/
theorem lin_turned {m : Nat} {l : List Int} (h : Homes m l) : norm (lin m l.reverse l.length).1 = norm (lin m l l.length).1 ∧ (lin m l.reverse l.length).2 = (lin m l l.length).2 := by
  have h1 := lin_fold (m := m) (l := l) l.length (Nat.le_refl _)
  have h2 := lin_fold (m := m) (l := l.reverse) l.length (by simp)
  rw [List.take_of_length_le (by simp)] at h1 h2
  have hp : ((l.reverse).map Int.toNat).Perm (l.map Int.toNat) := by rw [List.map_reverse]; exact List.reverse_perm _
  have h3 := fold_perm (m := m) hp (List.replicate m (-1), 0) (by simp) (by rw [held_replicate]; simp; exact h.len) (by
    intro a ha
    simp at ha
    obtain ⟨x, hx, rfl⟩ := ha
    obtain ⟨i, hi, rfl⟩ := List.getElem_of_mem hx
    have := h.home_lt hi
    unfold home at this
    simpa [List.getD, hi] using this)
  rw [h1, h2] at h3
  exact ⟨by rw [Prod.mk.injEq] at h3; exact h3.1, by rw [Prod.mk.injEq] at h3; exact h3.2⟩

end Go.Proofs.Ytapkalpmnldhpab
