/-
  Fair tables: their keys are found, their looks add up as the linear ones do, and none looks further than the one that looks furthest there.
-/
import Derived.Test.YtapkalpmnldhpabM5
import Derived.Test.YtapkalpmnldhpabM9
namespace Go.Proofs.Ytapkalpmnldhpab
open Go.RowKit

theorem offI_next {m h p : Nat} (hh : h < m) (hp : p < m) (hlt : offI m h p + 1 < m) : offI m h ((p + 1) % m : Nat) = offI m h p + 1 := by
  have hq : (p + 1) % m < m := Nat.mod_lt _ (by omega)
  rw [offI_val hh hp] at hlt ⊢
  rw [offI_val hh hq]
  by_cases e : p + 1 < m
  · rw [Nat.mod_eq_of_lt e]; split <;> split <;> omega
  · have : p + 1 = m := by omega
    rw [this, Nat.mod_self]; split <;> split <;> omega

theorem SS_put {m p k o : Nat} {l t : List Int} (hp : p < t.length) (ho : t.getD p 0 = o) : ∀ i, SS m l (t.set p k) i = SS m l t i + (if p < i then offI m (l.getD k 0) p - offI m (l.getD o 0) p else 0) := by
  intro i
  induction i with
  | zero => simp [SS]
  | succ i ih =>
    rw [SS, SS, ih, getD_set hp]
    by_cases e : p = i
    · subst e
      rw [if_pos rfl, if_neg (by omega), if_neg (by omega), if_neg (by omega), if_pos (by omega), Int.toNat_natCast, ho, Int.toNat_natCast]; omega
    · rw [if_neg e]
      generalize (if t.getD i 0 < 0 then (0 : Int) else offI m (l.getD (t.getD i 0).toNat 0) i + 1) = Z
      by_cases h : p < i
      · rw [if_pos h, if_pos (by omega)]; omega
      · rw [if_neg h, if_neg (by omega)]; omega

/-- How far the new key's walk goes. -/
def DD (m : Nat) (l : List Int) (j : Nat) : Nat := look (rob m l j) m (home l j) 0 m

/-- What holds of the table and the key that looks, in the slot p, after d steps. -/
structure Rb (m k : Nat) (l t0 t : List Int) (key p d : Nat) : Prop where
  len : t.length = m
  ok : TabOk (k + 1) t m
  klt : key < k + 1
  new : ∀ i, i < m → t.getD i 0 ≠ key
  free : ∀ i, t.getD i 0 < 0 ↔ t0.getD i 0 < 0
  off : offI m (l.getD key 0) p ≤ d
  sum : SS m l t m + offI m (l.getD key 0) p = SS m l t0 m + d
  reach : ∀ i, i < m → ¬ t.getD i 0 < 0 → Reached m l t i
  mine : ∀ e q, e < (offI m (l.getD key 0) p).toNat → q = ((l.getD key 0).toNat + e) % m → ¬ t.getD q 0 < 0
  far : ∀ i, i < m → ¬ t.getD i 0 < 0 → offI m (l.getD (t.getD i 0).toNat 0) i ≤ d ∨ ∃ j, j < k ∧ offI m (l.getD (t.getD i 0).toNat 0) i ≤ DD m l j

theorem Rb.swap {m k : Nat} {l t0 t : List Int} {key p d o : Nat} (hm : 0 < m) (h : Rb m k l t0 t key p d) (hp : p < m) (ho : t.getD p 0 = o) (hle : offI m (l.getD o 0) p ≤ offI m (l.getD key 0) p) :
    Rb m k l t0 (t.set p key) o p d := by
  obtain ⟨h1, h2, h3, h4, h5, h6, h7, h8, h9, h10⟩ := h
  have hpl : p < t.length := by omega
  have hg : ∀ j, (t.set p (key : Int)).getD j 0 = if p = j then (key : Int) else t.getD j 0 := fun j => getD_set hpl
  have hne : key ≠ o := by intro e; exact h4 p hp (by rw [ho, e])
  have hop := h2.range p hp
  have hfr : ∀ i, (t.set p (key : Int)).getD i 0 < 0 ↔ t.getD i 0 < 0 := by
    intro i
    rw [hg]
    split
    · rename_i e; subst e; rw [ho]; omega
    · exact Iff.rfl
  have hoff := offI_range (m := m) (h := l.getD o 0) (p := p) (by omega)
  refine ⟨by simpa using h1, ⟨fun j hj => ?_, fun j hj q hq h0 => ?_⟩, by omega, fun i hi => ?_, fun i => (hfr i).trans (h5 i), by omega, ?_, fun i hi h0 => ?_, fun e q he hq => ?_, fun i hi h0 => ?_⟩
  · rw [hg]; split
    · omega
    · exact h2.range j hj
  · rw [hg, hg]
    rw [hg] at h0
    by_cases eq : p = q
    · rw [if_pos eq, if_neg (by omega)]
      intro e; exact h4 j hj e.symm
    · rw [if_neg eq] at h0 ⊢
      by_cases ej : p = j
      · rw [if_pos ej]; exact h4 q (by omega)
      · rw [if_neg ej]; exact h2.once j hj q hq h0
  · rw [hg]; split
    · omega
    · rename_i e
      intro he
      rcases Nat.lt_or_gt_of_ne e with hlt | hlt
      · exact h2.once i hi p hlt (by rw [ho]; omega) (by rw [ho, he])
      · exact h2.once p hp i hlt (by rw [he]; omega) (by rw [ho, he])
  · rw [SS_put hpl ho, if_pos hp]; omega
  · intro e q he hq
    rw [hfr]
    rw [hg] at he hq
    by_cases ei : p = i
    · subst ei
      rw [if_pos rfl, Int.toNat_natCast] at he hq
      exact h9 e q he hq
    · rw [if_neg ei] at he hq
      exact h8 i hi (by rwa [hfr] at h0) e q he hq
  · rw [hfr]
    exact h8 p hp (by rw [ho]; omega) e q (by rw [ho, Int.toNat_natCast]; exact he) (by rw [ho, Int.toNat_natCast]; exact hq)
  · rw [hg]
    by_cases ei : p = i
    · subst ei
      rw [if_pos rfl, Int.toNat_natCast]; exact .inl h6
    · rw [if_neg ei]; exact h10 i hi (by rwa [hfr] at h0)

theorem Rb.move {m k : Nat} {l t0 t : List Int} {key p d : Nat} (hH : Homes m l) (hkl : k < l.length) (h : Rb m k l t0 t key p d) (hp : p < m) (hf : ¬ t.getD p 0 < 0) (hd : d + 1 < m) :
    Rb m k l t0 t key ((p + 1) % m) (d + 1) := by
  obtain ⟨h1, h2, h3, h4, h5, h6, h7, h8, h9, h10⟩ := h
  have hc := hH.home_cast (k := key) (by omega)
  have hl := hH.home_lt (k := key) (by omega)
  have hnx : offI m (l.getD key 0) ((p + 1) % m : Nat) = offI m (l.getD key 0) p + 1 := by
    rw [← hc] at h6 ⊢
    exact offI_next hl hp (by omega)
  have hoff := offI_range (m := m) (h := l.getD key 0) (p := p) (by omega)
  refine ⟨h1, h2, h3, h4, h5, by rw [hnx]; omega, by rw [hnx]; omega, h8, fun e q he hq => ?_, fun i hi h0 => ?_⟩
  · rw [hnx] at he
    by_cases e1 : e < (offI m (l.getD key 0) p).toNat
    · exact h9 e q e1 hq
    · have hb := offI_back (m := m) (h := l.getD key 0) (p := p) (by omega) ⟨by omega, by omega⟩
      have e2 : (e : Int) = offI m (l.getD key 0) p := by omega
      have : q = p := by
        rw [← e2, ← hc, ← Int.natCast_add, ← Int.natCast_emod] at hb
        have hc2 : (l.getD key 0).toNat = home l key := rfl
        rw [hq, hc2]; omega
      rw [this]; exact hf
  · rcases h10 i hi h0 with hh | hh
    · exact .inl (by omega)
    · exact .inr hh

theorem gives_le {m : Nat} {l : List Int} {p o key : Nat} (h : gives m l p o key = true) : offI m (l.getD o 0) p ≤ offI m (l.getD key 0) p := by
  unfold gives at h
  simp only [Bool.or_eq_true, Bool.and_eq_true, decide_eq_true_eq] at h
  rcases h with h | ⟨h, _⟩ <;> omega

/-- What holds of a fair table. -/
structure RobOk (m : Nat) (l t : List Int) (k : Nat) : Prop where
  len : t.length = m
  ok : TabOk k t m
  reach : ∀ i, i < m → ¬ t.getD i 0 < 0 → Reached m l t i
  sum : SS m l t m = (lin m l k).2
  free : ∀ i, t.getD i 0 < 0 ↔ (lin m l k).1.getD i 0 < 0
  far : ∀ i, i < m → ¬ t.getD i 0 < 0 → ∃ j, j < k ∧ offI m (l.getD (t.getD i 0).toNat 0) i ≤ DD m l j

theorem rob_walk {m k : Nat} {l : List Int} (hH : Homes m l) (hk : k < l.length) (h : RobOk m l (rob m l k) k) {D : Nat} (w : Way (rob m l k) m (home l k) D) : ∀ d, d ≤ D →
    Rb m k l (rob m l k) (rob1 m l (home l k) (rob m l k) k d).1 (rob1 m l (home l k) (rob m l k) k d).2 ((home l k + d) % m) d := by
  obtain ⟨h1, h2, h3, h4, h5, h6⟩ := h
  have hm := hH.pos
  have hhl := hH.home_lt hk
  have hc := hH.home_cast hk
  have hDm := w.lt
  intro d
  induction d with
  | zero =>
    intro _
    have h0 : offI m (l.getD k 0) ((home l k + 0) % m : Nat) = 0 := by rw [← hc]; exact offI_way hhl hm
    refine ⟨h1, ⟨fun j hj => by have := h2.range j hj; simp only [rob1]; omega, h2.once⟩, by simp [rob1], fun i hi e => ?_, fun i => Iff.rfl, ?_, ?_, h3, fun e q he _ => ?_, fun i hi hn => .inr (h6 i hi hn)⟩
    · have := (h2.range i hi).2
      simp only [rob1] at e
      omega
    · simp only [rob1]; rw [h0]; omega
    · simp only [rob1]; rw [h0]; simp
    · simp only [rob1] at he; rw [h0] at he; simp at he
  | succ d ih =>
    intro hd
    have ih := ih (by omega)
    have hp : (home l k + d) % m < m := Nat.mod_lt _ hm
    have hfull := w.full d _ (by omega) rfl
    have hstep : ((home l k + d) % m + 1) % m = (home l k + (d + 1)) % m := step_mod _ _ _
    have hnf : ¬ (rob1 m l (home l k) (rob m l k) k d).1.getD ((home l k + d) % m) 0 < 0 := by rw [ih.free]; exact hfull
    rw [← hstep]
    unfold rob1
    split
    · rename_i hg
      obtain ⟨o, ho⟩ := Int.eq_ofNat_of_zero_le (show 0 ≤ (rob1 m l (home l k) (rob m l k) k d).1.getD ((home l k + d) % m) 0 by omega)
      rw [ho, Int.toNat_natCast] at hg ⊢
      have hs := ih.swap hm hp ho (gives_le hg)
      exact hs.move hH hk hp (by rw [getD_set (by rw [ih.len]; exact hp), if_pos rfl]; omega) (by omega)
    · exact ih.move hH hk hp hnf (by omega)

theorem rob_ok {m : Nat} {l : List Int} (hH : Homes m l) : ∀ k, k ≤ l.length → RobOk m l (rob m l k) k := by
  intro k
  induction k with
  | zero =>
    intro _
    have hn : ∀ i, i < m → (rob m l 0).getD i 0 = -1 := by intro i hi; simp [rob, List.getD, hi]
    refine ⟨by simp [rob], ⟨fun j hj => by rw [hn j hj]; omega, fun j hj q hq h0 => by rw [hn q (by omega)] at h0; omega⟩, fun i hi h0 => by rw [hn i hi] at h0; omega, ?_, fun i => Iff.rfl, fun i hi h0 => by rw [hn i hi] at h0; omega⟩
    have : ∀ i, i ≤ m → SS m l (rob m l 0) i = 0 := by
      intro i
      induction i with
      | zero => intro _; rfl
      | succ i ih => intro hi; rw [SS, ih (by omega), hn i (by omega)]; simp
    rw [this m (Nat.le_refl _)]; rfl
  | succ k ih =>
    intro hk
    have ih := ih (by omega)
    have hm := hH.pos
    have hhl := hH.home_lt (k := k) (by omega)
    have hlm := hH.len
    obtain ⟨D, w⟩ := way ih.len hhl (by rw [(rob_inv hH k (by omega)).2.2]; omega)
    have hDD : DD m l k = D := w.is
    have hw := rob_walk hH (by omega) ih w D (Nat.le_refl _)
    have hlook : look (lin m l k).1 m (home l k) 0 m = D := by rw [← w.is]; exact (look_congr ih.free _ _).symm
    have wl : Way (lin m l k).1 m (home l k) D := ⟨w.lt, fun p hp => (ih.free p).1 (w.free p hp), fun d p hd hp hx => w.full d p hd hp ((ih.free p).2 hx), hlook⟩
    obtain ⟨p, hp⟩ : ∃ p, p = (home l k + D) % m := ⟨_, rfl⟩
    obtain ⟨e1, e2⟩ := lin_succ wl hp
    have e3 : rob m l (k + 1) = (rob1 m l (home l k) (rob m l k) k D).1.set p (rob1 m l (home l k) (rob m l k) k D).2 := by
      rw [rob, w.is, ← hp]
    have hpm : p < m := by rw [hp]; exact Nat.mod_lt _ hm
    have hfree0 := w.free p hp
    have hsum := ih.sum
    have hifree := ih.free
    rw [← hp] at hw
    rw [e3]
    generalize (rob1 m l (home l k) (rob m l k) k D).1 = t at *
    generalize (rob1 m l (home l k) (rob m l k) k D).2 = key at *
    obtain ⟨h1, h2, h3, h4, h5, h6, h7, h8, h9, h10⟩ := hw
    have hpl : p < t.length := by omega
    have hfree : t.getD p 0 < 0 := (h5 p).2 hfree0
    have hg : ∀ j, (t.set p (key : Int)).getD j 0 = if p = j then (key : Int) else t.getD j 0 := fun j => getD_set hpl
    have hll := lin_len m l k
    refine ⟨by simpa using h1, ⟨fun j hj => ?_, fun j hj q hq h0 => ?_⟩, fun i hi h0 => ?_, ?_, fun i => ?_, fun i hi h0 => ?_⟩
    · rw [hg]; split
      · omega
      · have := h2.range j hj; omega
    · rw [hg, hg]
      rw [hg] at h0
      by_cases eq : p = q
      · rw [if_pos eq, if_neg (by omega)]
        intro e; exact h4 j hj e.symm
      · rw [if_neg eq] at h0 ⊢
        by_cases ej : p = j
        · rw [if_pos ej]; exact h4 q (by omega)
        · rw [if_neg ej]; exact h2.once j hj q hq h0
    · intro d q hd hq
      rw [hg] at hd hq ⊢
      split
      · omega
      · by_cases ei : p = i
        · rw [if_pos ei, Int.toNat_natCast] at hd hq
          rw [← ei] at hd
          exact h9 d q hd hq
        · rw [if_neg ei] at hd hq
          rw [hg, if_neg ei] at h0
          exact h8 i hi h0 d q hd hq
    · rw [SS_set hpl hfree, if_pos hpm, e2]; omega
    · rw [e1, hg, getD_set (by omega)]
      split
      · omega
      · rw [h5]; exact hifree i
    · rw [hg] at h0 ⊢
      by_cases ei : p = i
      · subst ei
        rw [if_pos rfl, Int.toNat_natCast]
        exact ⟨k, by omega, by rw [hDD]; exact h6⟩
      · rw [if_neg ei] at h0 ⊢
        rcases h10 i hi h0 with hh | ⟨j, hj, hh⟩
        · exact ⟨k, by omega, by rw [hDD]; exact hh⟩
        · exact ⟨j, by omega, hh⟩

/-- In a linear table each key is as far as its walk went. -/
theorem lin_at {m : Nat} {l : List Int} (hH : Homes m l) : ∀ k, k ≤ l.length → ∀ j, j < k → ∃ p, p < m ∧ (lin m l k).1.getD p 0 = (j : Int) ∧ offI m (l.getD j 0) p = DD m l j := by
  intro k
  induction k with
  | zero => intro _ j hj; omega
  | succ k ih =>
    intro hk j hj
    have hm := hH.pos
    have hhl := hH.home_lt (k := k) (by omega)
    have hc := hH.home_cast (k := k) (by omega)
    have hlm := hH.len
    have hr := rob_ok hH k (by omega)
    obtain ⟨D, w⟩ := way (lin_len m l k) hhl (by rw [lin_held hH k (by omega)]; omega)
    have hDD : DD m l k = D := by rw [← w.is]; exact look_congr hr.free _ _
    obtain ⟨p, hp⟩ : ∃ p, p = (home l k + D) % m := ⟨_, rfl⟩
    obtain ⟨e1, e2⟩ := lin_succ w hp
    have hpm : p < m := by rw [hp]; exact Nat.mod_lt _ hm
    have hfree := w.free p hp
    have hll := lin_len m l k
    by_cases e : j = k
    · subst e
      refine ⟨p, hpm, by rw [e1, getD_set (by omega), if_pos rfl], ?_⟩
      rw [hDD, ← hc, hp]; exact offI_way hhl w.lt
    · obtain ⟨q, hq, h1, h2⟩ := ih (by omega) j (by omega)
      refine ⟨q, hq, ?_, h2⟩
      rw [e1, getD_set (by omega), if_neg]
      · exact h1
      · intro e; subst e; omega

/-- What the law of FairTable asks. -/
theorem FT_law {m : Int} {l : List Int} (hv : VH m l = true) : (FT m l).length = m.toNat ∧ (LT m l).1.length = m.toNat ∧ FD m l (FT m l) = true ∧ tkn (FT m l) (LT m l).1 = true ∧ summ (LK m l (FT m l)) = (LT m l).2 ∧
    (LK m l (FT m l)).length = l.length ∧ (LK m l (LT m l).1).length = l.length ∧
    (∀ x, x < l.length → (LK m l (FT m l)).getD x 0 ≤ 0 ∨ ∃ j, j < l.length ∧ (LK m l (FT m l)).getD x 0 ≤ (LK m l (LT m l).1).getD j 0) := by
  have hh := VH_iff.1 hv
  obtain ⟨M, rfl⟩ := Int.eq_ofNat_of_zero_le (show 0 ≤ m by omega)
  have hM := Homes.of_VH hh
  rw [Int.toNat_natCast] at hM
  have hr := rob_ok hM l.length (Nat.le_refl _)
  obtain ⟨f1, f2, f3⟩ := LT_facts hM hv
  have e1 : LT M l = ((lin M l l.length).1, ((lin M l l.length).2 : Int)) := by unfold LT; rw [if_pos hv, Int.toNat_natCast]
  have e2 : FT M l = rob M l l.length := by unfold FT; rw [if_pos hv, Int.toNat_natCast]
  have hvt : VT M l (rob M l l.length) = true := VT_true hv (by rw [hr.len]) (by rw [hr.len]; exact hr.ok)
  have eK : LK M l (rob M l l.length) = lks M l (rob M l l.length) M := by unfold LK; rw [if_pos hvt, Int.toNat_natCast]
  have eL : LK M l (lin M l l.length).1 = lks M l (lin M l l.length).1 M := by unfold LK; rw [if_pos f1, Int.toNat_natCast]
  rw [e1, e2]
  simp only
  rw [Int.toNat_natCast]
  refine ⟨hr.len, lin_len _ _ _, FD_iff.2 ⟨hvt, by rw [hr.len, Int.toNat_natCast]; exact hr.reach⟩, ?_, ?_, by rw [eK, lks_len], by rw [eL, lks_len], fun x hx => ?_⟩
  · unfold tkn
    exact decide_eq_true fun i _ => hr.free i
  · rw [eK, lks_summ rfl M hr.ok]; exact hr.sum
  · rw [eK, eL]
    by_cases hin : ∃ i, i < M ∧ (rob M l l.length).getD i 0 = (x : Int)
    · obtain ⟨i, hi, he⟩ := hin
      obtain ⟨j, hj, hle⟩ := hr.far i hi (by rw [he]; omega)
      obtain ⟨p, hp, hpj, hpo⟩ := lin_at hM l.length (Nat.le_refl _) j hj
      refine .inr ⟨j, hj, ?_⟩
      rw [he, Int.toNat_natCast] at hle
      have hok := (VT_iff.1 f1).2.2
      rw [lin_len] at hok
      rw [lks_at rfl M hr.ok hi he, lks_at rfl M hok hp hpj, hpo]; omega
    · left
      rw [lks_zero M (fun j hj e => hin ⟨j, hj, e⟩)]
      exact Int.le_refl _

end Go.Proofs.Ytapkalpmnldhpab
