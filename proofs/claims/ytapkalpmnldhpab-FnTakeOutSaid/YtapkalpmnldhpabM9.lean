/-
  Linear tables: their keys are found, and their looks add up.
-/
import Derived.Test.YtapkalpmnldhpabM7
import Derived.Test.YtapkalpmnldhpabM8
import Derived.Test.YtapkalpmnldhpabS3
import Derived.Test.YtapkalpmnldhpabLG
namespace Go.Proofs.Ytapkalpmnldhpab
open Go.RowKit

theorem offI_way {m h D : Nat} (hh : h < m) (hD : D < m) : offI m h ((h + D) % m : Nat) = D := by
  unfold offI
  by_cases hl : h + D < m
  · rw [Nat.mod_eq_of_lt hl, show ((h + D : Nat) : Int) - h + m = D + m by omega, Int.add_emod_right]
    exact Int.emod_eq_of_lt (by omega) (by omega)
  · rw [Nat.mod_eq_sub_mod (by omega), Nat.mod_eq_of_lt (by omega), show ((h + D - m : Nat) : Int) - h + m = D by omega]
    exact Int.emod_eq_of_lt (by omega) (by omega)

theorem summ_set {L : List Int} {x : Nat} {y : Int} (h : x < L.length) : summ (L.set x y) = summ L - L.getD x 0 + y := by
  induction L generalizing x with
  | nil => simp at h
  | cons z r ih =>
    cases x with
    | zero => simp [summ]; omega
    | succ x =>
      simp only [List.length_cons] at h
      have := ih (x := x) (by omega)
      simp only [List.set_cons_succ, summ, this]
      have e : (z :: r).getD (x + 1) 0 = r.getD x 0 := by simp [List.getD]
      rw [e]; omega

/-- The looks of the keys in the first slots. -/
def SS (m : Nat) (l t : List Int) : Nat → Int
  | 0 => 0
  | i + 1 => SS m l t i + (if t.getD i 0 < 0 then 0 else offI m (l.getD (t.getD i 0).toNat 0) i + 1)

theorem summ_rep (n : Nat) : summ (List.replicate n 0) = 0 := by
  induction n with
  | zero => rfl
  | succ n ih => rw [List.replicate_succ]; simp [summ, ih]

theorem lks_summ {m n : Nat} {l t : List Int} (hn : l.length = n) : ∀ i, TabOk n t i → summ (lks m l t i) = SS m l t i := by
  intro i
  induction i with
  | zero => intro _; rw [lks, SS, summ_rep]
  | succ i ih =>
    intro hT
    have hT' : TabOk n t i := ⟨fun j hj => hT.range j (by omega), fun j hj => hT.once j (by omega)⟩
    have h1 := ih hT'
    by_cases hneg : t.getD i 0 < 0
    · rw [lks_no hneg, SS, if_pos hneg, h1]; omega
    · obtain ⟨x, hx⟩ := Int.eq_ofNat_of_zero_le (show 0 ≤ t.getD i 0 by omega)
      have hr := (hT.range i (by omega)).2
      have hl : x < (lks m l t i).length := by rw [lks_len]; omega
      have h0 : (lks m l t i).getD x 0 = 0 := lks_zero i (fun j hj e => hT.once i (by omega) j hj (by rw [e]; omega) (by rw [e, hx]))
      rw [lks_yes hx, summ_set hl, h0, h1, SS, if_neg hneg, hx, Int.toNat_natCast]
      omega

theorem SS_set {m p k : Nat} {l t : List Int} (hp : p < t.length) (hf : t.getD p 0 < 0) : ∀ i, SS m l (t.set p k) i = SS m l t i + (if p < i then offI m (l.getD k 0) p + 1 else 0) := by
  intro i
  induction i with
  | zero => simp [SS]
  | succ i ih =>
    rw [SS, SS, ih, getD_set hp]
    by_cases e : p = i
    · subst e
      rw [if_pos rfl, if_neg (by omega), if_neg (by omega), if_pos hf, if_pos (by omega), Int.toNat_natCast]
    · rw [if_neg e]
      generalize (if t.getD i 0 < 0 then (0 : Int) else offI m (l.getD (t.getD i 0).toNat 0) i + 1) = Z
      by_cases h : p < i
      · rw [if_pos h, if_pos (by omega)]; omega
      · rw [if_neg h, if_neg (by omega)]; omega

/-- What holds of a linear table. -/
structure LinOk (m : Nat) (l t : List Int) (k c : Nat) : Prop where
  ok : TabOk k t m
  reach : ∀ i, i < m → ¬ t.getD i 0 < 0 → Reached m l t i
  sum : SS m l t m = c

theorem lin_ok {m : Nat} {l : List Int} (h : Homes m l) : ∀ k, k ≤ l.length → LinOk m l (lin m l k).1 k (lin m l k).2 := by
  intro k
  induction k with
  | zero =>
    intro _
    have hn : ∀ i, i < m → (lin m l 0).1.getD i 0 = -1 := by intro i hi; simp [lin, List.getD, hi]
    refine ⟨⟨fun j hj => by rw [hn j hj]; omega, fun j hj q hq h0 => by rw [hn q (by omega)] at h0; omega⟩, fun i hi h0 => by rw [hn i hi] at h0; omega, ?_⟩
    have : ∀ i, i ≤ m → SS m l (lin m l 0).1 i = 0 := by
      intro i
      induction i with
      | zero => intro _; rfl
      | succ i ih => intro hi; rw [SS, ih (by omega), hn i (by omega)]; simp
    rw [this m (Nat.le_refl _)]; rfl
  | succ k ih =>
    intro hk
    obtain ⟨h1, h2, h3⟩ := ih (by omega)
    have hlen := lin_len m l k
    have hhl : home l k < m := h.home_lt (by omega)
    have hc := h.home_cast (k := k) (by omega)
    have hlm := h.len
    obtain ⟨D, w⟩ := way hlen hhl (by rw [lin_held h k (by omega)]; omega)
    obtain ⟨p, hp⟩ : ∃ p, p = (home l k + D) % m := ⟨_, rfl⟩
    obtain ⟨e1, e2⟩ := lin_succ w hp
    have hpm : p < m := by rw [hp]; exact Nat.mod_lt _ (by omega)
    have hpl : p < (lin m l k).1.length := by omega
    have hfree := w.free p hp
    have hD := w.lt
    have hoff : offI m (l.getD k 0) p = D := by rw [← hc, hp]; exact offI_way hhl hD
    have hfull := w.full
    rw [e1, e2]
    generalize (lin m l k).1 = t at *
    have hg : ∀ j, (t.set p (k : Int)).getD j 0 = if p = j then (k : Int) else t.getD j 0 := fun j => getD_set hpl
    refine ⟨⟨fun j hj => ?_, fun j hj q hq h0 => ?_⟩, fun i hi h0 => ?_, ?_⟩
    · rw [hg]; split
      · omega
      · have := h1.range j hj; omega
    · rw [hg, hg]
      rw [hg] at h0
      have hj1 := h1.range j hj
      have hq1 := h1.range q (by omega)
      by_cases eq : p = q
      · rw [if_pos eq, if_neg (by omega)]; omega
      · rw [if_neg eq] at h0 ⊢
        by_cases ej : p = j
        · rw [if_pos ej]; omega
        · rw [if_neg ej]; exact h1.once j hj q hq h0
    · intro d q hd hq
      rw [hg] at hd hq ⊢
      by_cases ei : p = i
      · rw [if_pos ei, Int.toNat_natCast] at hd hq
        rw [← ei, hoff] at hd
        split
        · omega
        · exact hfull d q (by omega) (by rw [hq]; rfl)
      · rw [if_neg ei] at hd hq
        rw [hg, if_neg ei] at h0
        split
        · omega
        · exact h2 i hi h0 d q hd hq
    · rw [SS_set hpl hfree, if_pos hpm, hoff, h3]; omega

/-- A linear table is a table of the keys, all are found, and their looks add up. -/
theorem LT_facts {m : Nat} {l : List Int} (h : Homes m l) (hv : VH m l = true) :
    VT m l (lin m l l.length).1 = true ∧ FD m l (lin m l l.length).1 = true ∧ summ (LK m l (lin m l l.length).1) = (lin m l l.length).2 := by
  obtain ⟨h1, h2, h3⟩ := lin_ok h l.length (Nat.le_refl _)
  have hlen := lin_len m l l.length
  have hvt : VT m l (lin m l l.length).1 = true := VT_true hv (by rw [hlen]) (by rw [hlen]; exact h1)
  refine ⟨hvt, FD_iff.2 ⟨hvt, ?_⟩, ?_⟩
  · rw [hlen, Int.toNat_natCast]; exact h2
  · unfold LK
    rw [if_pos hvt, Int.toNat_natCast, lks_summ rfl m h1]; exact h3

end Go.Proofs.Ytapkalpmnldhpab
