/-
  LooksOf's numbers: distances and one.
-/
import Derived.Test.YtapkalpmnldhpabM3
namespace Go.Proofs.Ytapkalpmnldhpab
open Go.RowKit

theorem offI_range {m h p : Int} (hm : 0 < m) : 0 ≤ offI m h p ∧ offI m h p < m := by
  unfold offI; exact ⟨Int.emod_nonneg _ (by omega), Int.emod_lt_of_pos _ hm⟩
theorem offI_back {m h p : Int} (hm : 0 < m) (hp : 0 ≤ p ∧ p < m) : (h + offI m h p) % m = p := by
  unfold offI
  rw [Int.add_emod_emod, show h + (p - h + m) = p + m by omega, Int.add_emod_right]
  exact Int.emod_eq_of_lt hp.1 hp.2

theorem lks_zero {m : Nat} {l t : List Int} {o : Nat} : ∀ i, (∀ j, j < i → t.getD j 0 ≠ (o : Int)) → (lks m l t i).getD o 0 = 0 := by
  intro i
  induction i with
  | zero => intro _; rw [lks]; by_cases ho : o < l.length <;> simp [List.getD, ho]
  | succ i ih =>
    intro h
    have h1 := ih (fun j hj => h j (by omega))
    by_cases hn : t.getD i 0 < 0
    · rw [lks_no hn]; exact h1
    · obtain ⟨x, hx⟩ := Int.eq_ofNat_of_zero_le (show 0 ≤ t.getD i 0 by omega)
      have hne : x ≠ o := by intro e; exact h i (by omega) (by rw [hx, e])
      rw [lks_yes hx, List.getD_eq_getElem?_getD, List.getElem?_set_ne hne, ← List.getD_eq_getElem?_getD]
      exact h1

theorem lks_at {m n : Nat} {l t : List Int} {o j : Nat} (hn : l.length = n) : ∀ i, TabOk n t i → j < i → t.getD j 0 = (o : Int) → (lks m l t i).getD o 0 = offI m (l.getD o 0) j + 1 := by
  intro i
  induction i with
  | zero => intro _ hj; omega
  | succ i ih =>
    intro hT hj ho
    by_cases hji : j = i
    · subst hji
      have hr := (hT.range j (by omega)).2
      rw [lks_yes ho]
      have hl : o < (lks m l t j).length := by rw [lks_len]; omega
      simp [List.getD, hl]
    · have hT' : TabOk n t i := ⟨fun j hj => hT.range j (by omega), fun j hj => hT.once j (by omega)⟩
      have h1 := ih hT' (by omega) ho
      by_cases hneg : t.getD i 0 < 0
      · rw [lks_no hneg]; exact h1
      · obtain ⟨x, hx⟩ := Int.eq_ofNat_of_zero_le (show 0 ≤ t.getD i 0 by omega)
        have hne : x ≠ o := by
          intro e
          exact hT.once i (by omega) j (by omega) (by rw [ho]; omega) (by rw [ho, hx, e])
        rw [lks_yes hx, List.getD_eq_getElem?_getD, List.getElem?_set_ne hne, ← List.getD_eq_getElem?_getD]
        exact h1

/-- How many numbers are positive. -/
def posi (l : List Int) : Nat := l.countP fun x => decide (0 < x)

theorem held_take' {l : List Int} {k : Nat} (h : k < l.length) : held (l.take (k + 1)) = held (l.take k) + (if 0 ≤ l.getD k 0 then 1 else 0) := by
  have e : l.take (k + 1) = l.take k ++ [l.getD k 0] := by rw [List.take_succ_eq_append_getElem h]; simp [List.getD, h]
  rw [e]; unfold held; rw [List.countP_append]; simp [List.countP_cons]

theorem lks_posi {m n : Nat} {l t : List Int} (hm : 0 < m) (hn : l.length = n) : ∀ i, i ≤ t.length → TabOk n t i → posi (lks m l t i) = held (t.take i) := by
  intro i
  induction i with
  | zero => intro _ _; rw [lks]; simp [posi, held, List.countP_replicate]
  | succ i ih =>
    intro hi hT
    have hT' : TabOk n t i := ⟨fun j hj => hT.range j (by omega), fun j hj => hT.once j (by omega)⟩
    have h1 := ih (by omega) hT'
    rw [held_take' (by omega)]
    by_cases hneg : t.getD i 0 < 0
    · rw [lks_no hneg, if_neg (by omega), h1]; rfl
    · rw [if_pos (by omega)]
      obtain ⟨x, hx⟩ := Int.eq_ofNat_of_zero_le (show 0 ≤ t.getD i 0 by omega)
      have hr := (hT.range i (by omega)).2
      have hl : x < (lks m l t i).length := by rw [lks_len]; omega
      have h0 : (lks m l t i).getD x 0 = 0 := lks_zero i (fun j hj e => hT.once i (by omega) j hj (by rw [e]; omega) (by rw [e, hx]))
      have h0' : (lks m l t i)[x] = 0 := by simpa [List.getD, hl] using h0
      have := countP_set (fun y : Int => decide (0 < y)) (lks m l t i) x (offI m (l.getD x 0) i + 1) hl
      have hp := (offI_range (m := m) (h := l.getD x 0) (p := i) (by omega)).1
      rw [h0'] at this
      have hpos : 0 < offI m (l.getD x 0) i + 1 := by omega
      rw [lks_yes hx]
      generalize offI m (l.getD x 0) i + 1 = Y at this hpos ⊢
      simp [hpos] at this
      unfold posi at h1 ⊢
      rw [← h1]
      exact this

/-- What the law of LooksOf asks of one slot. -/
theorem LK_slot {m : Nat} {l t : List Int} (h : VT m l t = true) {i : Nat} (hi : i < m) (hk : 0 ≤ t.getD i 0) :
    ∃ o : Nat, t.getD i 0 = o ∧ o < l.length ∧ 0 ≤ l.getD o 0 ∧ l.getD o 0 < m ∧ 1 ≤ (lks m l t m).getD o 0 ∧ (lks m l t m).getD o 0 ≤ m ∧ (l.getD o 0 + (lks m l t m).getD o 0 - 1) % m = i := by
  obtain ⟨hv, hlen, hT⟩ := VT_iff.1 h
  have hlen' : t.length = m := by omega
  rw [hlen'] at hT
  obtain ⟨h1, h2, h3, h4⟩ := VH_iff.1 hv
  obtain ⟨o, ho⟩ := Int.eq_ofNat_of_zero_le hk
  have hr := (hT.range i hi).2
  have hol : o < l.length := by omega
  have e := lks_at (m := m) rfl m hT hi ho
  have hlo := h4 (l[o]) (List.getElem_mem hol)
  have hlo' : l.getD o 0 = l[o] := by simp [List.getD, hol]
  rw [← hlo'] at hlo
  have hof := offI_range (m := m) (h := l.getD o 0) (p := i) (by omega)
  have hb := offI_back (m := m) (h := l.getD o 0) (p := i) (by omega) (by omega)
  refine ⟨o, ho, hol, hlo.1, hlo.2, by omega, by omega, ?_⟩
  rw [e, show l.getD o 0 + (offI m (l.getD o 0) i + 1) - 1 = l.getD o 0 + offI m (l.getD o 0) i by omega]
  exact hb

end Go.Proofs.Ytapkalpmnldhpab
