/-
  The plain mathematics of tables that came in: valid tables, looks, found.
-/
import Derived.Test.YtapkalpmnldhpabM2
namespace Go.Proofs.Ytapkalpmnldhpab
open Go.RowKit

/-- The first i slots hold -1 or keys below n, no key twice. -/
structure TabOk (n : Nat) (t : List Int) (i : Nat) : Prop where
  range : ∀ j, j < i → -1 ≤ t.getD j 0 ∧ t.getD j 0 < n
  once : ∀ j, j < i → ∀ k, k < j → 0 ≤ t.getD k 0 → t.getD k 0 ≠ t.getD j 0

theorem TabOk.zero (n : Nat) (t : List Int) : TabOk n t 0 := ⟨fun j hj => by omega, fun j hj => by omega⟩
theorem TabOk.succ {n : Nat} {t : List Int} {i : Nat} (h : TabOk n t i) (h1 : -1 ≤ t.getD i 0 ∧ t.getD i 0 < n) (h2 : ∀ k, k < i → 0 ≤ t.getD k 0 → t.getD k 0 ≠ t.getD i 0) : TabOk n t (i + 1) := by
  constructor
  · intro j hj
    by_cases e : j = i
    · subst e; exact h1
    · exact h.range j (by omega)
  · intro j hj
    by_cases e : j = i
    · subst e; exact h2
    · exact h.once j (by omega)

/-- The list is a table of m slots for the keys with the homes. -/
noncomputable def VT (m : Int) (l t : List Int) : Bool := @decide (VH m l = true ∧ (t.length : Int) = m ∧ TabOk l.length t t.length) (Classical.propDecidable _)
theorem VT_iff {m : Int} {l t : List Int} : VT m l t = true ↔ VH m l = true ∧ (t.length : Int) = m ∧ TabOk l.length t t.length := by
  unfold VT; exact @decide_eq_true_iff _ (Classical.propDecidable _)
theorem VT_false {m : Int} {l t : List Int} (h : ¬ (VH m l = true ∧ (t.length : Int) = m ∧ TabOk l.length t t.length)) : VT m l t = false := by
  unfold VT; exact @decide_eq_false _ (Classical.propDecidable _) h
theorem VT_true {m : Int} {l t : List Int} (h : VH m l = true) (h2 : (t.length : Int) = m) (h3 : TabOk l.length t t.length) : VT m l t = true := VT_iff.2 ⟨h, h2, h3⟩

/-- LooksOf's list after i slots. -/
def lks (m : Nat) (l t : List Int) : Nat → List Int
  | 0 => List.replicate l.length 0
  | i + 1 => if t.getD i 0 < 0 then lks m l t i else (lks m l t i).set (t.getD i 0).toNat (offI m (l.getD (t.getD i 0).toNat 0) i + 1)
theorem lks_len (m : Nat) (l t : List Int) : ∀ i, (lks m l t i).length = l.length := by
  intro i
  induction i with
  | zero => simp [lks]
  | succ i ih => unfold lks; split <;> simp [ih]
theorem lks_no {m : Nat} {l t : List Int} {i : Nat} (h : t.getD i 0 < 0) : lks m l t (i + 1) = lks m l t i := by rw [lks, if_pos h]
theorem lks_yes {m : Nat} {l t : List Int} {i o : Nat} (h : t.getD i 0 = o) : lks m l t (i + 1) = (lks m l t i).set o (offI m (l.getD o 0) i + 1) := by
  rw [lks, if_neg (by rw [h]; omega), h, Int.toNat_natCast]

/-- LooksOf. -/
noncomputable def LK (m : Int) (l t : List Int) : List Int := if VT m l t = true then lks m.toNat l t m.toNat else []
theorem LK_len (m : Int) (l t : List Int) : (LK m l t).length ≤ 1048586 := by
  unfold LK
  split
  · rename_i h
    have := VH_iff.1 (VT_iff.1 h).1
    rw [lks_len]; omega
  · simp


/-- readTable's array after i slots. -/
def pre (t : List Int) (i : Nat) : List Int := t.take i ++ List.replicate (10 - i) (-1)
theorem pre_len {t : List Int} {i : Nat} (h : i ≤ t.length) (h2 : t.length ≤ 10) : (pre t i).length = 10 := by simp [pre]; omega
theorem pre_succ {t : List Int} {i : Nat} (h : i < t.length) (h2 : t.length ≤ 10) : (pre t i).set i (t.getD i 0) = pre t (i + 1) := by
  have e : t.getD i 0 = t[i] := by simp [List.getD, h]
  have e2 : (t.take i).length = i := by simp; omega
  unfold pre
  rw [List.set_append_right _ _ (by omega), e2, Nat.sub_self, show 10 - i = (10 - (i + 1)) + 1 by omega, List.replicate_succ, List.set_cons_zero, e, List.take_succ_eq_append_getElem h, List.append_assoc]
  rfl
theorem pre_skip {t : List Int} {i : Nat} (h : i < t.length) (h2 : t.length ≤ 10) (hx : t.getD i 0 = -1) : pre t (i + 1) = pre t i := by
  rw [← pre_succ h h2, hx]
  apply List.ext_getElem?
  intro j
  by_cases hj : i = j
  · subst hj
    rw [List.getElem?_set_self (by rw [pre_len (by omega) h2]; omega)]
    have e2 : (t.take i).length = i := by simp; omega
    simp only [pre]
    rw [List.getElem?_append_right (by omega), e2, Nat.sub_self, List.getElem?_replicate, if_pos (by omega)]
  · rw [List.getElem?_set_ne hj]

/-- The keys that readTable has seen after i slots. -/
def sn (t : List Int) : Nat → List Bool
  | 0 => List.replicate 10 false
  | i + 1 => if t.getD i 0 < 0 then sn t i else (sn t i).set (t.getD i 0).toNat true
theorem sn_len (t : List Int) : ∀ i, (sn t i).length = 10 := by
  intro i
  induction i with
  | zero => rfl
  | succ i ih => unfold sn; split <;> simp [ih]
theorem sn_no {t : List Int} {i : Nat} (h : t.getD i 0 < 0) : sn t (i + 1) = sn t i := by rw [sn, if_pos h]
theorem sn_yes {t : List Int} {i o : Nat} (h : t.getD i 0 = o) : sn t (i + 1) = (sn t i).set o true := by
  rw [sn, if_neg (by rw [h]; omega), h, Int.toNat_natCast]
theorem sn_get (t : List Int) {k : Nat} (hk : k < 10) : ∀ i, ((sn t i).getD k false = true ↔ ∃ j, j < i ∧ t.getD j 0 = k) := by
  intro i
  induction i with
  | zero =>
    constructor
    · intro h; rw [sn, List.getD_eq_getElem?_getD, List.getElem?_replicate, if_pos hk] at h; simp at h
    · rintro ⟨j, hj, _⟩; omega
  | succ i ih =>
    by_cases h : t.getD i 0 < 0
    · rw [sn_no h, ih]
      constructor
      · rintro ⟨j, hj, e⟩; exact ⟨j, by omega, e⟩
      · rintro ⟨j, hj, e⟩
        by_cases hji : j = i
        · subst hji; omega
        · exact ⟨j, by omega, e⟩
    · obtain ⟨o, ho⟩ := Int.eq_ofNat_of_zero_le (show 0 ≤ t.getD i 0 by omega)
      rw [sn_yes ho]
      by_cases hok : o = k
      · subst hok
        have : ((sn t i).set o true).getD o false = true := by
          have := sn_len t i
          simp [List.getD, List.getElem?_set, this, hk]
        rw [this]
        exact ⟨fun _ => ⟨i, by omega, ho⟩, fun _ => rfl⟩
      · have : ((sn t i).set o true).getD k false = (sn t i).getD k false := by
          simp [List.getD, List.getElem?_set, hok]
        rw [this, ih]
        constructor
        · rintro ⟨j, hj, e⟩; exact ⟨j, by omega, e⟩
        · rintro ⟨j, hj, e⟩
          by_cases hji : j = i
          · subst hji; omega
          · exact ⟨j, by omega, e⟩

end Go.Proofs.Ytapkalpmnldhpab
