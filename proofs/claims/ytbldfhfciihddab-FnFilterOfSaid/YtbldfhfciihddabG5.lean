/-
  The plain mathematics of chapter 2: the filter.
-/
import Derived.Test.YtbldfhfciihddabG4
namespace Go.Proofs.Ytbldfhfciihddab

/-- Home j of key k as a slot. -/
def th (ts : List (List Int)) (k j : Nat) : Nat := ((tr ts k).getD j 0).toNat
theorem Trp.th {M : Nat} {ts : List (List Int)} (h : Trp M ts) {k : Nat} (hk : k < ts.length) {j : Nat} (hj : j < 3) : (tr ts k).getD j 0 = (th ts k j : Int) ∧ th ts k j < M := by
  have := (h.three hk).2 j hj
  unfold Go.Proofs.Ytbldfhfciihddab.th
  omega
/-- The numbers of the slots behind j keys, from the last one on. -/
def fl (M : Nat) (ts : List (List Int)) (ps : List Nat) (ks ss : List Nat) : Nat → List Nat
  | 0 => List.replicate M 0
  | j + 1 => (fl M ts ps ks ss j).set (ss.getD (ks.length - 1 - j) 0)
      (((ps.getD (ks.getD (ks.length - 1 - j) 0) 0 ^^^ (fl M ts ps ks ss j).getD (th ts (ks.getD (ks.length - 1 - j) 0) 0) 0) ^^^ (fl M ts ps ks ss j).getD (th ts (ks.getD (ks.length - 1 - j) 0) 1) 0) ^^^ (fl M ts ps ks ss j).getD (th ts (ks.getD (ks.length - 1 - j) 0) 2) 0)
theorem fl_len (M : Nat) (ts : List (List Int)) (ps ks ss : List Nat) (j : Nat) : (fl M ts ps ks ss j).length = M := by
  induction j with
  | zero => simp [fl]
  | succ j ih => simp [fl, ih]
theorem getD_lt {l : List Nat} {b : Nat} (h : ∀ x ∈ l, x < b) (hb : 0 < b) (i : Nat) : l.getD i 0 < b := by
  by_cases e : i < l.length
  · rw [List.getD_eq_getElem?_getD, List.getElem?_eq_getElem e]; exact h _ (List.getElem_mem e)
  · rw [List.getD_eq_getElem?_getD, List.getElem?_eq_none (by omega)]; exact hb
theorem fl_lt (M : Nat) (ts : List (List Int)) (ps ks ss : List Nat) (hp : ∀ x ∈ ps, x < 256) (j : Nat) : ∀ x ∈ fl M ts ps ks ss j, x < 256 := by
  induction j with
  | zero => intro x hx; simp [fl] at hx; omega
  | succ j ih =>
    intro x hx
    rw [fl] at hx
    rcases List.mem_or_eq_of_mem_set hx with hx | rfl
    · exact ih x hx
    · have a := getD_lt hp (by omega) (ks.getD (ks.length - 1 - j) 0)
      have b := getD_lt ih (by omega)
      exact Nat.xor_lt_two_pow (n := 8) (Nat.xor_lt_two_pow (n := 8) (Nat.xor_lt_two_pow (n := 8) a (b _)) (b _)) (b _)
/-- The prints are right ones of n keys. -/
def PR (n : Nat) (ps : List Int) : Bool := decide (ps.length = n) && ps.all fun x => decide (0 ≤ x) && decide (x ≤ 255)
def FitR (ps : List Int) (k : Nat) : Prop := ∀ i, i < k → 0 ≤ ps.getD i 0 ∧ ps.getD i 0 ≤ 255
theorem PR_iff {n : Nat} {ps : List Int} : PR n ps = true ↔ ps.length = n ∧ FitR ps ps.length := by
  have e : (∀ x ∈ ps, 0 ≤ x ∧ x ≤ 255) ↔ FitR ps ps.length := by
    constructor
    · intro h i hi; have := h ps[i] (List.getElem_mem hi); simpa [List.getD, hi] using this
    · intro h t ht
      obtain ⟨i, hi, rfl⟩ := List.getElem_of_mem ht
      have := h i hi
      simpa [List.getD, hi] using this
  simp only [PR, Bool.and_eq_true, decide_eq_true_eq, List.all_eq_true] at e ⊢
  rw [e]
theorem PR_false {n : Nat} {ps : List Int} (h : ¬ (ps.length = n ∧ FitR ps ps.length)) : PR n ps = false := by rw [← PR_iff] at h; simpa using h
theorem FitR.zero (ps : List Int) : FitR ps 0 := fun i hi => by omega
theorem FitR.succ {ps : List Int} {k : Nat} (h : FitR ps k) (h1 : 0 ≤ ps.getD k 0) (h2 : ps.getD k 0 ≤ 255) : FitR ps (k + 1) := by
  intro i hi
  by_cases e : i = k
  · subst e; exact ⟨h1, h2⟩
  · exact h i (by omega)
theorem PR_nats {n : Nat} {ps : List Int} (h : PR n ps = true) : ∃ qs : List Nat, ps = ints qs ∧ qs.length = n ∧ ∀ x ∈ qs, x < 256 := by
  obtain ⟨h1, h2⟩ := PR_iff.1 h
  refine ⟨ps.map Int.toNat, ?_, by simp [h1], fun x hx => ?_⟩
  · refine List.ext_getElem (by simp [ints]) fun i hi _ => ?_
    have := h2 i hi
    simp [List.getD, hi] at this
    simp [ints]; omega
  · obtain ⟨y, hy, rfl⟩ := List.mem_map.1 hx
    obtain ⟨i, hi, rfl⟩ := List.getElem_of_mem hy
    have := h2 i hi
    simp [List.getD, hi] at this
    omega
/-- FilterOf of valid keys and prints. -/
def flt (M : Nat) (ts : List (List Int)) (ps : List Nat) : List Nat := fl M ts ps (plk M ts).1 (plk M ts).2 (plk M ts).1.length
/-- FilterOf, as a function of Lean. -/
def FO (m : Int) (ts : List (List Int)) (ps : List Int) : List Int × Bool :=
  if TV m ts = true ∧ PR ts.length ps = true ∧ ¬ (plk m.toNat ts).1.length < ts.length then (ints (flt m.toNat ts (ps.map Int.toNat)), true) else ([], false)
theorem FO_len (m : Int) (ts : List (List Int)) (ps : List Int) : (FO m ts ps).1.length ≤ 1048586 := by
  unfold FO
  split
  · rename_i h
    have h1 := (TV_iff.1 h.1).2.1
    simp only [ints_len, flt, fl_len]
    omega
  · simp
theorem ints_toNat (qs : List Nat) : (ints qs).map Int.toNat = qs := by
  refine List.ext_getElem (by simp [ints]) fun i _ _ => by simp [ints]
end Go.Proofs.Ytbldfhfciihddab
