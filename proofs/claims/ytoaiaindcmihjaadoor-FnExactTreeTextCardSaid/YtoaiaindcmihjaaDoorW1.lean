/-
  spec.inRange, spec.validHomes, spec.ValidHomes, impl.ValidHomes: one function of Lean for all of them.
-/
import Derived.Test.YtoaiaindcmihjaaDoorBase
namespace Go.Proofs.YtoaiaindcmihjaaDoor
open Go.RowKit

def inR (n lo hi : Int) : Bool := decide (lo ≤ n) && decide (n ≤ hi)
theorem inR_yes {n lo hi : Int} (h1 : lo ≤ n) (h2 : n ≤ hi) : inR n lo hi = true := by simp [inR, h1, h2]
theorem inR_no1 {n lo hi : Int} (h1 : n < lo) : inR n lo hi = false := by
  have h : ¬ lo ≤ n := by omega
  simp [inR, h]
theorem inR_no2 {n lo hi : Int} (h1 : hi < n) : inR n lo hi = false := by
  have h : ¬ n ≤ hi := by omega
  simp [inR, h]
theorem inR_iff {n lo hi : Int} : inR n lo hi = true ↔ lo ≤ n ∧ n ≤ hi := by simp [inR]

set_option maxHeartbeats 400000 in
theorem inRange_any (n lo hi : Int) (w : World) :
    Calls Tryd.prog 13 #[.int .i64 n, .int .i64 lo, .int .i64 hi] w fun e w' => e = .returned (.bool (inR n lo hi)) ∧ w = w' := by
  by_cases h1 : lo ≤ n
  · go_enter Tryd.func13, Tryd.ntmps13
    go_wp2
    go_ret
    exact ⟨ret_bool (by simp [inR, h1]), rfl⟩
  · go_enter Tryd.func13, Tryd.ntmps13
    go_wp2
    go_ret
    exact ⟨ret_bool (inR_no1 (by omega)).symm, rfl⟩

/-- ValidHomes, as a function of Lean. -/
def VH (m : Int) (l : List Int) : Bool := decide (1 ≤ m) && decide (m ≤ 10) && decide ((l.length : Int) ≤ m) && l.all fun x => decide (0 ≤ x) && decide (x < m)

theorem VH_iff {m : Int} {l : List Int} : VH m l = true ↔ 1 ≤ m ∧ m ≤ 10 ∧ (l.length : Int) ≤ m ∧ ∀ x ∈ l, 0 ≤ x ∧ x < m := by
  simp [VH, and_assoc]
theorem VH_false {m : Int} {l : List Int} (h : ¬ (1 ≤ m ∧ m ≤ 10 ∧ (l.length : Int) ≤ m ∧ ∀ x ∈ l, 0 ≤ x ∧ x < m)) : VH m l = false := by
  rw [← VH_iff] at h; simpa using h

theorem getD_mem {l : List Int} {k : Nat} (h : k < l.length) : l.getD k 0 ∈ l := by
  rw [List.getD_eq_getElem?_getD, List.getElem?_eq_getElem h]; exact List.getElem_mem h

/-- The first k elements are in range. -/
def Fit (m : Int) (l : List Int) (k : Nat) : Prop := ∀ i, i < k → 0 ≤ l.getD i 0 ∧ l.getD i 0 < m
theorem Fit.succ {m : Int} {l : List Int} {k : Nat} (h : Fit m l k) (h1 : 0 ≤ l.getD k 0) (h2 : l.getD k 0 < m) : Fit m l (k + 1) := by
  intro i hi
  by_cases e : i = k
  · subst e; exact ⟨h1, h2⟩
  · exact h i (by omega)
theorem Fit.all {m : Int} {l : List Int} (h : Fit m l l.length) : ∀ x ∈ l, 0 ≤ x ∧ x < m := by
  intro x hx
  obtain ⟨i, hi, rfl⟩ := List.getElem_of_mem hx
  have := h i hi
  rwa [List.getD_eq_getElem?_getD, List.getElem?_eq_getElem hi] at this
theorem notAll {m : Int} {l : List Int} {k : Nat} (hk : k < l.length) (h : ¬ (0 ≤ l.getD k 0 ∧ l.getD k 0 < m)) : VH m l = false :=
  VH_false fun hh => h (hh.2.2.2 _ (getD_mem hk))

end Go.Proofs.YtoaiaindcmihjaaDoor
