/-
  spec.inRange, spec.validHomes, spec.ValidHomes, impl.ValidHomes: one function of Lean for all of them.
-/
import Derived.Test.YtoaiaindcmihjaaGreatDoorBase
namespace Go.Proofs.YtoaiaindcmihjaaGreatDoor
open Go.RowKit

def inR (n lo hi : Int) : Bool := decide (lo ≤ n) && decide (n ≤ hi)
theorem inR_yes {n lo hi : Int} (h1 : lo ≤ n) (h2 : n ≤ hi) : inR n lo hi = true := by simp [inR, h1, h2]
theorem inR_no1 {n lo hi : Int} (h1 : n < lo) : inR n lo hi = false := by
  have h : ¬ lo ≤ n := by omega
  simp [inR, h]
theorem inR_no2 {n lo hi : Int} (h1 : hi < n) : inR n lo hi = false := by
  have h : ¬ n ≤ hi := by omega
  simp [inR, h]
theorem inR_iff {n lo hi : Int} : inR n lo hi = true ↔ lo ≤ n ∧ n ≤ hi := by simp [inR]

set_option maxHeartbeats 400000 in
theorem inRange_any (n lo hi : Int) (w : World) :
    Calls Tryz.prog 58 #[.int .i64 n, .int .i64 lo, .int .i64 hi] w fun e w' => e = .returned (.bool (inR n lo hi)) ∧ w = w' := by
  by_cases h1 : lo ≤ n
  · go_enter Tryz.func58, Tryz.ntmps58
    go_wp2
    go_ret
    exact ⟨ret_bool (by simp [inR, h1]), rfl⟩
  · go_enter Tryz.func58, Tryz.ntmps58
    go_wp2
    go_ret
    exact ⟨ret_bool (inR_no1 (by omega)).symm, rfl⟩

/-- ValidHomes, as a function of Lean. -/
def VH (m : Int) (l : List Int) : Bool := decide (1 ≤ m) && decide (m ≤ 10) && decide ((l.length : Int) ≤ m) && l.all fun x => decide (0 ≤ x) && decide (x < m)

theorem VH_iff {m : Int} {l : List Int} : VH m l = true ↔ 1 ≤ m ∧ m ≤ 10 ∧ (l.length : Int) ≤ m ∧ ∀ x ∈ l, 0 ≤ x ∧ x < m := by
  simp [VH, and_assoc]
theorem VH_false {m : Int} {l : List Int} (h : ¬ (1 ≤ m ∧ m ≤ 10 ∧ (l.length : Int) ≤ m ∧ ∀ x ∈ l, 0 ≤ x ∧ x < m)) : VH m l = false := by
  rw [← VH_iff] at h; simpa using h

theorem getD_mem {l : List Int} {k : Nat} (h : k < l.length) : l.getD k 0 ∈ l := by
  rw [List.getD_eq_getElem?_getD, List.getElem?_eq_getElem h]; exact List.getElem_mem h

/-- The first k elements are in range. -/
def Fit (m : Int) (l : List Int) (k : Nat) : Prop := ∀ i, i < k → 0 ≤ l.getD i 0 ∧ l.getD i 0 < m
theorem Fit.succ {m : Int} {l : List Int} {k : Nat} (h : Fit m l k) (h1 : 0 ≤ l.getD k 0) (h2 : l.getD k 0 < m) : Fit m l (k + 1) := by
  intro i hi
  by_cases e : i = k
  · subst e; exact ⟨h1, h2⟩
  · exact h i (by omega)
theorem Fit.all {m : Int} {l : List Int} (h : Fit m l l.length) : ∀ x ∈ l, 0 ≤ x ∧ x < m := by
  intro x hx
  obtain ⟨i, hi, rfl⟩ := List.getElem_of_mem hx
  have := h i hi
  rwa [List.getD_eq_getElem?_getD, List.getElem?_eq_getElem hi] at this
theorem notAll {m : Int} {l : List Int} {k : Nat} (hk : k < l.length) (h : ¬ (0 ≤ l.getD k 0 ∧ l.getD k 0 < m)) : VH m l = false :=
  VH_false fun hh => h (hh.2.2.2 _ (getD_mem hk))

set_option maxHeartbeats 400000 in
theorem implValidHomes_any (m : Int) (a : Option Addr) (l : List Int) (cap : Nat) (w : World) (hr : Reads w a l) :
    Calls Tryz.prog 124 #[.int .i64 m, .slice a l.length cap] w fun e w' => e = .returned (.bool (VH m l)) ∧ w = w' := by
  by_cases h1 : m < 1
  · go_enter Tryz.func124, Tryz.ntmps124
    go_wp2
    go_ret
    exact ⟨ret_bool (VH_false (by omega)).symm, rfl⟩
  by_cases h2 : 10 < m
  · go_enter Tryz.func124, Tryz.ntmps124
    go_wp2
    go_ret
    exact ⟨ret_bool (VH_false (by omega)).symm, rfl⟩
  by_cases h3 : m < (l.length : Int)
  · go_enter Tryz.func124, Tryz.ntmps124
    go_wp2
    go_ret
    exact ⟨ret_bool (VH_false (by omega)).symm, rfl⟩
  go_enter Tryz.func124, Tryz.ntmps124
  go_wp2
  go_loop [21] (fun i => ∃ k : Nat, k ≤ l.length ∧ i = .int .i64 k ∧ Fit m l k) (fun i => l.length - (intOf i).toNat)
  case atStart => exact ⟨0, Nat.zero_le _, rfl, fun i hi => by omega⟩
  case round =>
    obtain ⟨k, hk, rfl, hf⟩ := hrel
    by_cases hlt : k < l.length
    · obtain ⟨b, off, x, rfl, hb, hcell, hx⟩ := hr.get hlt
      by_cases g1 : x < 0
      · go_wp2
        go_ret
        exact ⟨ret_bool (notAll hlt (by rw [hx.out]; omega)).symm, rfl⟩
      by_cases g2 : m ≤ x
      · go_wp2
        go_ret
        exact ⟨ret_bool (notAll hlt (by rw [hx.out]; omega)).symm, rfl⟩
      go_wp2
      go_round
      case rel => exact ⟨k + 1, by omega, by go_num, hf.succ (by rw [hx.out]; omega) (by rw [hx.out]; omega)⟩
      case measure => simp [intOf]; omega
    · obtain rfl : k = l.length := by omega
      go_wp2
      go_ret
      exact ⟨ret_bool (VH_iff.2 ⟨by omega, by omega, by omega, hf.all⟩).symm, rfl⟩

set_option maxHeartbeats 400000 in
theorem specvalidHomes_pos (m : Int) (a : Option Addr) (l : List Int) (cap : Nat) (w : World) (hr : Reads w a l) (hm : 1 ≤ m) (hl : l.length ≤ 1048586) (hm' : m ≤ 9223372036854775807) :
    Calls Tryz.prog 77 #[.int .i64 m, .slice a l.length cap] w fun e w' => e = .returned (.bool (VH m l)) ∧ w = w' := by
  go_enter Tryz.func77, Tryz.ntmps77
  go_wp2
  go_loop [5] (fun i => ∃ k : Nat, k ≤ l.length ∧ i = .int .i64 k ∧ Fit m l k) (fun i => l.length - (intOf i).toNat)
  case atStart => exact ⟨0, Nat.zero_le _, rfl, fun i hi => by omega⟩
  case round =>
    obtain ⟨k, hk, rfl, hf⟩ := hrel
    by_cases hlt : k < l.length
    · obtain ⟨b, off, x, rfl, hb, hcell, hx⟩ := hr.get hlt
      by_cases g1 : inR x 0 (m - 1) = true
      · go_wp2_with (go_at_call 58; refine (inRange_any _ _ _ _).mono ?_; rintro e w' ⟨rfl, rfl⟩)
        go_round
        case rel => exact ⟨k + 1, by omega, by go_num, hf.succ (by rw [hx.out]; rw [inR_iff] at g1; omega) (by rw [hx.out]; rw [inR_iff] at g1; omega)⟩
        case measure => simp [intOf]; omega
      · have g2 : inR x 0 (m - 1) = false := by simpa using g1
        go_wp2_with (go_at_call 58; refine (inRange_any _ _ _ _).mono ?_; rintro e w' ⟨rfl, rfl⟩)
        go_ret
        exact ⟨ret_bool (notAll hlt (by rw [hx.out]; rw [inR_iff] at g1; omega)).symm, rfl⟩
    · obtain rfl : k = l.length := by omega
      by_cases g1 : inR m 1 10 = true
      · go_wp2_with (go_at_call 58; refine (inRange_any _ _ _ _).mono ?_; rintro e w' ⟨rfl, rfl⟩)
        go_ret
        refine ⟨ret_bool ?_, rfl⟩
        rw [inR_iff] at g1
        by_cases h3 : (l.length : Int) ≤ m
        · rw [VH_iff.2 ⟨g1.1, g1.2, h3, hf.all⟩]; simp [h3]
        · rw [VH_false (by omega)]; simp [h3]
      · have g2 : inR m 1 10 = false := by simpa using g1
        go_wp2_with (go_at_call 58; refine (inRange_any _ _ _ _).mono ?_; rintro e w' ⟨rfl, rfl⟩)
        go_ret
        exact ⟨ret_bool (VH_false (by rw [inR_iff] at g1; omega)).symm, rfl⟩

set_option maxHeartbeats 400000 in
theorem specvalidHomes_neg (m : Int) (a : Option Addr) (l : List Int) (cap : Nat) (w : World) (hr : Reads w a l) (hm : m < 1) (hl : l.length ≤ 1048586) :
    Calls Tryz.prog 77 #[.int .i64 m, .slice a l.length cap] w fun e w' => e = .returned (.bool (VH m l)) ∧ w = w' := by
  have hv : VH m l = false := VH_false (by omega)
  have H := Lib.hid hv
  clear hv
  go_enter Tryz.func77, Tryz.ntmps77
  go_wp2
  go_loop [5] (fun i => ∃ k : Nat, k ≤ l.length ∧ i = .int .i64 k) (fun i => l.length - (intOf i).toNat)
  case atStart => exact ⟨0, Nat.zero_le _, rfl⟩
  case round =>
    obtain ⟨k, hk, rfl⟩ := hrel
    by_cases hlt : k < l.length
    · obtain ⟨b, off, x, rfl, hb, hcell, hx⟩ := hr.get hlt
      go_wp2_with fail
      refine (inRange_any _ _ _ _).mono ?_
      rintro e w' ⟨rfl, rfl⟩
      go_wp2
      · go_ret
        exact ⟨ret_bool H.out.symm, rfl⟩
      · go_round
        case rel => exact ⟨k + 1, by omega, by go_num⟩
        case measure => simp [intOf]; omega
    · obtain rfl : k = l.length := by omega
      have g2 : inR m 1 10 = false := inR_no1 (by omega)
      go_wp2_with (go_at_call 58; refine (inRange_any _ _ _ _).mono ?_; rintro e w' ⟨rfl, rfl⟩)
      go_ret
      exact ⟨ret_bool H.out.symm, rfl⟩

theorem specvalidHomes_any (m : Int) (a : Option Addr) (l : List Int) (cap : Nat) (w : World) (hr : Reads w a l) (hm : In64 m) (hl : l.length ≤ 1048586) :
    Calls Tryz.prog 77 #[.int .i64 m, .slice a l.length cap] w fun e w' => e = .returned (.bool (VH m l)) ∧ w = w' := by
  by_cases h : 1 ≤ m
  · exact specvalidHomes_pos m a l cap w hr h hl hm.2
  · exact specvalidHomes_neg m a l cap w hr (by omega) hl

end Go.Proofs.YtoaiaindcmihjaaGreatDoor
