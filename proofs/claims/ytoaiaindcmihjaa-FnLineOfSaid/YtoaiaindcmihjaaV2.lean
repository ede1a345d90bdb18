/-
  The plain mathematics of chapter 5: counts.
-/
import Derived.Test.YtoaiaindcmihjaaR1
import Derived.Test.YtoaiaindcmihjaaV1
namespace Go.Proofs.Ytoaiaindcmihjaa

/-- Row i of the counts of keys. -/
def crow (bits i : Nat) (keys : List Int) : List Int := (List.range bits).map fun p : Nat => ((keys.countP fun x => decide (hs (i + 1) i bits x = (p : Int)) : Nat) : Int)
theorem crow_len (bits i : Nat) (keys : List Int) : (crow bits i keys).length = bits := by simp [crow]
theorem crow_nil (bits i : Nat) : crow bits i [] = List.replicate bits 0 := by
  apply List.ext_getElem
  · simp [crow]
  · intro j h1 h2; simp [crow]
theorem crow_get {bits i p : Nat} {keys : List Int} (h : p < bits) : (crow bits i keys).getD p 0 = ((keys.countP fun x => decide (hs (i + 1) i bits x = (p : Int)) : Nat) : Int) := by
  simp [crow, List.getD, h]
theorem crow_snoc {bits i p : Nat} {keys : List Int} {x : Int} (hp : p < bits) (e : hs (i + 1) i bits x = (p : Int)) : (crow bits i keys).set p ((crow bits i keys).getD p 0 + 1) = crow bits i (keys ++ [x]) := by
  apply List.ext_getElem
  · simp [crow]
  · intro j h1 h2
    have hj : j < bits := by simpa [crow] using h2
    have hc : (keys ++ [x]).countP (fun x => decide (hs (i + 1) i bits x = (j : Int))) = keys.countP (fun x => decide (hs (i + 1) i bits x = (j : Int))) + if p = j then 1 else 0 := by
      rw [List.countP_append, List.countP_singleton, e]
      congr 1
      by_cases e2 : p = j
      · subst e2; simp
      · have : ¬ ((p : Int) = (j : Int)) := by omega
        simp [e2, this]
    rw [List.getElem_set]
    by_cases e2 : p = j
    · subst e2
      rw [if_pos rfl, crow_get hp]
      simp only [crow, List.getElem_map, List.getElem_range]
      rw [hc, if_pos rfl]; rfl
    · rw [if_neg e2]
      simp only [crow, List.getElem_map, List.getElem_range]
      rw [hc, if_neg e2]; rfl
theorem crow_sum {bits i : Nat} (hb : 1 ≤ bits) (keys : List Int) : (crow bits i keys).sum = keys.length := by
  have key : ∀ n, n ≤ keys.length → (crow bits i (keys.take n)).sum = n := by
    intro n
    induction n with
    | zero =>
      intro _
      rw [List.take_zero, crow_nil]
      clear hb
      induction bits with
      | zero => rfl
      | succ b ih => rw [List.replicate_succ, List.sum_cons, ih]; rfl
    | succ n ih =>
      intro hn
      have hr := hs_range (a := i + 1) (b := i) (m := bits) (k := keys[n]) (by omega)
      rw [List.take_succ_eq_append_getElem hn, ← crow_snoc (p := (hs (i + 1) i bits keys[n]).toNat) (by omega) (by omega), set_sumI (by rw [crow_len]; omega), ih (by omega)]
      omega
  have := key keys.length (Nat.le_refl _)
  rwa [List.take_length] at this
theorem crow_rev (bits i : Nat) (keys : List Int) : crow bits i keys.reverse = crow bits i keys := by
  unfold crow
  apply List.map_congr_left
  intro p _
  rw [List.countP_reverse]
/-- The counts. -/
def VCK (ways bits : Int) (keys : List Int) : Bool := decide ((1 ≤ ways ∧ ways ≤ 4) ∧ (1 ≤ bits ∧ bits ≤ 16) ∧ keys.length ≤ 8 ∧ ∀ x ∈ keys, 0 ≤ x ∧ x ≤ 30)
def CKs (ways bits : Int) (keys : List Int) : List (List Int) :=
  if VCK ways bits keys = true then (List.range ways.toNat).map fun i => crow bits.toNat i keys else []
theorem VCK_rev (ways bits : Int) (keys : List Int) : VCK ways bits keys.reverse = VCK ways bits keys := by
  unfold VCK; simp
theorem CKs_rev (ways bits : Int) (keys : List Int) : CKs ways bits keys.reverse = CKs ways bits keys := by
  unfold CKs; rw [VCK_rev]; simp [crow_rev]
/-- A key's place counts it at least as often as it comes. -/
theorem crow_ge {bits i : Nat} (hb : 1 ≤ bits) (keys : List Int) (x : Int) : (keys.count x : Int) ≤ (crow bits i keys).getD (hs (i + 1) i bits x).toNat 0 := by
  have hr := hs_range (a := i + 1) (b := i) (m := bits) (k := x) (by omega)
  rw [crow_get (by omega)]
  have : keys.count x ≤ keys.countP fun y => decide (hs (i + 1) i bits y = (((hs (i + 1) i bits x).toNat : Nat) : Int)) := by
    unfold List.count
    refine List.countP_mono_left fun y _ h => ?_
    rw [beq_iff_eq] at h
    subst h
    rw [decide_eq_true_eq]; omega
  omega
theorem crow_le {bits i : Nat} {p : Nat} (hp : p < bits) (keys : List Int) : 0 ≤ (crow bits i keys).getD p 0 ∧ (crow bits i keys).getD p 0 ≤ keys.length := by
  rw [crow_get hp]
  have := List.countP_le_length (p := fun x => decide (hs (i + 1) i bits x = (p : Int))) (l := keys)
  omega
end Go.Proofs.Ytoaiaindcmihjaa
