/-
  The plain mathematics of chapter 5: sieves.
-/
import Derived.Test.YtoaiaindcmihjaaC1
namespace Go.Proofs.Ytoaiaindcmihjaa

/-- The bit of way k of a key. -/
def wb (bits key k : Nat) : Nat := (hs (k + 1) (k * k + key / 31) bits (key % 31)).toNat
theorem wb_lt {bits key k : Nat} (h : 1 ≤ bits) : wb bits key k < bits := by
  have := hs_range (a := k + 1) (b := k * k + key / 31) (m := bits) (k := key % 31) (by omega)
  unfold wb; omega
/-- The bits of the first k ways of a key. -/
def mkb (bits key : Nat) : Nat → Nat
  | 0 => 0
  | k + 1 => mkb bits key k ||| 2 ^ wb bits key k
theorem mkb_lt {bits key : Nat} (h : 1 ≤ bits) (k : Nat) : mkb bits key k < 2 ^ bits := by
  induction k with
  | zero => exact Nat.two_pow_pos _
  | succ k ih => exact Nat.or_lt_two_pow ih (Nat.pow_lt_pow_right (by omega) (wb_lt h))
theorem mkb_pos {bits key k : Nat} (h : 1 ≤ k) : 1 ≤ mkb bits key k := by
  obtain ⟨k', rfl⟩ : ∃ k', k = k' + 1 := ⟨k - 1, by omega⟩
  have h1 : 2 ^ wb bits key k' ≤ mkb bits key (k' + 1) := Nat.right_le_or
  have h2 := Nat.two_pow_pos (wb bits key k')
  omega
/-- How many bits of a number are 1. -/
def wgtF : Nat → Nat → Nat
  | 0, _ => 0
  | f + 1, x => if x = 0 then 0 else x % 2 + wgtF f (x / 2)
def wgt (x : Nat) : Nat := wgtF x x
theorem wgtF_enough : ∀ f x, x ≤ f → ∀ f', x ≤ f' → wgtF f x = wgtF f' x := by
  intro f
  induction f with
  | zero => intro x hx f' _; obtain rfl : x = 0 := by omega
            cases f' <;> simp [wgtF]
  | succ f ih =>
    intro x hx f' hf'
    cases f' with
    | zero => obtain rfl : x = 0 := by omega
              simp [wgtF]
    | succ f' =>
      rw [wgtF, wgtF]
      split
      · rfl
      · rw [ih (x / 2) (by omega) f' (by omega)]
theorem wgt_zero : wgt 0 = 0 := rfl
theorem wgt_step {x : Nat} (h : x ≠ 0) : wgt x = x % 2 + wgt (x / 2) := by
  obtain ⟨y, rfl⟩ : ∃ y, x = y + 1 := ⟨x - 1, by omega⟩
  unfold wgt
  rw [wgtF, if_neg h, wgtF_enough y ((y + 1) / 2) (by omega) ((y + 1) / 2) (Nat.le_refl _)]
theorem wgt_pos : ∀ x, 1 ≤ x → 1 ≤ wgt x := by
  intro x
  induction x using Nat.strongRecOn with
  | _ x ih =>
    intro h
    rw [wgt_step (by omega)]
    by_cases e : x % 2 = 1
    · omega
    · have := ih (x / 2) (by omega) (by omega)
      omega
theorem wgt_or : ∀ j x, wgt (x ||| 2 ^ j) ≤ wgt x + 1 := by
  intro j
  induction j with
  | zero =>
    intro x
    have h0 : x ||| 2 ^ 0 ≠ 0 := fun e => by have := @Nat.right_le_or x (2 ^ 0); rw [e] at this; simp at this
    rw [wgt_step h0]
    have h1 : (x ||| 2 ^ 0) / 2 = x / 2 := by
      rw [Nat.or_div_two]; simp
    have h2 : (x ||| 2 ^ 0) % 2 ≤ 1 := by omega
    rw [h1]
    by_cases e : x = 0
    · subst e; simp [wgt_zero] at *
    · rw [wgt_step e]; omega
  | succ j ih =>
    intro x
    have hp := Nat.two_pow_pos (j + 1)
    have h0 : x ||| 2 ^ (j + 1) ≠ 0 := fun e => by have := @Nat.right_le_or x (2 ^ (j + 1)); rw [e] at this; omega
    have h1 : (x ||| 2 ^ (j + 1)) / 2 = x / 2 ||| 2 ^ j := by
      rw [Nat.or_div_two, Nat.pow_succ, Nat.mul_div_cancel _ (by omega)]
    have h2 : (x ||| 2 ^ (j + 1)) % 2 = x % 2 := by
      have := Nat.or_mod_two_pow (a := x) (b := 2 ^ (j + 1)) (n := 1)
      simp only [Nat.pow_one] at this
      rw [this, show 2 ^ (j + 1) % 2 = 0 by rw [Nat.pow_succ]; omega, Nat.or_zero]
    rw [wgt_step h0, h1, h2]
    have h3 := ih (x / 2)
    by_cases e : x = 0
    · subst e
      simp [wgt_zero] at h3 ⊢
      exact h3
    · rw [wgt_step e]; omega
theorem mkb_wt {bits key : Nat} (k : Nat) : wgt (mkb bits key k) ≤ k := by
  induction k with
  | zero => simp [mkb, wgt_zero]
  | succ k ih => have := wgt_or (wb bits key k) (mkb bits key k); rw [mkb]; omega

/-- Are all bits of m in s? -/
theorem and_or_self (m s : Nat) : m &&& (s ||| m) = m := by
  apply Nat.eq_of_testBit_eq; intro i; simp [Nat.testBit_and, Nat.testBit_or]
  cases m.testBit i <;> simp
theorem and_or_mono {x s : Nat} (m : Nat) (h : x &&& s = x) : x &&& (s ||| m) = x := by
  apply Nat.eq_of_testBit_eq; intro i
  have := congrArg (fun z => Nat.testBit z i) h
  simp only [Nat.testBit_and, Nat.testBit_or] at this ⊢
  cases h1 : x.testBit i <;> cases h2 : s.testBit i <;> simp_all
theorem and_mono {x s t : Nat} (h : x &&& (s &&& t) = x) : x &&& s = x := by
  apply Nat.eq_of_testBit_eq; intro i
  have := congrArg (fun z => Nat.testBit z i) h
  simp only [Nat.testBit_and] at this ⊢
  cases h1 : x.testBit i <;> cases h2 : s.testBit i <;> simp_all
theorem or_idem (s m : Nat) : (s ||| m) ||| m = s ||| m := by rw [Nat.or_assoc, Nat.or_self]
theorem or_and_left (s m : Nat) : (s ||| m) &&& s = s := by
  apply Nat.eq_of_testBit_eq; intro i
  simp only [Nat.testBit_and, Nat.testBit_or]
  cases s.testBit i <;> simp
theorem had_iff {m s : Nat} : m &&& s = m ↔ s ||| m = s := by
  constructor
  · intro h
    apply Nat.eq_of_testBit_eq; intro i
    have := congrArg (fun z => Nat.testBit z i) h
    simp only [Nat.testBit_and, Nat.testBit_or] at this ⊢
    cases h1 : m.testBit i <;> cases h2 : s.testBit i <;> simp_all
  · intro h
    apply Nat.eq_of_testBit_eq; intro i
    have := congrArg (fun z => Nat.testBit z i) h
    simp only [Nat.testBit_and, Nat.testBit_or] at this ⊢
    cases h1 : m.testBit i <;> cases h2 : s.testBit i <;> simp_all
/-- How many of the first n keys may be had. -/
def hm (bits ways s : Nat) (n : Nat) : Nat := (List.range n).countP fun x => decide (mkb bits x ways &&& s = mkb bits x ways)
theorem hm_full {bits ways : Nat} (h : 1 ≤ bits) (n : Nat) : hm bits ways (2 ^ bits - 1) n = n := by
  unfold hm
  have : (List.range n).countP (fun x => decide (mkb bits x ways &&& (2 ^ bits - 1) = mkb bits x ways)) = (List.range n).length := by
    rw [List.countP_eq_length]
    intro x _
    rw [decide_eq_true_eq, Nat.and_two_pow_sub_one_eq_mod, Nat.mod_eq_of_lt (mkb_lt h ways)]
  rw [this, List.length_range]
theorem hm_less {bits ways s t : Nat} (n : Nat) : hm bits ways (s &&& t) n ≤ hm bits ways s n := by
  unfold hm
  refine List.countP_mono_left fun x _ h => ?_
  rw [decide_eq_true_eq] at h ⊢
  exact and_mono h
theorem hm_zero {bits ways : Nat} (h : 1 ≤ ways) (n : Nat) : hm bits ways 0 n = 0 := by
  unfold hm
  rw [List.countP_eq_zero]
  intro x _ e
  rw [decide_eq_true_eq, Nat.and_zero] at e
  have := mkb_pos (bits := bits) (key := x) h
  omega
end Go.Proofs.Ytoaiaindcmihjaa
