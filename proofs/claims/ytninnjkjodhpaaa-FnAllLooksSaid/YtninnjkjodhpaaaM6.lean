/-
  The plain mathematics of AllLooks: sums over all homes.
-/
import Derived.Test.YtninnjkjodhpaaaM1
namespace Go.Proofs.Ytninnjkjodhpaaa
open Go.RowKit

def sumN : Nat → (Nat → Nat) → Nat
  | 0, _ => 0
  | n + 1, f => sumN n f + f n
theorem sumN_congr {n : Nat} {f g : Nat → Nat} (h : ∀ i, i < n → f i = g i) : sumN n f = sumN n g := by
  induction n with
  | zero => rfl
  | succ n ih => rw [sumN, sumN, ih (fun i hi => h i (by omega)), h n (by omega)]
theorem sumN_add (a b : Nat) (f : Nat → Nat) : sumN (a + b) f = sumN a f + sumN b (fun i => f (a + i)) := by
  induction b with
  | zero => simp [sumN]
  | succ b ih => rw [← Nat.add_assoc, sumN, ih, sumN, Nat.add_assoc]
theorem sumN_prod (a b : Nat) (g : Nat → Nat → Nat) : sumN (a * b) (fun t => g (t % a) (t / a)) = sumN b (fun q => sumN a (fun r => g r q)) := by
  induction b with
  | zero => simp [sumN]
  | succ b ih =>
    rw [Nat.mul_succ, sumN_add, ih, sumN]
    congr 1
    refine sumN_congr fun i hi => ?_
    rw [Nat.mul_add_mod, Nat.mod_eq_of_lt hi, Nat.mul_add_div (by omega), Nat.div_eq_of_lt hi, Nat.add_zero]
theorem sumN_plus (n : Nat) (f g : Nat → Nat) : sumN n (fun i => f i + g i) = sumN n f + sumN n g := by
  induction n with
  | zero => rfl
  | succ n ih => rw [sumN, sumN, sumN, ih]; omega
theorem sumN_swap (a b : Nat) (g : Nat → Nat → Nat) : sumN a (fun r => sumN b (fun q => g r q)) = sumN b (fun q => sumN a (fun r => g r q)) := by
  induction a with
  | zero =>
    have : ∀ b, sumN b (fun _ => 0) = 0 := by intro b; induction b with | zero => rfl | succ b ih => rw [sumN, ih]
    simp only [sumN]
    exact (this b).symm
  | succ a ih =>
    rw [sumN, ih, ← sumN_plus]
    rfl
theorem sumN_le {n c : Nat} {f : Nat → Nat} (h : ∀ i, i < n → f i ≤ c) : sumN n f ≤ n * c := by
  induction n with
  | zero => simp [sumN]
  | succ n ih =>
    have := ih (fun i hi => h i (by omega))
    have := h n (by omega)
    rw [sumN, Nat.succ_mul]; omega
theorem sumN_mono {n n' : Nat} {f : Nat → Nat} (h : n ≤ n') : sumN n f ≤ sumN n' f := by
  obtain ⟨d, rfl⟩ : ∃ d, n' = n + d := ⟨n' - n, by omega⟩
  rw [sumN_add]; omega

/-- The looks of all homes that begin with some, k more. -/
def HF (m : Nat) : Nat → List Int → Nat
  | 0, hs => (lin m hs hs.length).2
  | k + 1, hs => sumN m (fun x => HF m k (hs ++ [(x : Int)]))

/-- The homes number t: its digits, the last one first. -/
def dig (m : Nat) : Nat → Nat → List Int
  | 0, _ => []
  | k + 1, t => ((t % m : Nat) : Int) :: dig m k (t / m)
theorem dig_len (m : Nat) : ∀ k t, (dig m k t).length = k := by
  intro k
  induction k with
  | zero => intro t; rfl
  | succ k ih => intro t; simp [dig, ih]
theorem dig_fit (m : Nat) (hm : 0 < m) : ∀ k t, ∀ x ∈ dig m k t, 0 ≤ x ∧ x < m := by
  intro k
  induction k with
  | zero => intro t x hx; simp [dig] at hx
  | succ k ih =>
    intro t x hx
    simp only [dig, List.mem_cons] at hx
    rcases hx with rfl | hx
    · have := Nat.mod_lt t hm; omega
    · exact ih _ x hx
theorem dig_zero (m : Nat) : ∀ k, dig m k 0 = List.replicate k 0 := by
  intro k
  induction k with
  | zero => rfl
  | succ k ih => simp [dig, ih, List.replicate_succ]
theorem dig_pow (m : Nat) (hm : 0 < m) : ∀ k, dig m k (m ^ k) = List.replicate k 0 := by
  intro k
  induction k with
  | zero => rfl
  | succ k ih =>
    rw [dig, Nat.pow_succ, Nat.mul_mod_left, Nat.mul_div_cancel _ hm, ih, List.replicate_succ]; rfl
theorem dig_inj (m : Nat) (hm : 0 < m) : ∀ k t, t < m ^ k → dig m k t = List.replicate k 0 → t = 0 := by
  intro k
  induction k with
  | zero => intro t ht _; simp at ht; exact ht
  | succ k ih =>
    intro t ht h
    rw [dig, List.replicate_succ] at h
    have h1 : ((t % m : Nat) : Int) = 0 := (List.cons.inj h).1
    have h2 := ih (t / m) (by rw [Nat.div_lt_iff_lt_mul hm]; rwa [Nat.pow_succ] at ht) (List.cons.inj h).2
    have h3 : t % m = 0 := by omega
    have := Nat.div_add_mod t m
    rw [h2, h3] at this
    omega
theorem sum_dig (m : Nat) : ∀ k hs, sumN (m ^ k) (fun t => (lin m (hs ++ dig m k t) (hs ++ dig m k t).length).2) = HF m k hs := by
  intro k
  induction k with
  | zero => intro hs; simp [sumN, dig, HF]
  | succ k ih =>
    intro hs
    rw [HF, Nat.pow_succ, Nat.mul_comm]
    have := sumN_prod m (m ^ k) (fun r q => (lin m (hs ++ ((r : Nat) : Int) :: dig m k q) (hs ++ ((r : Nat) : Int) :: dig m k q).length).2)
    simp only [dig]
    rw [this, ← sumN_swap]
    refine sumN_congr fun r _ => ?_
    rw [← ih (hs ++ [(r : Int)])]
    refine sumN_congr fun q _ => ?_
    rw [List.append_assoc]; rfl

/-- nextHomes on a list. -/
def inc (m : Nat) : List Int → List Int
  | [] => []
  | h :: r => if h + 1 < m then (h + 1) :: r else 0 :: inc m r
theorem inc_len (m : Nat) : ∀ l, (inc m l).length = l.length := by
  intro l
  induction l with
  | nil => rfl
  | cons h r ih => unfold inc; split <;> simp [ih]
theorem inc_dig (m : Nat) (hm : 0 < m) : ∀ k t, inc m (dig m k t) = dig m k (t + 1) := by
  intro k
  induction k with
  | zero => intro t; rfl
  | succ k ih =>
    intro t
    have hd := Nat.div_add_mod t m
    have hl := Nat.mod_lt t hm
    simp only [dig, inc]
    by_cases h : t % m + 1 < m
    · have e1 : (t + 1) % m = t % m + 1 := by
        rw [← hd, Nat.add_assoc, Nat.mul_add_mod, Nat.mod_eq_of_lt h, Nat.mul_add_mod, Nat.mod_eq_of_lt hl]
      have e2 : (t + 1) / m = t / m := by
        rw [← hd, Nat.add_assoc, Nat.mul_add_div hm, Nat.div_eq_of_lt h, Nat.add_zero, Nat.mul_add_div hm, Nat.div_eq_of_lt hl, Nat.add_zero]
      rw [if_pos (by omega), e1, e2]; rfl
    · have e0 : t + 1 = m * (t / m + 1) := by rw [Nat.mul_succ]; omega
      have e1 : (t + 1) % m = 0 := by rw [e0, Nat.mul_mod_right]
      have e2 : (t + 1) / m = t / m + 1 := by rw [e0, Nat.mul_div_cancel_left _ hm]
      rw [if_neg (by omega), ih, e1, e2]; rfl

theorem homes_of {m : Nat} {hs : List Int} (h1 : 1 ≤ m) (h2 : m ≤ 10) (h3 : hs.length ≤ m) (h : ∀ x ∈ hs, 0 ≤ x ∧ x < m) : Homes m hs :=
  ⟨h1, h2, h3, fun i hi => h _ (by rw [List.getD_eq_getElem?_getD, List.getElem?_eq_getElem hi]; exact List.getElem_mem hi)⟩

theorem HF_le {m : Nat} (h1 : 1 ≤ m) (h2 : m ≤ 5) : ∀ k hs, hs.length + k ≤ m → (∀ x ∈ hs, 0 ≤ x ∧ x < (m : Int)) → HF m k hs ≤ 5 ^ k * 50 := by
  intro k
  induction k with
  | zero =>
    intro hs hl hf
    have := lin_bound (homes_of h1 (by omega) (by omega) hf) hs.length (Nat.le_refl _)
    simp only [HF]
    omega
  | succ k ih =>
    intro hs hl hf
    rw [HF]
    have := sumN_le (n := m) (c := 5 ^ k * 50) (f := fun x => HF m k (hs ++ [(x : Int)])) (fun i hi => ih _ (by simp; omega) (by
      intro x hx
      rcases List.mem_append.1 hx with hx | hx
      · exact hf x hx
      · simp at hx; omega))
    refine Nat.le_trans this ?_
    rw [Nat.pow_succ, Nat.mul_comm (5 ^ k) 5, Nat.mul_assoc]
    exact Nat.mul_le_mul_right _ h2

/-- AllLooks. -/
def AL (m n : Int) : Int := if 1 ≤ m ∧ m ≤ 5 ∧ 0 ≤ n ∧ n ≤ m then (HF m.toNat n.toNat [] : Int) else -1
end Go.Proofs.Ytninnjkjodhpaaa
