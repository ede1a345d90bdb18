/-
  spec.power, spec.bit, laws.power, laws.bit, laws.weight, spec.validSieve, spec.ValidSieve.
-/
import Derived.Test.YtoaiaindcmihjaaF1
import Derived.Test.YtoaiaindcmihjaaV7
namespace Go.Proofs.Ytoaiaindcmihjaa
open Go.RowKit

theorem pow_small {n : Nat} (h : n ≤ 40) : 2 ^ n ≤ 1099511627776 := Nat.pow_le_pow_right (n := 2) (by omega) h
set_option maxHeartbeats 1000000 in
theorem power_any (n : Nat) (w : World) (hn : n ≤ 40) : Calls Try.prog 48 #[.int .i64 (n : Int)] w fun e w' => e = .returned (.int .i64 ((2 ^ n : Nat) : Int)) ∧ w = w' := by
  obtain ⟨T, hT⟩ : ∃ T, T = 2 ^ n := ⟨_, rfl⟩
  rw [← hT]
  have HT := Lib.hid hT
  clear hT
  go_enter Try.func48, Try.ntmps48
  go_wp2
  go_loop [0, 3] (fun nv ov => ∃ k P : Nat, k ≤ n ∧ nv = .int .i64 ((n : Int) - k) ∧ ov = .int .i64 (P : Int) ∧ Hid (P = 2 ^ k)) (fun nv _ => (intOf nv).toNat)
  case atStart => exact ⟨0, 1, by omega, by simp, rfl, rfl⟩
  case round =>
    obtain ⟨k, P, hk, rfl, rfl, hP⟩ := hrel
    have hs := pow_small (n := k) (by omega)
    rw [← hP.out] at hs
    by_cases hlt : k < n
    · have hg : (n : Int) - k > 0 := by omega
      have hp2 : Hid (2 * P = 2 ^ (k + 1)) := by show 2 * P = 2 ^ (k + 1); rw [hP.out, Nat.pow_succ]; omega
      go_wp2
      go_round
      case rel => exact ⟨k + 1, 2 * P, by omega, by go_num, by go_num, hp2⟩
      case measure => simp [intOf]; omega
    · obtain rfl : k = n := by omega
      have hg : ¬ (k : Int) - k > 0 := by omega
      go_wp2
      go_ret
      exact ⟨ret_int (by rw [hP.out, HT.out]), rfl⟩
set_option maxHeartbeats 1000000 in
theorem lawspower_any (n : Nat) (w : World) (hn : n ≤ 40) : Calls Try.prog 15 #[.int .i64 (n : Int)] w fun e w' => e = .returned (.int .i64 ((2 ^ n : Nat) : Int)) ∧ w = w' := by
  obtain ⟨T, hT⟩ : ∃ T, T = 2 ^ n := ⟨_, rfl⟩
  rw [← hT]
  have HT := Lib.hid hT
  clear hT
  go_enter Try.func15, Try.ntmps15
  go_wp2
  go_loop [0, 3] (fun nv ov => ∃ k P : Nat, k ≤ n ∧ nv = .int .i64 ((n : Int) - k) ∧ ov = .int .i64 (P : Int) ∧ Hid (P = 2 ^ k)) (fun nv _ => (intOf nv).toNat)
  case atStart => exact ⟨0, 1, by omega, by simp, rfl, rfl⟩
  case round =>
    obtain ⟨k, P, hk, rfl, rfl, hP⟩ := hrel
    have hs := pow_small (n := k) (by omega)
    rw [← hP.out] at hs
    by_cases hlt : k < n
    · have hg : (n : Int) - k > 0 := by omega
      have hp2 : Hid (2 * P = 2 ^ (k + 1)) := by show 2 * P = 2 ^ (k + 1); rw [hP.out, Nat.pow_succ]; omega
      go_wp2
      go_round
      case rel => exact ⟨k + 1, 2 * P, by omega, by go_num, by go_num, hp2⟩
      case measure => simp [intOf]; omega
    · obtain rfl : k = n := by omega
      have hg : ¬ (k : Int) - k > 0 := by omega
      go_wp2
      go_ret
      exact ⟨ret_int (by rw [hP.out, HT.out]), rfl⟩
/-- Bit j of a number. -/
def bt (x j : Nat) : Int := if x.testBit j = true then 1 else 0
theorem bt_eq (x j : Nat) : ((x / 2 ^ j % 2 : Nat) : Int) = bt x j := by
  unfold bt
  by_cases h : x.testBit j = true
  · rw [if_pos h, (bit_iff x j).2 h]; rfl
  · rw [if_neg h]
    have h1 : ¬ (x / 2 ^ j % 2 = 1) := fun e => h ((bit_iff x j).1 e)
    obtain ⟨q, hq⟩ : ∃ q, q = x / 2 ^ j := ⟨_, rfl⟩
    rw [← hq] at h1 ⊢
    omega
theorem wgt_le (x : Nat) : wgt x ≤ x := by
  induction x using Nat.strongRecOn with
  | _ x ih =>
    by_cases h : x = 0
    · subst h; simp [wgt_zero]
    · rw [wgt_step h]
      have := ih (x / 2) (by omega)
      omega
section
variable {w : World} {g : Nat} {b ww s : Int}
end
theorem quiet_v {P : Program} {f : FuncId} {args : Array Value} {w : World} {n : Nat} {v : Value}
    (h : Calls P f args (w.drewN n) fun e w' => e = .returned v ∧ w.drewN n = w') : Calls P f args (w.drewN n) fun e w'' => e = .returned v ∧ ∃ m, w'' = w.drewN m :=
  h.mono fun _ _ ⟨he, hm⟩ => ⟨he, n, hm.symm⟩
theorem inR_eq (n lo hi : Int) : inR n lo hi = decide (lo ≤ n ∧ n ≤ hi) := by
  rw [Bool.eq_iff_iff, inR_iff, decide_eq_true_eq]

end Go.Proofs.Ytoaiaindcmihjaa
