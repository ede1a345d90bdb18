/-
  impl.endOf, isName, isLine, validNames (names).
-/
import Derived.Test.YtoaiaindcmihjaaGreatDoorNA
import Derived.Test.YtoaiaindcmihjaaGreatDoorArr
namespace Go.Proofs.YtoaiaindcmihjaaGreatDoor
open Go.RowKit

theorem pow40 {n : Nat} (h : n ≤ 40) : 2 ^ n ≤ 1099511627776 := Nat.pow_le_pow_right (n := 2) (by omega) h
theorem tmod_nat (a b : Nat) : ((a : Int)).tmod (b : Int) = ((a % b : Nat) : Int) := by
  rw [Int.tmod_eq_emod_of_nonneg (by omega)]; rfl
theorem shl1 (t p : Nat) (ht : t ≤ 40) (hp : p = 2 ^ t) : IntKind.i64.wrap (1 * 2 ^ min ((t : Int)).toNat 64) = (p : Int) ∧ IntKind.i64.wrap (2 ^ min t 64) = (p : Int) ∧ IntKind.i64.wrap (2 ^ t) = (p : Int) := by
  have hs := pow40 ht
  have e : ((2 : Int) ^ t) = (p : Int) := by rw [hp]; simp
  have e2 : IntKind.i64.wrap (p : Int) = (p : Int) := IntWalk.i64_in _ (by omega)
  rw [Int.toNat_natCast, Int.one_mul, Nat.min_eq_left (by omega), e]
  exact ⟨e2, e2, e2⟩
set_option maxHeartbeats 2000000 in
theorem endOf_any (d x : Nat) (w : World) (hd : d ≤ 40) (hx : x ≤ 1000000) : Calls Tryz.prog 119 #[.int .i64 (d : Int), .int .i64 (x : Int)] w fun e w' => e = .returned (.int .i64 ((x % 2 ^ d : Nat) : Int)) ∧ w = w' := by
  obtain ⟨p, hp⟩ : ∃ p, p = 2 ^ d := ⟨_, rfl⟩
  obtain ⟨e1, e2, e3⟩ := shl1 d p hd hp
  have hps := pow40 hd
  have hp0 := Nat.two_pow_pos d
  rw [← hp] at hps hp0 ⊢
  have ht := tmod_nat x p
  have hm := Nat.mod_le x p
  obtain ⟨r, hr⟩ : ∃ r, r = x % p := ⟨_, rfl⟩
  rw [← hr] at ht hm ⊢
  clear hr hp
  go_enter Tryz.func119, Tryz.ntmps119
  go_wp2
  all_goals
    go_ret
    exact ⟨by first | rfl | (simp only [e1, ht]) | (simp only [e2, ht]) | (simp only [e3, ht]) | (simp [e1, e2, e3, ht]), rfl⟩
set_option maxHeartbeats 1000000 in
theorem isName_any (x : Int) (w : World) : Calls Tryz.prog 52 #[.int .i64 x] w fun e w' => e = .returned (.bool (decide (0 ≤ x ∧ x ≤ 63))) ∧ w = w' := by
  by_cases h : 0 ≤ x
  · have hd : decide (0 ≤ x ∧ x ≤ 63) = decide (x < 64) := by rw [decide_eq_decide]; omega
    rw [hd]
    go_enter Tryz.func52, Tryz.ntmps52
    go_wp2
    go_ret
    exact ⟨rfl, rfl⟩
  · have hd : decide (0 ≤ x ∧ x ≤ 63) = false := by simp; omega
    rw [hd]
    go_enter Tryz.func52, Tryz.ntmps52
    go_wp2
    go_ret
    exact ⟨rfl, rfl⟩
end Go.Proofs.YtoaiaindcmihjaaGreatDoor
