/-
  spec.power, laws.power.
-/
import Derived.Test.YtoaiaindcmihjaaGreatDoorF1
namespace Go.Proofs.YtoaiaindcmihjaaGreatDoor
open Go.RowKit

theorem powS {n : Nat} (h : n ≤ 40) : 2 ^ n ≤ 1099511627776 := Nat.pow_le_pow_right (n := 2) (by omega) h
set_option maxHeartbeats 1000000 in
theorem pow_any (n : Nat) (w : World) (hn : n ≤ 40) : Calls Tryz.prog 59 #[.int .i64 (n : Int)] w fun e w' => e = .returned (.int .i64 ((2 ^ n : Nat) : Int)) ∧ w = w' := by
  obtain ⟨T, hT⟩ : ∃ T, T = 2 ^ n := ⟨_, rfl⟩
  rw [← hT]
  have HT := Lib.hid hT
  clear hT
  go_enter Tryz.func59, Tryz.ntmps59
  go_wp2
  go_loop [0, 3] (fun nv ov => ∃ k P : Nat, k ≤ n ∧ nv = .int .i64 ((n : Int) - k) ∧ ov = .int .i64 (P : Int) ∧ Hid (P = 2 ^ k)) (fun nv _ => (intOf nv).toNat)
  case atStart => exact ⟨0, 1, by omega, by simp, rfl, rfl⟩
  case round =>
    obtain ⟨k, P, hk, rfl, rfl, hP⟩ := hrel
    have hs := powS (n := k) (by omega)
    rw [← hP.out] at hs
    by_cases hlt : k < n
    · have hg : (n : Int) - k > 0 := by omega
      have hp2 : Hid (2 * P = 2 ^ (k + 1)) := by show 2 * P = 2 ^ (k + 1); rw [hP.out, Nat.pow_succ]; omega
      go_wp2
      go_round
      case rel => exact ⟨k + 1, 2 * P, by omega, by go_num, by go_num, hp2⟩
      case measure => simp [intOf]; omega
    · obtain rfl : k = n := by omega
      have hg : ¬ (k : Int) - k > 0 := by omega
      go_wp2
      go_ret
      exact ⟨ret_int (by rw [hP.out, HT.out]), rfl⟩
theorem quiet_pfN {P : Program} {f : FuncId} {args : Array Value} {w : World} {n : Nat} {v : Value}
    (h : Calls P f args (w.drewN n) fun e w' => e = .returned v ∧ w.drewN n = w') :
    Calls P f args (w.drewN n) fun e w'' => e = .returned v ∧ ∃ m, w'' = w.drewN m :=
  h.mono fun _ _ ⟨he, hm⟩ => ⟨he, n, hm.symm⟩
theorem quiet_pdN {P : Program} {f : FuncId} {args : Array Value} {w : World} {n : Nat} {v : Value}
    (h : Calls P f args (w.drewN n) fun e w' => e = .returned v ∧ ∃ q, w' = (w.drewN n).drewN q) :
    Calls P f args (w.drewN n) fun e w'' => e = .returned v ∧ ∃ m, w'' = w.drewN m :=
  h.mono fun _ _ ⟨he, q, hm⟩ => ⟨he, n + q, by rw [hm, World.drewN_drewN]⟩
theorem quiet_ldN {P : Program} {f : FuncId} {args : Array Value} {w : World} {a n : Nat} {v : Value}
    (h : Calls P f args (w.drewN (a + n)) fun e w' => e = .returned v ∧ ∃ q, w' = (w.drewN (a + n)).drewN q) :
    Calls P f args (w.drewN (a + n)) fun e w'' => e = .returned v ∧ ∃ m, w'' = w.drewN (a + m) :=
  h.mono fun _ _ ⟨he, q, hm⟩ => ⟨he, n + q, by rw [hm, World.drewN_drewN, Nat.add_assoc]⟩
theorem pow6_any (w : World) : Calls Tryz.prog 59 #[.int .i64 6] w fun e w' => e = .returned (.int .i64 64) ∧ w = w' := pow_any 6 w (by omega)
end Go.Proofs.YtoaiaindcmihjaaGreatDoor
