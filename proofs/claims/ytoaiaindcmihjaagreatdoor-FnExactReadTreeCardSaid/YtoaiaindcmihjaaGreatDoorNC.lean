/-
  spec.LineOf, LineMoves.
-/
import Derived.Test.YtoaiaindcmihjaaGreatDoorNA
namespace Go.Proofs.YtoaiaindcmihjaaGreatDoor
open Go.RowKit

theorem pow_tail (x d : Nat) (w : World) (hd : d ≤ 40) (hx : x ≤ 1000000) : Calls Tryz.prog 60 #[.int .i64 (x : Int), .int .i64 (d : Int)] w fun e w' => e = .returned (.int .i64 ((x % 2 ^ d : Nat) : Int)) ∧ w = w' := by
  have c := pow_any d w hd
  have hs := powS hd
  have hp := Nat.two_pow_pos d
  obtain ⟨P, hP⟩ : ∃ P, P = 2 ^ d := ⟨_, rfl⟩
  rw [← hP] at c hs hp ⊢
  have hP0 : ¬ P = 0 := by omega
  have hPi : ((P : Int) == 0) = false := by simp; omega
  obtain ⟨r, hr⟩ : ∃ r, r = x % P := ⟨_, rfl⟩
  have e2 : (x : Int).tmod (P : Int) = (r : Int) := by rw [hr, Int.tmod_eq_emod_of_nonneg (by omega)]; omega
  rw [← hr]
  have C := Lib.hid c
  clear c hP hr
  go_enter Tryz.func60, Tryz.ntmps60
  go_wp2_with fail
  refine C.out.mono ?_
  rintro e w' ⟨rfl, rfl⟩
  go_wp2
  go_ret
  exact ⟨rfl, rfl⟩
end Go.Proofs.YtoaiaindcmihjaaGreatDoor
