/-
  spec.LineOf, LineMoves.
-/
import Derived.Test.YtoaiaindcmihjaaNA
namespace Go.Proofs.Ytoaiaindcmihjaa
open Go.RowKit

theorem pow_tail (x d : Nat) (w : World) (hd : d ≤ 40) (hx : x ≤ 1000000) : Calls Try.prog 49 #[.int .i64 (x : Int), .int .i64 (d : Int)] w fun e w' => e = .returned (.int .i64 ((x % 2 ^ d : Nat) : Int)) ∧ w = w' := by
  have c := pow_any d w hd
  have hs := powS hd
  have hp := Nat.two_pow_pos d
  obtain ⟨P, hP⟩ : ∃ P, P = 2 ^ d := ⟨_, rfl⟩
  rw [← hP] at c hs hp ⊢
  have hP0 : ¬ P = 0 := by omega
  have hPi : ((P : Int) == 0) = false := by simp; omega
  obtain ⟨r, hr⟩ : ∃ r, r = x % P := ⟨_, rfl⟩
  have e2 : (x : Int).tmod (P : Int) = (r : Int) := by rw [hr, Int.tmod_eq_emod_of_nonneg (by omega)]; omega
  rw [← hr]
  have C := Lib.hid c
  clear c hP hr
  go_enter Try.func49, Try.ntmps49
  go_wp2_with fail
  refine C.out.mono ?_
  rintro e w' ⟨rfl, rfl⟩
  go_wp2
  go_ret
  exact ⟨rfl, rfl⟩
/-- A level of a table. -/
theorem lineOf_any (c x : Nat) (w : World) (hc : 1 ≤ c ∧ c ≤ 40) (hx : x ≤ 63) : Calls Try.prog 54 #[.int .i64 (c : Int), .int .i64 (x : Int)] w fun e w' => e = .returned (.int .i64 ((lno c x : Nat) : Int)) ∧ w = w' := by
  have h1 := lvc_le hc.1
  have h2 := lvc_lt c
  have h5 : lvc c ≤ 5 := by
    have : lvc c < 6 := (Nat.pow_lt_pow_iff_right (a := 2) (by omega)).1 (Nat.lt_of_le_of_lt h1 (by omega))
    omega
  have hm : ∀ L, L < lvc c → 2 ^ (L + 1) ≤ c := fun L hL => Nat.le_trans (Nat.pow_le_pow_right (by omega) hL) h1
  obtain ⟨L, hL⟩ : ∃ L, L = lvc c := ⟨_, rfl⟩
  have hR : lno c x = if x % 2 ^ (L + 1) < c then x % 2 ^ (L + 1) else x % 2 ^ L := by rw [hL]; rfl
  rw [← hL] at h1 h2 h5 hm
  obtain ⟨R, hRR⟩ : ∃ R, R = lno c x := ⟨_, rfl⟩
  rw [← hRR] at hR ⊢
  have CP := fun (d : Nat) (wx : World) (h : d ≤ 40) => pow_any d wx h
  have CT := fun (d : Nat) (wx : World) (h : d ≤ 40) => pow_tail x d wx h (by omega)
  have HR := Lib.hid hR
  have H1 := Lib.hid h1
  have H2 := Lib.hid h2
  have HMM := Lib.hid hm
  have HCP := Lib.hid CP
  have HCT := Lib.hid CT
  clear hR hRR hL h1 h2 hm CP CT
  go_enter Try.func54, Try.ntmps54
  go_wp2
  go_loop [5] (fun lv => ∃ k : Nat, k ≤ L ∧ lv = .int .i64 (k : Int)) (fun lv => L - (intOf lv).toNat)
  case atStart => exact ⟨0, by omega, rfl⟩
  case round =>
    obtain ⟨k, hk, rfl⟩ := hrel
    have cp := fun wx => HCP.out (k + 1) wx (by omega)
    rw [show (((k + 1 : Nat)) : Int) = (k : Int) + 1 by omega] at cp
    obtain ⟨P, hP⟩ : ∃ P, P = 2 ^ (k + 1) := ⟨_, rfl⟩
    rw [← hP] at cp
    by_cases hlt : k < L
    · have hPc : (P : Int) ≤ (c : Int) := by have := HMM.out k hlt; rw [← hP] at this; omega
      have D := Lib.hid cp
      clear hP cp
      go_wp2_with fail
      refine (D.out _).mono ?_
      rintro e w' ⟨rfl, rfl⟩
      go_wp2
      go_round
      case rel => exact ⟨k + 1, by omega, by go_num⟩
      case measure => simp [intOf]; omega
    · obtain rfl : k = L := by omega
      have hPc : ¬ (P : Int) ≤ (c : Int) := by have := H2.out; rw [← hP] at this; omega
      have D := Lib.hid cp
      have ct1 := fun wx => HCT.out (k + 1) wx (by omega)
      rw [show (((k + 1 : Nat)) : Int) = (k : Int) + 1 by omega] at ct1
      have ct2 := fun wx => HCT.out k wx (by omega)
      have hr := HR.out
      obtain ⟨y, hy⟩ : ∃ y, y = x % 2 ^ (k + 1) := ⟨_, rfl⟩
      obtain ⟨z, hz⟩ : ∃ z, z = x % 2 ^ k := ⟨_, rfl⟩
      rw [← hy] at ct1 hr
      rw [← hz] at ct2 hr
      have D1 := Lib.hid ct1
      have D2 := Lib.hid ct2
      clear hP cp ct1 ct2 hy hz
      go_wp2_with fail
      refine (D.out _).mono ?_
      rintro e w' ⟨rfl, rfl⟩
      go_wp2_with fail
      refine (D1.out _).mono ?_
      rintro e w' ⟨rfl, rfl⟩
      by_cases hyc : y < c
      · rw [if_pos hyc] at hr
        subst hr
        have hyc' : ¬ (R : Int) ≥ (c : Int) := by omega
        go_wp2
        go_ret
        exact ⟨rfl, rfl⟩
      · rw [if_neg hyc] at hr
        subst hr
        have hyc' : (y : Int) ≥ (c : Int) := by omega
        go_wp2_with fail
        refine (D2.out _).mono ?_
        rintro e w' ⟨rfl, rfl⟩
        go_wp2
        go_ret
        exact ⟨rfl, rfl⟩
end Go.Proofs.Ytoaiaindcmihjaa
