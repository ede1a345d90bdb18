/-
  The walks of chapter 3's laws. (Written by genlaw3.py.)
-/
import Derived.Test.YtapkalpmnldhpaaF9
import Derived.Test.YtapkalpmnldhpaaD5
import Derived.Test.YtapkalpmnldhpaaD2
namespace Go.Proofs.Ytapkalpmnldhpaa
open Go.RowKit

set_option maxHeartbeats 4000000 in
set_option maxRecDepth 100000 in
theorem lawFnHashOf (a : Option Addr) (n cap : Nat) (w : World) (hB : Bytes w w.heap.size a n) (hn : n ≤ 9223372036854775807) (hc : n ≤ cap) :
    Calls Try.prog 11 #[.slice a n cap] w fun e w' => e = .returned (.bool true) ∧ Below w.heap.size w w' := by
  by_cases hbig : 1048576 < n
  · go_enter Try.func11, Try.ntmps11
    go_wp2
    go_ret
    exact ⟨rfl, Below.refl _ _⟩
  go_enter Try.func11, Try.ntmps11
  go_wp2_with fail
  refine (drawHashOf_any a n cap w hB hn hc).mono ?_
  rintro e w1 ⟨x, y, m, k, rfl, hx, hy, hm, hk, B1⟩
  clear hB hn hc
  obtain ⟨R, hR⟩ : ∃ R, R = HO x y m k := ⟨_, rfl⟩
  have e1 : (R != R) = false := by simp
  have e2 : (R == R) = true := by simp
  have HR := Lib.hid hR
  clear hR
  have hcl := implHashOf_any x y m k w1 (by unfold In64; omega) (by unfold In64; omega) (by unfold In64; omega) (by unfold In64; omega)
  rw [← HR.out] at hcl
  have HCL := Lib.hid hcl
  clear hcl
  go_wp2_with fail
  refine HCL.out.mono ?_
  rintro e w2 ⟨rfl, b2⟩
  have B2 := B1.trans (b2.mono B1.size)
  clear b2 B1 HCL
  have hcl := specHashOf_any x y m k w2 (by unfold In64; omega) (by unfold In64; omega) (by unfold In64; omega) (by unfold In64; omega)
  rw [← HR.out] at hcl
  have HCL := Lib.hid hcl
  clear hcl
  go_wp2_with fail
  refine HCL.out.mono ?_
  rintro e w3 ⟨rfl, b3⟩
  have B3 := B2.trans (b3.mono B2.size)
  clear b3 B2 HCL
  by_cases hv : VF x y m = true ∧ KR k = true
  · obtain ⟨f0, f1, f2, f3, f4, f5, f6⟩ := HO_facts hv.1 hv.2
    rw [← HR.out] at f0 f1 f3
    obtain ⟨m1, _⟩ := VF_iff.1 hv.1
    have hm1 := (VF_iff.1 hv.1).2.2.2.2.1
    obtain ⟨S, hS⟩ : ∃ S, S = HO x y 31 k := ⟨_, rfl⟩
    rw [← hS] at f2
    have hne : (m == 0) = false := by simp; omega
    rw [← f2] at f3 f4
    have g1 : (S.tmod m == R) = true := by rw [Int.tmod_eq_emod_of_nonneg f4]; simp [f3]
    have g2 : (S % m == R) = true := by simp [f3]
    have g3 : (S == (x * k + y).tmod 31) = true := by rw [Int.tmod_eq_emod_of_nonneg f5]; simp [f2]
    have g4 : (S == (x * k + y) % 31) = true := by simp [f2]
    have g5 : 0 ≤ x * k := Int.mul_nonneg (by omega) (by have := KR_iff.1 hv.2; omega)
    have HS := Lib.hid hS
    clear hS f2 f3 hv
    have hcl := implHashOf_any x y 31 k w3 (by unfold In64; omega) (by unfold In64; omega) (by unfold In64; omega) (by unfold In64; omega)
    rw [← HS.out] at hcl
    have HCL := Lib.hid hcl
    clear hcl
    go_wp2_with fail
    refine HCL.out.mono ?_
    rintro e w4 ⟨rfl, b4⟩
    have B4 := B3.trans (b4.mono B3.size)
    clear b4 B3 HCL
    go_wp2
    go_ret
    exact ⟨rfl, B4⟩
  · have hR : R = -1 := by rw [HR.out]; unfold HO; rw [if_neg hv]
    subst hR
    have hcl := specHashOf_any x y m k w3 (by unfold In64; omega) (by unfold In64; omega) (by unfold In64; omega) (by unfold In64; omega)
    rw [← HR.out] at hcl
    have HCL := Lib.hid hcl
    clear hcl
    go_wp2_with fail
    refine HCL.out.mono ?_
    rintro e w4 ⟨rfl, b4⟩
    have B4 := B3.trans (b4.mono B3.size)
    clear b4 B3 HCL
    go_wp2
    go_ret
    exact ⟨rfl, B4⟩

set_option maxHeartbeats 4000000 in
set_option maxRecDepth 100000 in
theorem lawFnMeetingsOf (a : Option Addr) (n cap : Nat) (w : World) (hB : Bytes w w.heap.size a n) (hn : n ≤ 9223372036854775807) (hc : n ≤ cap) :
    Calls Try.prog 12 #[.slice a n cap] w fun e w' => e = .returned (.bool true) ∧ Below w.heap.size w w' := by
  by_cases hbig : 1048576 < n
  · go_enter Try.func12, Try.ntmps12
    go_wp2
    go_ret
    exact ⟨rfl, Below.refl _ _⟩
  go_enter Try.func12, Try.ntmps12
  go_wp2_with fail
  refine (drawMeetingsOf_any a n cap w hB hn hc).mono ?_
  rintro e w1 ⟨x, y, m, v, l, rfl, hx, hy, hm, ho, hl, hs, B1⟩
  clear hB hn hc
  obtain ⟨av, cv, rfl, r1, hcap, _, _⟩ := ho.form
  have L64 : ∀ x ∈ l, In64 x := fun x hx => by have := hs x hx; unfold In64; omega
  clear ho hs
  obtain ⟨R, hR⟩ : ∃ R, R = MO x y m l := ⟨_, rfl⟩
  have e1 : (R != R) = false := by simp
  have e2 : (R == R) = true := by simp
  have HR := Lib.hid hR
  clear hR
  have hcl := implMeetingsOf_any x y m av l cv w1 (by unfold In64; omega) (by unfold In64; omega) (by unfold In64; omega) r1 L64 (by omega)
  rw [← HR.out] at hcl
  have HCL := Lib.hid hcl
  clear hcl
  go_wp2_with fail
  refine HCL.out.mono ?_
  rintro e w2 ⟨rfl, b2⟩
  have B2 := B1.trans (b2.mono B1.size)
  have r2 := r1.below b2
  clear b2 B1 HCL r1
  have hcl := specMeetingsOf_any x y m av l cv w2 (by unfold In64; omega) (by unfold In64; omega) (by unfold In64; omega) r2 L64 (by omega) hcap
  rw [← HR.out] at hcl
  have HCL := Lib.hid hcl
  clear hcl
  go_wp2_with fail
  refine HCL.out.mono ?_
  rintro e w3 ⟨rfl, b3⟩
  have B3 := B2.trans (b3.mono B2.size)
  have r3 := r2.below b3
  clear b3 B2 HCL r2
  by_cases hv : VF x y m = true ∧ VK l = true
  · obtain ⟨f0, f1, f2, f3⟩ := MO_facts hv.1 hv.2
    rw [← HR.out] at f0 f1
    have hl8 := (VK_iff.1 hv.2).1
    have hRb : R ≤ 1000 := by
      have h1 : (l.length : Int) * ((l.length : Int) - 1) ≤ 8 * 8 := by
        have h2 : (l.length : Int) * ((l.length : Int) - 1) ≤ (l.length : Int) * 8 := Int.mul_le_mul_of_nonneg_left (by omega) (by omega)
        omega
      omega
    obtain ⟨N, hN⟩ : ∃ N, N = l.length := ⟨_, rfl⟩
    have hmul1 : (N : Int) * ((N : Int) - 1) ≤ 72 := by
      have h2 : (N : Int) * ((N : Int) - 1) ≤ (N : Int) * 8 := Int.mul_le_mul_of_nonneg_left (by omega) (by omega)
      omega
    have hmul0 : -9 ≤ (N : Int) * ((N : Int) - 1) := by
      rcases Nat.eq_zero_or_pos N with h | h
      · rw [h]; decide
      · have := Int.mul_nonneg (show 0 ≤ (N : Int) by omega) (show 0 ≤ (N : Int) - 1 by omega); omega
    rw [hN] at hmul0 hmul1
    clear hN
    obtain ⟨S1, hS1⟩ : ∃ S, S = MO x y 1 l := ⟨_, rfl⟩
    obtain ⟨S2, hS2⟩ : ∃ S, S = MO x y 31 l := ⟨_, rfl⟩
    rw [← hS1] at f2
    rw [← hS2] at f3
    have g1 : (2 * S1 == (l.length : Int) * ((l.length : Int) - 1)) = true := by simp [f2]
    have g2 : (S2 == 0) = true := by simp [f3]
    have hSb : S1 ≤ 1000 ∧ -1000 ≤ S1 := by omega
    have HS1 := Lib.hid hS1
    have HS2 := Lib.hid hS2
    clear hS1 hS2 f2 f3 hv
    have hcl := implMeetingsOf_any x y 1 av l cv w3 (by unfold In64; omega) (by unfold In64; omega) (by unfold In64; omega) r3 L64 (by omega)
    rw [← HS1.out] at hcl
    have HCL := Lib.hid hcl
    clear hcl
    go_wp2_with fail
    refine HCL.out.mono ?_
    rintro e w4 ⟨rfl, b4⟩
    have B4 := B3.trans (b4.mono B3.size)
    have r4 := r3.below b4
    clear b4 B3 HCL r3
    have hcl := implMeetingsOf_any x y 31 av l cv w4 (by unfold In64; omega) (by unfold In64; omega) (by unfold In64; omega) r4 L64 (by omega)
    rw [← HS2.out] at hcl
    have HCL := Lib.hid hcl
    clear hcl
    go_wp2_with fail
    refine HCL.out.mono ?_
    rintro e w5 ⟨rfl, b5⟩
    have B5 := B4.trans (b5.mono B4.size)
    have r5 := r4.below b5
    clear b5 B4 HCL r4
    go_wp2
    go_ret
    exact ⟨rfl, B5⟩
  · have hR : R = -1 := by rw [HR.out]; unfold MO; rw [if_neg hv]
    subst hR
    have hcl := specMeetingsOf_any x y m av l cv w3 (by unfold In64; omega) (by unfold In64; omega) (by unfold In64; omega) r3 L64 (by omega) hcap
    rw [← HR.out] at hcl
    have HCL := Lib.hid hcl
    clear hcl
    go_wp2_with fail
    refine HCL.out.mono ?_
    rintro e w4 ⟨rfl, b4⟩
    have B4 := B3.trans (b4.mono B3.size)
    have r4 := r3.below b4
    clear b4 B3 HCL r3
    go_wp2
    go_ret
    exact ⟨rfl, B4⟩

set_option maxHeartbeats 4000000 in
set_option maxRecDepth 100000 in
theorem lawFnPairCount (a : Option Addr) (n cap : Nat) (w : World) (hB : Bytes w w.heap.size a n) (hn : n ≤ 9223372036854775807) (hc : n ≤ cap) :
    Calls Try.prog 13 #[.slice a n cap] w fun e w' => e = .returned (.bool true) ∧ Below w.heap.size w w' := by
  by_cases hbig : 1048576 < n
  · go_enter Try.func13, Try.ntmps13
    go_wp2
    go_ret
    exact ⟨rfl, Below.refl _ _⟩
  go_enter Try.func13, Try.ntmps13
  go_wp2_with fail
  refine (drawPairCount_any a n cap w hB hn hc).mono ?_
  rintro e w1 ⟨m, x, y, rfl, hm, hx, hy, B1⟩
  clear hB hn hc
  obtain ⟨R, hR⟩ : ∃ R, R = PC m x y := ⟨_, rfl⟩
  have e1 : (R != R) = false := by simp
  have e2 : (R == R) = true := by simp
  have HR := Lib.hid hR
  clear hR
  have hcl := implPairCount_any m x y w1 (by unfold In64; omega) (by unfold In64; omega) (by unfold In64; omega)
  rw [← HR.out] at hcl
  have HCL := Lib.hid hcl
  clear hcl
  go_wp2_with fail
  refine HCL.out.mono ?_
  rintro e w2 ⟨rfl, b2⟩
  have B2 := B1.trans (b2.mono B1.size)
  clear b2 B1 HCL
  have hcl := specPairCount_any m x y w2 (by unfold In64; omega) (by unfold In64; omega) (by unfold In64; omega)
  rw [← HR.out] at hcl
  have HCL := Lib.hid hcl
  clear hcl
  go_wp2_with fail
  refine HCL.out.mono ?_
  rintro e w3 ⟨rfl, b3⟩
  have B3 := B2.trans (b3.mono B2.size)
  clear b3 B2 HCL
  by_cases hv : VX m x y = true
  · obtain ⟨f0, f1, f2, f3⟩ := PC_facts hv
    rw [← HR.out] at f0 f1 f2 f3
    have f4 : 0 ≤ R * m := Int.mul_nonneg f0 (by omega)
    have F2 := Lib.hid f2
    have F3 := Lib.hid f3
    clear f2 f3 hv
    have hcl := implPairCount_any m 0 1 w3 (by unfold In64; omega) (by unfold In64; omega) (by unfold In64; omega)
    rw [F2.out] at hcl
    have HCL := Lib.hid hcl
    clear hcl
    go_wp2_with fail
    refine HCL.out.mono ?_
    rintro e w4 ⟨rfl, b4⟩
    have B4 := B3.trans (b4.mono B3.size)
    clear b4 B3 HCL
    have hcl := implPairCount_any m y x w4 (by unfold In64; omega) (by unfold In64; omega) (by unfold In64; omega)
    rw [F3.out] at hcl
    have HCL := Lib.hid hcl
    clear hcl
    go_wp2_with fail
    refine HCL.out.mono ?_
    rintro e w5 ⟨rfl, b5⟩
    have B5 := B4.trans (b5.mono B4.size)
    clear b5 B4 HCL
    go_wp2
    go_ret
    exact ⟨rfl, B5⟩
  · have hR : R = -1 := by rw [HR.out]; unfold PC; rw [if_neg hv]
    subst hR
    have hcl := specPairCount_any m x y w3 (by unfold In64; omega) (by unfold In64; omega) (by unfold In64; omega)
    rw [← HR.out] at hcl
    have HCL := Lib.hid hcl
    clear hcl
    go_wp2_with fail
    refine HCL.out.mono ?_
    rintro e w4 ⟨rfl, b4⟩
    have B4 := B3.trans (b4.mono B3.size)
    clear b4 B3 HCL
    go_wp2
    go_ret
    exact ⟨rfl, B4⟩

set_option maxHeartbeats 4000000 in
set_option maxRecDepth 100000 in
theorem lawFnApartBy (a : Option Addr) (n cap : Nat) (w : World) (hB : Bytes w w.heap.size a n) (hn : n ≤ 9223372036854775807) (hc : n ≤ cap) :
    Calls Try.prog 14 #[.slice a n cap] w fun e w' => e = .returned (.bool true) ∧ Below w.heap.size w w' := by
  by_cases hbig : 1048576 < n
  · go_enter Try.func14, Try.ntmps14
    go_wp2
    go_ret
    exact ⟨rfl, Below.refl _ _⟩
  go_enter Try.func14, Try.ntmps14
  go_wp2_with fail
  refine (drawApartBy_any a n cap w hB hn hc).mono ?_
  rintro e w1 ⟨m, v, l, rfl, hm, ho, hl, hs, B1⟩
  clear hB hn hc
  obtain ⟨av, cv, rfl, r1, hcap, _, _⟩ := ho.form
  have L64 : ∀ x ∈ l, In64 x := fun x hx => by have := hs x hx; unfold In64; omega
  clear ho hs
  obtain ⟨A, hA⟩ : ∃ A, A = (AP m l).1 := ⟨_, rfl⟩
  obtain ⟨B, hBB⟩ : ∃ B, B = (AP m l).2.1 := ⟨_, rfl⟩
  obtain ⟨K, hK⟩ : ∃ K, K = (AP m l).2.2 := ⟨_, rfl⟩
  have e1 : (A != A) = false := by simp
  have e2 : (B != B) = false := by simp
  have e3 : (K != K) = false := by simp
  have e4 : (A == A) = true := by simp
  have e5 : (B == B) = true := by simp
  have e6 : (K == K) = true := by simp
  have HA := Lib.hid hA
  have HBB := Lib.hid hBB
  have HK := Lib.hid hK
  clear hA hBB hK
  have hcl := implApartBy_any m av l cv w1 (by unfold In64; omega) r1 L64 (by omega)
  rw [← HA.out, ← HBB.out, ← HK.out] at hcl
  have HCL := Lib.hid hcl
  clear hcl
  go_wp2_with fail
  refine HCL.out.mono ?_
  rintro e w2 ⟨rfl, b2⟩
  have B2 := B1.trans (b2.mono B1.size)
  have r2 := r1.below b2
  clear b2 B1 HCL r1
  have hcl := specApartBy_any m av l cv w2 (by unfold In64; omega) r2 L64 (by omega) hcap
  rw [← HA.out, ← HBB.out, ← HK.out] at hcl
  have HCL := Lib.hid hcl
  clear hcl
  go_wp2_with fail
  refine HCL.out.mono ?_
  rintro e w3 ⟨rfl, b3⟩
  have B3 := B2.trans (b3.mono B2.size)
  have r3 := r2.below b3
  clear b3 B2 HCL r2
  by_cases hk : K = true
  · obtain ⟨f0, f1, f2, f3⟩ := AP_facts (m := m) (l := l) (by rw [← HK.out]; exact hk)
    rw [← HA.out, ← HBB.out] at f0 f2
    obtain ⟨p1, p2, p3, p4, p5, p6⟩ := VF_iff.1 f0
    have hAB : In64 A ∧ In64 B := by unfold In64; omega
    subst hk
    have F2 := Lib.hid f2
    clear f0 f1 f2
    have hcl := implMeetingsOf_any A B m av l cv w3 hAB.1 hAB.2 (by unfold In64; omega) r3 L64 (by omega)
    rw [F2.out] at hcl
    have HCL := Lib.hid hcl
    clear hcl
    go_wp2_with fail
    refine HCL.out.mono ?_
    rintro e w4 ⟨rfl, b4⟩
    have B4 := B3.trans (b4.mono B3.size)
    have r4 := r3.below b4
    clear b4 B3 HCL r3
    go_wp2
    go_ret
    exact ⟨rfl, B4⟩
  · have hk2 : K = false := by simpa using hk
    subst hk2
    go_wp2
    go_ret
    exact ⟨rfl, B3⟩

set_option maxHeartbeats 4000000 in
set_option maxRecDepth 100000 in
theorem lawFnLeastApart (a : Option Addr) (n cap : Nat) (w : World) (hB : Bytes w w.heap.size a n) (hn : n ≤ 9223372036854775807) (hc : n ≤ cap) :
    Calls Try.prog 15 #[.slice a n cap] w fun e w' => e = .returned (.bool true) ∧ Below w.heap.size w w' := by
  by_cases hbig : 1048576 < n
  · go_enter Try.func15, Try.ntmps15
    go_wp2
    go_ret
    exact ⟨rfl, Below.refl _ _⟩
  go_enter Try.func15, Try.ntmps15
  go_wp2_with fail
  refine (drawLeastApart_any a n cap w hB hn hc).mono ?_
  rintro e w1 ⟨v, l, rfl, ho, hl, hs, B1⟩
  clear hB hn hc
  obtain ⟨av, cv, rfl, r1, hcap, _, _⟩ := ho.form
  have L64 : ∀ x ∈ l, In64 x := fun x hx => by have := hs x hx; unfold In64; omega
  clear ho hs
  obtain ⟨R, hR⟩ : ∃ R, R = LA l := ⟨_, rfl⟩
  have e1 : (R != R) = false := by simp
  have e2 : (R == R) = true := by simp
  have HR := Lib.hid hR
  clear hR
  have hcl := implLeastApart_any av l cv w1 r1 L64 (by omega)
  rw [← HR.out] at hcl
  have HCL := Lib.hid hcl
  clear hcl
  go_wp2_with fail
  refine HCL.out.mono ?_
  rintro e w2 ⟨rfl, b2⟩
  have B2 := B1.trans (b2.mono B1.size)
  have r2 := r1.below b2
  clear b2 B1 HCL r1
  have hcl := specLeastApart_any av l cv w2 r2 L64 (by omega) hcap
  rw [← HR.out] at hcl
  have HCL := Lib.hid hcl
  clear hcl
  go_wp2_with fail
  refine HCL.out.mono ?_
  rintro e w3 ⟨rfl, b3⟩
  have B3 := B2.trans (b3.mono B2.size)
  have r3 := r2.below b3
  clear b3 B2 HCL r2
  by_cases hv : VK l = true
  · obtain ⟨f0, f1, f2, f3, f4⟩ := LA_facts hv
    rw [← HR.out] at f0 f1 f2 f3 f4
    have F2 := Lib.hid f2
    have F3 := Lib.hid f3
    clear f2 f3 hv
    have hmx : l.length < 1 ∨ 1 ≤ l.length := by omega
    have hcl := implApartBy_any R av l cv w3 (by unfold In64; omega) r3 L64 (by omega)
    rw [F2.out] at hcl
    have HCL := Lib.hid hcl
    clear hcl
    go_wp2_with fail
    refine HCL.out.mono ?_
    rintro e w4 ⟨rfl, b4⟩
    have B4 := B3.trans (b4.mono B3.size)
    have r4 := r3.below b4
    clear b4 B3 HCL r3
    have hcl := implApartBy_any (R - 1) av l cv w4 (by unfold In64; omega) r4 L64 (by omega)
    rw [F3.out] at hcl
    have HCL := Lib.hid hcl
    clear hcl
    go_wp2_with fail
    refine HCL.out.mono ?_
    rintro e w5 ⟨rfl, b5⟩
    have B5 := B4.trans (b5.mono B4.size)
    have r5 := r4.below b5
    clear b5 B4 HCL r4
    rcases hmx with hmx | hmx
    all_goals
      go_wp2
      go_ret
      exact ⟨rfl, B5⟩
  · have hR : R = -1 := by rw [HR.out]; unfold LA; rw [if_neg hv]
    subst hR
    have hcl := specLeastApart_any av l cv w3 r3 L64 (by omega) hcap
    rw [← HR.out] at hcl
    have HCL := Lib.hid hcl
    clear hcl
    go_wp2_with fail
    refine HCL.out.mono ?_
    rintro e w4 ⟨rfl, b4⟩
    have B4 := B3.trans (b4.mono B3.size)
    have r4 := r3.below b4
    clear b4 B3 HCL r3
    go_wp2
    go_ret
    exact ⟨rfl, B4⟩

set_option maxHeartbeats 4000000 in
set_option maxRecDepth 100000 in
theorem lawFnTwoLevels (a : Option Addr) (n cap : Nat) (w : World) (hB : Bytes w w.heap.size a n) (hn : n ≤ 9223372036854775807) (hc : n ≤ cap) :
    Calls Try.prog 16 #[.slice a n cap] w fun e w' => e = .returned (.bool true) ∧ Below w.heap.size w w' := by
  by_cases hbig : 1048576 < n
  · go_enter Try.func16, Try.ntmps16
    go_wp2
    go_ret
    exact ⟨rfl, Below.refl _ _⟩
  go_enter Try.func16, Try.ntmps16
  go_wp2_with fail
  refine (drawTwoLevels_any a n cap w hB hn hc).mono ?_
  rintro e w1 ⟨x, y, v, l, rfl, hx, hy, ho, hl, hs, B1⟩
  clear hB hn hc
  obtain ⟨av, cv, rfl, r1, hcap, _, _⟩ := ho.form
  have L64 : ∀ x ∈ l, In64 x := fun x hx => by have := hs x hx; unfold In64; omega
  clear ho hs
  obtain ⟨R, hR⟩ : ∃ R, R = TL x y l := ⟨_, rfl⟩
  have e1 : (R != R) = false := by simp
  have e2 : (R == R) = true := by simp
  have HR := Lib.hid hR
  clear hR
  have hcl := implTwoLevels_any x y av l cv w1 (by unfold In64; omega) (by unfold In64; omega) r1 L64 (by omega)
  rw [← HR.out] at hcl
  have HCL := Lib.hid hcl
  clear hcl
  go_wp2_with fail
  refine HCL.out.mono ?_
  rintro e w2 ⟨rfl, b2⟩
  have B2 := B1.trans (b2.mono B1.size)
  have r2 := r1.below b2
  clear b2 B1 HCL r1
  have hcl := specTwoLevels_any x y av l cv w2 (by unfold In64; omega) (by unfold In64; omega) r2 L64 (by omega) hcap
  rw [← HR.out] at hcl
  have HCL := Lib.hid hcl
  clear hcl
  go_wp2_with fail
  refine HCL.out.mono ?_
  rintro e w3 ⟨rfl, b3⟩
  have B3 := B2.trans (b3.mono B2.size)
  have r3 := r2.below b3
  clear b3 B2 HCL r2
  by_cases hv : l ≠ [] ∧ VF x y l.length = true ∧ VK l = true
  · obtain ⟨f0, f1, f2⟩ := TL_facts hv.1 hv.2.1 hv.2.2
    rw [← HR.out] at f0 f1 f2
    obtain ⟨g0, g1, _, _⟩ := MO_facts hv.2.1 hv.2.2
    have hl8 := (VK_iff.1 hv.2.2).1
    obtain ⟨S, hS⟩ : ∃ S, S = MO x y l.length l := ⟨_, rfl⟩
    rw [← hS] at f0 g0 g1
    have hsq0 : 0 ≤ (l.length : Int) * (l.length : Int) := Int.mul_nonneg (by omega) (by omega)
    have hsq1 : (l.length : Int) * (l.length : Int) ≤ (l.length : Int) * 8 := Int.mul_le_mul_of_nonneg_left (by omega) (by omega)
    have hSb : S ≤ 1000 := by omega
    have g2 : (R == 2 * (l.length : Int) + 2 * S) = true := by simp [f0]
    have HS := Lib.hid hS
    clear hS hv f0 g1
    have hcl := implMeetingsOf_any x y l.length av l cv w3 (by unfold In64; omega) (by unfold In64; omega) (by unfold In64; omega) r3 L64 (by omega)
    rw [← HS.out] at hcl
    have HCL := Lib.hid hcl
    clear hcl
    go_wp2_with fail
    refine HCL.out.mono ?_
    rintro e w4 ⟨rfl, b4⟩
    have B4 := B3.trans (b4.mono B3.size)
    have r4 := r3.below b4
    clear b4 B3 HCL r3
    go_wp2
    go_ret
    exact ⟨rfl, B4⟩
  · have hR : R = -1 := by rw [HR.out]; unfold TL; rw [if_neg hv]
    subst hR
    have hcl := specTwoLevels_any x y av l cv w3 (by unfold In64; omega) (by unfold In64; omega) r3 L64 (by omega) hcap
    rw [← HR.out] at hcl
    have HCL := Lib.hid hcl
    clear hcl
    go_wp2_with fail
    refine HCL.out.mono ?_
    rintro e w4 ⟨rfl, b4⟩
    have B4 := B3.trans (b4.mono B3.size)
    have r4 := r3.below b4
    clear b4 B3 HCL r3
    go_wp2
    go_ret
    exact ⟨rfl, B4⟩

set_option maxHeartbeats 4000000 in
set_option maxRecDepth 100000 in
theorem lawFnBestLevels (a : Option Addr) (n cap : Nat) (w : World) (hB : Bytes w w.heap.size a n) (hn : n ≤ 9223372036854775807) (hc : n ≤ cap) :
    Calls Try.prog 17 #[.slice a n cap] w fun e w' => e = .returned (.bool true) ∧ Below w.heap.size w w' := by
  by_cases hbig : 1048576 < n
  · go_enter Try.func17, Try.ntmps17
    go_wp2
    go_ret
    exact ⟨rfl, Below.refl _ _⟩
  go_enter Try.func17, Try.ntmps17
  go_wp2_with fail
  refine (drawBestLevels_any a n cap w hB hn hc).mono ?_
  rintro e w1 ⟨v, l, rfl, ho, hl, hs, B1⟩
  clear hB hn hc
  obtain ⟨av, cv, rfl, r1, hcap, _, _⟩ := ho.form
  have L64 : ∀ x ∈ l, In64 x := fun x hx => by have := hs x hx; unfold In64; omega
  clear ho hs
  obtain ⟨R, hR⟩ : ∃ R, R = BL l := ⟨_, rfl⟩
  have e1 : (R != R) = false := by simp
  have e2 : (R == R) = true := by simp
  have HR := Lib.hid hR
  clear hR
  have hcl := implBestLevels_any av l cv w1 r1 L64 (by omega)
  rw [← HR.out] at hcl
  have HCL := Lib.hid hcl
  clear hcl
  go_wp2_with fail
  refine HCL.out.mono ?_
  rintro e w2 ⟨rfl, b2⟩
  have B2 := B1.trans (b2.mono B1.size)
  have r2 := r1.below b2
  clear b2 B1 HCL r1
  have hcl := specBestLevels_any av l cv w2 r2 L64 (by omega) hcap
  rw [← HR.out] at hcl
  have HCL := Lib.hid hcl
  clear hcl
  go_wp2_with fail
  refine HCL.out.mono ?_
  rintro e w3 ⟨rfl, b3⟩
  have B3 := B2.trans (b3.mono B2.size)
  have r3 := r2.below b3
  clear b3 B2 HCL r2
  by_cases hv : l ≠ [] ∧ VK l = true
  · obtain ⟨f0, f1, f2⟩ := BL_facts hv.1 hv.2
    rw [← HR.out] at f0 f1 f2
    obtain ⟨S, hS⟩ : ∃ S, S = TL 1 0 l := ⟨_, rfl⟩
    rw [← hS] at f2
    have HS := Lib.hid hS
    clear hS hv
    have hcl := implTwoLevels_any 1 0 av l cv w3 (by unfold In64; omega) (by unfold In64; omega) r3 L64 (by omega)
    rw [← HS.out] at hcl
    have HCL := Lib.hid hcl
    clear hcl
    go_wp2_with fail
    refine HCL.out.mono ?_
    rintro e w4 ⟨rfl, b4⟩
    have B4 := B3.trans (b4.mono B3.size)
    have r4 := r3.below b4
    clear b4 B3 HCL r3
    go_wp2
    go_ret
    exact ⟨rfl, B4⟩
  · have hR : R = -1 := by rw [HR.out]; unfold BL; rw [if_neg hv]
    subst hR
    have hcl := specBestLevels_any av l cv w3 r3 L64 (by omega) hcap
    rw [← HR.out] at hcl
    have HCL := Lib.hid hcl
    clear hcl
    go_wp2_with fail
    refine HCL.out.mono ?_
    rintro e w4 ⟨rfl, b4⟩
    have B4 := B3.trans (b4.mono B3.size)
    have r4 := r3.below b4
    clear b4 B3 HCL r3
    go_wp2
    go_ret
    exact ⟨rfl, B4⟩
end Go.Proofs.Ytapkalpmnldhpaa
