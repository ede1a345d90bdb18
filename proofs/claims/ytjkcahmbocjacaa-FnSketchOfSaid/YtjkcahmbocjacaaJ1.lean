/-
  impl.isBits, isWays, isSum, ValidSieve, placeOf.
-/
import Derived.Test.YtjkcahmbocjacaaF3
import Derived.Test.YtjkcahmbocjacaaW6
import Derived.Laws.ShiftsVarLaws
namespace Go.Proofs.Ytjkcahmbocjacaa
open Go.RowKit

set_option maxHeartbeats 400000 in
theorem isBits_any (n : Int) (w : World) : Calls Try.prog 68 #[.int .i64 n] w fun e w' => e = .returned (.bool (inR n 1 16)) ∧ w = w' := by
  by_cases h1 : 1 ≤ n
  · have hd : decide (1 ≤ n) = true := by simp [h1]
    go_enter Try.func68, Try.ntmps68
    go_wp2
    go_ret
    exact ⟨ret_bool (by simp [inR, h1]; try omega), rfl⟩
  · go_enter Try.func68, Try.ntmps68
    go_wp2
    go_ret
    exact ⟨ret_bool (by simp [inR, h1]; try omega), rfl⟩
set_option maxHeartbeats 400000 in
theorem isWays_any (n : Int) (w : World) : Calls Try.prog 69 #[.int .i64 n] w fun e w' => e = .returned (.bool (inR n 1 4)) ∧ w = w' := by
  by_cases h1 : 1 ≤ n
  · have hd : decide (1 ≤ n) = true := by simp [h1]
    go_enter Try.func69, Try.ntmps69
    go_wp2
    go_ret
    exact ⟨ret_bool (by simp [inR, h1]; try omega), rfl⟩
  · go_enter Try.func69, Try.ntmps69
    go_wp2
    go_ret
    exact ⟨ret_bool (by simp [inR, h1]; try omega), rfl⟩
/-- 1 moved by t places. -/
theorem shl_one (t p : Nat) (ht : t ≤ 40) (hp : p = 2 ^ t) : IntKind.i64.wrap (1 * 2 ^ min ((t : Int)).toNat 64) = (p : Int) ∧ IntKind.i64.wrap (2 ^ min t 64) = (p : Int) ∧ IntKind.i64.wrap (2 ^ t) = (p : Int) := by
  have hs := pow_small ht
  have e : ((2 : Int) ^ t) = (p : Int) := by rw [hp]; simp
  have e2 : IntKind.i64.wrap (p : Int) = (p : Int) := IntWalk.i64_in _ (by omega)
  rw [Int.toNat_natCast, Int.one_mul, Nat.min_eq_left (by omega), e]
  exact ⟨e2, e2, e2⟩
set_option maxHeartbeats 1000000 in
theorem isSum_any (t : Nat) (s : Int) (w : World) (ht : t ≤ 40) : Calls Try.prog 70 #[.int .i64 (t : Int), .int .i64 s] w fun e w' => e = .returned (.bool (decide (0 ≤ s ∧ s < ((2 ^ t : Nat) : Int)))) ∧ w = w' := by
  have hs := pow_small ht
  obtain ⟨p, hp⟩ : ∃ p, p = 2 ^ t := ⟨_, rfl⟩
  obtain ⟨e1, e2, e3⟩ := shl_one t p ht hp
  rw [← hp] at hs ⊢
  clear hp
  by_cases h1 : 0 ≤ s
  · have hd : decide (0 ≤ s) = true := by simp [h1]
    go_enter Try.func70, Try.ntmps70
    go_wp2
    go_ret
    exact ⟨ret_bool (by simp [h1]; try omega), rfl⟩
  · go_enter Try.func70, Try.ntmps70
    go_wp2
    go_ret
    exact ⟨ret_bool (by simp [h1]; try omega), rfl⟩
set_option maxHeartbeats 1000000 in
theorem implValidSieve_any (b ww s : Int) (w : World) : Calls Try.prog 22 #[.agg #[.int .i64 b, .int .i64 ww, .int .i64 s]] w fun e w' => e = .returned (.bool (VSv b ww s)) ∧ Below w.heap.size w w' := by
  have hbA := (Below.refl w.heap.size w).alloc (Nat.le_refl _) (.cells #[.int .i64 b, .int .i64 ww, .int .i64 s] 24)
  obtain ⟨R, hR⟩ : ∃ R, R = VSv b ww s := ⟨_, rfl⟩
  rw [← hR]
  have c1 := fun wx => isBits_any b wx
  have c2 := fun wx => isWays_any ww wx
  by_cases g1 : inR b 1 16 = true
  · have g1' := inR_iff.1 g1
    rw [g1] at c1
    by_cases g2 : inR ww 1 4 = true
    · have g2' := inR_iff.1 g2
      rw [g2] at c2
      obtain ⟨B, rfl⟩ : ∃ B : Nat, b = B := ⟨b.toNat, by omega⟩
      have c3 := fun wx => isSum_any B s wx (by omega)
      have e : R = decide (0 ≤ s ∧ s < ((2 ^ B : Nat) : Int)) := by
        rw [hR, Bool.eq_iff_iff, VSv_iff, decide_eq_true_eq, Int.toNat_natCast]
        exact ⟨fun h => h.2.2, fun h => ⟨g1', g2', h⟩⟩
      rw [← e] at c3
      have C1 := Lib.hid c1
      have C2 := Lib.hid c2
      have C3 := Lib.hid c3
      clear c1 c2 c3 hR g1 g2 e
      go_enter Try.func22, Try.ntmps22
      go_wp2_with fail
      refine (C1.out _).mono ?_
      rintro e w' ⟨rfl, rfl⟩
      go_wp2_with fail
      refine (C2.out _).mono ?_
      rintro e w' ⟨rfl, rfl⟩
      go_wp2_with fail
      refine (C3.out _).mono ?_
      rintro e w' ⟨rfl, rfl⟩
      go_wp2
      go_ret
      exact ⟨rfl, hbA⟩
    · have hR2 : R = false := by rw [hR]; exact VSv_false (fun h => g2 (inR_iff.2 h.2.1))
      rw [eq_false_of_ne_true g2] at c2
      subst hR2
      have C1 := Lib.hid c1
      have C2 := Lib.hid c2
      clear c1 c2 hR g1 g2
      go_enter Try.func22, Try.ntmps22
      go_wp2_with fail
      refine (C1.out _).mono ?_
      rintro e w' ⟨rfl, rfl⟩
      go_wp2_with fail
      refine (C2.out _).mono ?_
      rintro e w' ⟨rfl, rfl⟩
      go_wp2
      go_ret
      exact ⟨rfl, hbA⟩
  · have hR2 : R = false := by rw [hR]; exact VSv_false (fun h => g1 (inR_iff.2 h.1))
    rw [eq_false_of_ne_true g1] at c1
    subst hR2
    have C1 := Lib.hid c1
    clear c1 c2 hR g1
    go_enter Try.func22, Try.ntmps22
    go_wp2_with fail
    refine (C1.out _).mono ?_
    rintro e w' ⟨rfl, rfl⟩
    go_wp2
    go_ret
    exact ⟨rfl, hbA⟩

/-- HashOf at numbers that fit. -/
theorem HO_fit {a b m k : Int} (ha : 1 ≤ a) (ha' : a ≤ 30) (hb : 0 ≤ b) (hb' : b ≤ 30) (hm : 1 ≤ m) (hm' : m ≤ 31) (hk : 0 ≤ k) (hk' : k ≤ 30) : HO a b m k = hs a b m k := by
  unfold HO
  rw [if_pos ⟨VF_iff.2 ⟨ha, ha', hb, hb', hm, hm'⟩, KR_iff.2 ⟨hk, hk'⟩⟩]
set_option maxHeartbeats 2000000 in
theorem placeOf0_any (k B key : Nat) (w : World) (hk : k ≤ 3) (hB : 1 ≤ B) (hB' : B ≤ 16) (hkey : key ≤ 92) :
    Calls Try.prog 74 #[.int .i64 0, .int .i64 (k : Int), .int .i64 (B : Int), .int .i64 (key : Int)] w fun e w' => e = .returned (.int .i64 ((wb B key k : Nat) : Int)) ∧ Below w.heap.size w w' := by
  obtain ⟨q, hq⟩ : ∃ q, q = key / 31 := ⟨_, rfl⟩
  obtain ⟨r, hr⟩ : ∃ r, r = key % 31 := ⟨_, rfl⟩
  have e1 : (key : Int).tdiv 31 = (q : Int) := by rw [hq, Int.tdiv_eq_ediv_of_nonneg (by omega)]; omega
  have e2 : (key : Int).tmod 31 = (r : Int) := by rw [hr, Int.tmod_eq_emod_of_nonneg (by omega)]; omega
  obtain ⟨kk, hkk⟩ : ∃ kk, kk = k * k := ⟨_, rfl⟩
  have hkk9 : kk ≤ 9 := by rw [hkk]; exact Nat.mul_le_mul hk hk
  have e3 : IntKind.i64.wrap ((k : Int) * (k : Int)) = (kk : Int) := by
    rw [show (k : Int) * (k : Int) = (kk : Int) by rw [hkk, Int.natCast_mul]]; exact IntWalk.i64_in _ (by omega)
  have c := fun wx => implHashOf_any ((k : Int) + 1) ((kk : Int) + (q : Int)) (B : Int) (r : Int) wx (by unfold In64; omega) (by unfold In64; omega) (by unfold In64; omega) (by unfold In64; omega)
  rw [HO_fit (by omega) (by omega) (by omega) (by omega) (by omega) (by omega) (by omega) (by omega)] at c
  have hrg := hs_range (a := (k : Int) + 1) (b := (kk : Int) + (q : Int)) (m := (B : Int)) (k := (r : Int)) (by omega)
  have ht : ((wb B key k : Nat) : Int) = hs ((k : Int) + 1) ((kk : Int) + (q : Int)) B r := by
    unfold wb
    have : hs ((k : Int) + 1) ((k : Int) * (k : Int) + (key : Int) / 31) (B : Int) ((key : Int) % 31) = hs ((k : Int) + 1) ((kk : Int) + (q : Int)) B r := by
      rw [hq, hr, hkk, Int.natCast_mul]; rfl
    rw [← this] at hrg ⊢
    omega
  rw [← ht] at c
  have hq2 : q ≤ 2 := by omega
  have hr2 : r ≤ 30 := by omega
  have C := Lib.hid c
  clear c hrg ht hq hr hkk
  go_enter Try.func74, Try.ntmps74
  go_wp2_with fail
  refine (C.out _).mono ?_
  rintro e w1 ⟨rfl, b1⟩
  go_wp2
  go_ret
  exact ⟨rfl, b1⟩
set_option maxHeartbeats 2000000 in
theorem placeOf1_any (k B : Nat) (key : Int) (w : World) (hk : k ≤ 3) (hB : 1 ≤ B) (hB' : B ≤ 16) (h0 : 0 ≤ key) (h1 : key ≤ 30) :
    Calls Try.prog 74 #[.int .i64 1, .int .i64 (k : Int), .int .i64 (B : Int), .int .i64 key] w fun e w' => e = .returned (.int .i64 (hs ((k : Int) + 1) k B key)) ∧ Below w.heap.size w w' := by
  have c := fun wx => implHashOf_any ((k : Int) + 1) (k : Int) (B : Int) key wx (by unfold In64; omega) (by unfold In64; omega) (by unfold In64; omega) (by unfold In64; omega)
  rw [HO_fit (by omega) (by omega) (by omega) (by omega) (by omega) (by omega) (by omega) (by omega)] at c
  have C := Lib.hid c
  clear c
  go_enter Try.func74, Try.ntmps74
  go_wp2_with fail
  refine (C.out _).mono ?_
  rintro e w1 ⟨rfl, b1⟩
  go_wp2
  go_ret
  exact ⟨rfl, b1⟩
end Go.Proofs.Ytjkcahmbocjacaa
