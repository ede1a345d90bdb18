/-
  spec.marks, spec.MarksOf, spec.AddKey, spec.MayHave, spec.HowMany.
-/
import Derived.Test.YtjkcahmbocjacaaW5
import Derived.Laws.BitsAllLaws
import Derived.Deep.RegionHeld3
namespace Go.Proofs.Ytjkcahmbocjacaa
open Go.RowKit

theorem bits_or_i64_nat (a b : Nat) (ha : a < 9223372036854775808) (hb : b < 9223372036854775808) : bits .or .i64 (a : Int) (b : Int) = ((a ||| b : Nat) : Int) := by
  have hx : a ||| b < 2 ^ 63 := Nat.or_lt_two_pow (by omega) (by omega)
  have h1 : (BitVec.ofInt 64 (a : Int)).toNat = a := by
    rw [BitVec.ofInt_natCast, BitVec.toNat_ofNat]; exact Nat.mod_eq_of_lt (by omega)
  have h2 : (BitVec.ofInt 64 (b : Int)).toNat = b := by
    rw [BitVec.ofInt_natCast, BitVec.toNat_ofNat]; exact Nat.mod_eq_of_lt (by omega)
  show IntKind.i64.wrap ((BitVec.ofInt 64 (a : Int) ||| BitVec.ofInt 64 (b : Int)).toNat : Int) = _
  rw [BitVec.toNat_or, h1, h2, IntKind.wrap_i64]
  omega
theorem bits_and_i64_nat (a b : Nat) (ha : a < 9223372036854775808) (hb : b < 9223372036854775808) : bits .and .i64 (a : Int) (b : Int) = ((a &&& b : Nat) : Int) := by
  have hx : a &&& b ≤ a := Nat.and_le_left
  have h1 : (BitVec.ofInt 64 (a : Int)).toNat = a := by
    rw [BitVec.ofInt_natCast, BitVec.toNat_ofNat]; exact Nat.mod_eq_of_lt (by omega)
  have h2 : (BitVec.ofInt 64 (b : Int)).toNat = b := by
    rw [BitVec.ofInt_natCast, BitVec.toNat_ofNat]; exact Nat.mod_eq_of_lt (by omega)
  show IntKind.i64.wrap ((BitVec.ofInt 64 (a : Int) &&& BitVec.ofInt 64 (b : Int)).toNat : Int) = _
  rw [BitVec.toNat_and, h1, h2, IntKind.wrap_i64]
  omega
theorem mkb_16 {B key k : Nat} (h : 1 ≤ B) (h2 : B ≤ 16) : mkb B key k < 65536 := Nat.lt_of_lt_of_le (mkb_lt h k) (pow_le16 h2)

set_option maxHeartbeats 2000000 in
theorem marks_any (B W key : Nat) (s : Int) (w : World) (hB : 1 ≤ B) (hB' : B ≤ 16) (hW : W ≤ 4) (hk : key ≤ 92) :
    Calls Try.prog 76 #[.agg #[.int .i64 (B : Int), .int .i64 (W : Int), .int .i64 s], .int .i64 (key : Int)] w fun e w' => e = .returned (.int .i64 ((mkb B key W : Nat) : Int)) ∧ Below w.heap.size w w' := by
  have hbA := (Below.refl w.heap.size w).alloc (Nat.le_refl _) (.cells #[.int .i64 (B : Int), .int .i64 (W : Int), .int .i64 s] 24)
  obtain ⟨T, hT⟩ : ∃ T, T = mkb B key W := ⟨_, rfl⟩
  rw [← hT]
  have HT := Lib.hid hT
  clear hT
  obtain ⟨q, hq⟩ : ∃ q, q = key / 31 := ⟨_, rfl⟩
  obtain ⟨r, hr⟩ : ∃ r, r = key % 31 := ⟨_, rfl⟩
  have e1 : (key : Int).tdiv 31 = (q : Int) := by rw [hq, Int.tdiv_eq_ediv_of_nonneg (by omega)]; omega
  have e2 : (key : Int).tmod 31 = (r : Int) := by rw [hr, Int.tmod_eq_emod_of_nonneg (by omega)]; omega
  have hq2 : q ≤ 2 := by omega
  have hr2 : r ≤ 30 := by omega
  have HQ := Lib.hid hq
  have HR := Lib.hid hr
  clear hq hr
  go_enter Try.func76, Try.ntmps76
  go_wp2
  go_loop [5, 6] (fun ov kv => ∃ k P : Nat, k ≤ W ∧ kv = .int .i64 (k : Int) ∧ ov = .int .i64 (P : Int) ∧ Hid (P = mkb B key k)) (fun _ kv => W - (intOf kv).toNat)
  case atStart => exact ⟨0, 0, by omega, rfl, rfl, rfl⟩
  case round =>
    obtain ⟨k, P, hkW, rfl, rfl, hP⟩ := hrel
    by_cases hlt : k < W
    · have hk1 : (k : Int) < (W : Int) := by omega
      have hP16 := mkb_16 (key := key) (k := k) hB hB'
      rw [← hP.out] at hP16
      obtain ⟨kk, hkk⟩ : ∃ kk, kk = k * k := ⟨_, rfl⟩
      have hkk9 : kk ≤ 9 := by rw [hkk]; exact Nat.mul_le_mul (show k ≤ 3 by omega) (show k ≤ 3 by omega)
      have e3 : IntKind.i64.wrap ((k : Int) * (k : Int)) = (kk : Int) := by
        rw [show (k : Int) * (k : Int) = (kk : Int) by rw [hkk, Int.natCast_mul]]; exact IntWalk.i64_in _ (by omega)
      have c := fun wx => hash_any ((k : Int) + 1) ((kk : Int) + (q : Int)) (B : Int) (r : Int) wx (by omega) (by omega) (by omega) (by omega) (by omega) (by omega) (by omega) (by omega)
      have hrg := hs_range (a := (k : Int) + 1) (b := (kk : Int) + (q : Int)) (m := (B : Int)) (k := (r : Int)) (by omega)
      obtain ⟨t, ht⟩ : ∃ t : Nat, (t : Int) = hs ((k : Int) + 1) ((kk : Int) + (q : Int)) B r := ⟨(hs ((k : Int) + 1) ((kk : Int) + (q : Int)) B r).toNat, by omega⟩
      have htb : t < B := by omega
      have hst : mkb B key (k + 1) = P ||| 2 ^ t := by
        rw [hP.out]
        show mkb B key k ||| 2 ^ wb B key k = _
        congr 2
        unfold wb
        have : (t : Int) = hs ((k : Int) + 1) ((k : Int) * (k : Int) + (key : Int) / 31) (B : Int) ((key : Int) % 31) := by
          rw [ht, HQ.out, HR.out, hkk, Int.natCast_mul]; rfl
        rw [← this]; rfl
      rw [← ht] at c
      have cp := fun wx => power_any t wx (by omega)
      have hp16 := pow_le16 (b := t) (by omega)
      obtain ⟨p, hp⟩ : ∃ p, p = 2 ^ t := ⟨_, rfl⟩
      rw [← hp] at cp hst hp16
      have hor := bits_or_i64_nat P p (by omega) (by omega)
      obtain ⟨O, hO⟩ : ∃ O, O = P ||| p := ⟨_, rfl⟩
      rw [← hO] at hor hst
      have HST := Lib.hid hst
      have C := Lib.hid c
      have CP := Lib.hid cp
      clear c cp hrg ht hp hO hst hkk
      go_wp2_with fail
      refine (C.out _).mono ?_
      rintro e w' ⟨rfl, rfl⟩
      go_wp2_with fail
      refine (CP.out _).mono ?_
      rintro e w' ⟨rfl, rfl⟩
      go_wp2
      go_round
      case rel => exact ⟨k + 1, O, by omega, by go_num, rfl, HST.out.symm⟩
      case measure => simp [intOf]; omega
    · obtain rfl : k = W := by omega
      go_wp2
      go_ret
      exact ⟨ret_int (by rw [hP.out, HT.out]), hbA⟩

theorem VSv_nats {b ww s : Int} (h : VSv b ww s = true) : ∃ B W S : Nat, b = B ∧ ww = W ∧ s = S ∧ 1 ≤ B ∧ B ≤ 16 ∧ 1 ≤ W ∧ W ≤ 4 ∧ S < 65536 := by
  have h' := VSv_iff.1 h
  have h2 := (VSv_nat h).2
  exact ⟨b.toNat, ww.toNat, s.toNat, by omega, by omega, by omega, by omega, by omega, by omega, by omega, by omega⟩
theorem MKn_nat (B W K : Nat) : MKn (B : Int) (W : Int) (K : Int) = mkb B K W := rfl

set_option maxHeartbeats 2000000 in
theorem specMarksOf_any (b ww s k : Int) (w : World) :
    Calls Try.prog 27 #[.agg #[.int .i64 b, .int .i64 ww, .int .i64 s], .int .i64 k] w fun e w' => e = .returned (.int .i64 (MKS b ww s k)) ∧ Below w.heap.size w w' := by
  have hbA := (Below.refl w.heap.size w).alloc (Nat.le_refl _) (.cells #[.int .i64 b, .int .i64 ww, .int .i64 s] 24)
  have x0 := SBox.new w b ww s
  have hz : w.heap.size < (w.alloc (.cells #[.int .i64 b, .int .i64 ww, .int .i64 s] 24)).heap.size := by simp
  have cv := fun wx => specvalidSieve_any b ww s wx
  have ck := fun wx => inRange_any k 0 92 wx
  have hK : inR k 0 92 = KM k := by rw [Bool.eq_iff_iff, inR_iff, KM_iff]
  rw [hK] at ck
  by_cases g1 : VSv b ww s = true
  · rw [g1] at cv
    by_cases g2 : KM k = true
    · obtain ⟨B, W, S, rfl, rfl, rfl, h1, h2, h3, h4, h5⟩ := VSv_nats g1
      have hk := KM_iff.1 g2
      obtain ⟨K, rfl⟩ : ∃ K : Nat, k = K := ⟨k.toNat, by omega⟩
      rw [g2] at ck
      have e : MKS (B : Int) W S K = ((mkb B K W : Nat) : Int) := by unfold MKS; rw [if_pos ⟨g1, g2⟩, MKn_nat]
      rw [e]
      have C1 := Lib.hid cv
      have C2 := Lib.hid ck
      clear cv ck hK g1 g2 e
      go_enter Try.func27, Try.ntmps27
      go_wp2_with fail
      refine (C1.out _).mono ?_
      rintro e w1 ⟨rfl, b1⟩
      have x1 := x0.belowAll b1
      have p0 := x1.c0
      have p1 := x1.c1
      have p2 := x1.c2
      have bA := hbA.trans (b1.mono (Nat.le_of_lt hz))
      have zA := bA.size
      clear x0 b1 hbA hz
      go_wp2_with fail
      refine (C2.out _).mono ?_
      rintro e w' ⟨rfl, rfl⟩
      go_wp2_with fail
      refine (marks_any B W K S _ h1 h2 h4 (by omega)).mono ?_
      rintro e w2 ⟨rfl, b2⟩
      go_wp2
      go_ret
      exact ⟨rfl, bA.trans (b2.mono zA)⟩
    · have e : MKS b ww s k = -1 := by unfold MKS; rw [if_neg (fun h => g2 h.2)]
      rw [e]
      rw [eq_false_of_ne_true g2] at ck
      have C1 := Lib.hid cv
      have C2 := Lib.hid ck
      clear cv ck hK g1 g2 e
      go_enter Try.func27, Try.ntmps27
      go_wp2_with fail
      refine (C1.out _).mono ?_
      rintro e w1 ⟨rfl, b1⟩
      have bA := hbA.trans (b1.mono (Nat.le_of_lt hz))
      go_wp2_with fail
      refine (C2.out _).mono ?_
      rintro e w' ⟨rfl, rfl⟩
      go_wp2
      go_ret
      exact ⟨rfl, bA⟩
  · have e : MKS b ww s k = -1 := by unfold MKS; rw [if_neg (fun h => g1 h.1)]
    rw [e]
    rw [eq_false_of_ne_true g1] at cv
    have C1 := Lib.hid cv
    clear cv ck hK g1 e
    go_enter Try.func27, Try.ntmps27
    go_wp2_with fail
    refine (C1.out _).mono ?_
    rintro e w1 ⟨rfl, b1⟩
    have bA := hbA.trans (b1.mono (Nat.le_of_lt hz))
    go_wp2
    go_ret
    exact ⟨rfl, bA⟩
end Go.Proofs.Ytjkcahmbocjacaa
