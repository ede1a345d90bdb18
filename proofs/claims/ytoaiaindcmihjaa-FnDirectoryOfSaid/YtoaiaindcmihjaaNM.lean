/-
  The law of DirectoryOf, from what impl's functions give.
-/
import Derived.Test.YtoaiaindcmihjaaNH
import Derived.Test.YtoaiaindcmihjaaNL
import Derived.Test.YtoaiaindcmihjaaLG
namespace Go.Proofs.Ytoaiaindcmihjaa
open Go.RowKit

def DirectoryGives : Prop := ∀ (a : Option Addr) (l : List Int) (cap : Nat) (m : Int) (w : World), Reads w a l → (∀ x ∈ l, In64 x) → In64 m → l.length ≤ 1048586 → l.length ≤ cap →
    Calls Try.prog 20 #[.slice a l.length cap, .int .i64 m] w fun e w' => ∃ v, e = .returned (.tuple #[.int .i64 (DRd l m), v]) ∧ Own w' w.heap.size v (DRl l m) ∧ Below w.heap.size w w'
set_option maxHeartbeats 16000000 in
set_option maxRecDepth 100000 in
theorem lawFnDirectoryOf_of (HD : DirectoryGives) (HI : BucketsGive) (a : Option Addr) (n cap : Nat) (w : World) (hB : Bytes w w.heap.size a n) (hn : n ≤ 9223372036854775807) (hc : n ≤ cap) :
    Calls Try.prog 4 #[.slice a n cap] w fun e w' => e = .returned (.bool true) ∧ Below w.heap.size w w' := by
  by_cases hbig : 1048576 < n
  · go_enter Try.func4, Try.ntmps4
    go_wp2
    go_ret
    exact ⟨rfl, Below.refl _ _⟩
  go_enter Try.func4, Try.ntmps4
  go_wp2_with fail
  refine (drawDirectoryOf_any a n cap w hB hn hc).mono ?_
  rintro e w1 ⟨v1, l, m, rfl, hm, o1, hl, hel, B1⟩
  obtain ⟨a1, c1, rfl, r1, hlc, _, _⟩ := o1.form
  have hi64 : ∀ x ∈ l, In64 x := fun x hx => by have := hel x hx; unfold In64; omega
  clear hB hn hc o1
  have ci := fun wx h => HI a1 l c1 m wx h hi64 (by unfold In64; omega) (by omega) hlc
  have cd := fun wx h => HD a1 l c1 m wx h hi64 (by unfold In64; omega) (by omega) hlc
  have cs := fun wx h => specDirectoryOf_any a1 l c1 m wx h (by omega) hlc
  by_cases hv : VNm l = true ∧ 1 ≤ m ∧ m ≤ 4
  rotate_left
  · have e1 : DRd l m = -1 := by unfold DRd; rw [if_neg hv]
    have e2 : DRl l m = [] := by unfold DRl; rw [if_neg hv]
    rw [e1, e2] at cd cs
    have CD := Lib.hid cd
    have CS := Lib.hid cs
    clear cd cs ci HI HD hv e1 e2 hi64 hel
    go_wp2_with fail
    refine (CD.out _ r1).mono ?_
    rintro e w2 ⟨v2, rfl, o2, b2⟩
    obtain ⟨a2, c2, rfl, r2, _, _, _⟩ := o2.form
    have r1b := r1.below b2
    have B2 := B1.trans (b2.mono B1.size)
    rw [show ([] : List Int).length = 0 from rfl]
    go_wp2_with fail
    refine (CS.out _ r1b).mono ?_
    rintro e w3 ⟨v3, rfl, o3, b3⟩
    obtain ⟨a3, c3, rfl, r3, _, _, _⟩ := o3.form
    have r2b := r2.below b3
    have B3 := B2.trans (b3.mono B2.size)
    have cE := fun wx (h : Reads wx a2 []) (h2 : Reads wx a3 []) => equalInts_any a2 a3 [] [] c2 c3 wx h h2 (by simp) (by simp)
    simp only [eqL_self] at cE
    have CE := Lib.hid cE
    rw [show ([] : List Int).length = 0 from rfl]
    clear b2 b3 B1 B2 r1 r1b o2 o3 r2 cE
    go_wp2_with fail
    refine (CE.out _ r2b r3).mono ?_
    rintro e w4 ⟨rfl, q4, rfl⟩
    have r2c := r2b.below (below_drewN (Below.refl _ _) q4)
    have r3c := r3.below (below_drewN (Below.refl _ _) q4)
    have B4 := below_drewN B3 q4
    clear r2b r3 B3
    revert r2c r3c B4
    generalize w3.drewN q4 = w4
    intro r2c r3c B4
    go_wp2_with fail
    refine (CE.out _ r2c r3c).mono ?_
    rintro e w5 ⟨rfl, q5, rfl⟩
    go_wp2
    go_ret
    exact ⟨rfl, below_drewN B4 q5⟩
  · obtain ⟨q, rfl⟩ : ∃ q : Nat, m = q := ⟨m.toNat, by omega⟩
    have e1 : DRd l (q : Int) = (dpt (spl l q 6 0 0) : Int) := by unfold DRd; rw [if_pos hv, Int.toNat_natCast]
    have e2 : DRl l (q : Int) = drs (spl l q 6 0 0) (2 ^ dpt (spl l q 6 0 0)) := by unfold DRl; rw [if_pos hv, Int.toNat_natCast]
    have e3 : BKs l (q : Int) = spl l q 6 0 0 := by unfold BKs; rw [if_pos hv, Int.toNat_natCast]
    rw [e1, e2] at cd cs
    rw [e3] at ci
    have hd6 := spl_dpt hv.1 (m := q) (by omega)
    have hlen := drs_len l q (2 ^ dpt (spl l q 6 0 0))
    have hlaw := fun x (hx : x ∈ l) => DR_law hv.1 (m := q) (by omega) hx
    have hbl := spl_len l q 6 0 0
    have hok := fun b (hb : b ∈ spl l q 6 0 0) => (spl_ok (VNm_iff.1 hv.1).2.2 (VNm_iff.1 hv.1).2.1 (show 1 ≤ q by omega) 6 0 0 rfl (by simp) b hb).2.2.2
    have hrng := (VNm_iff.1 hv.1).2.1
    obtain ⟨bs, hbs⟩ : ∃ bs, bs = spl l q 6 0 0 := ⟨_, rfl⟩
    rw [← hbs] at cd cs ci hd6 hlen hlaw hbl hok
    obtain ⟨D, hD⟩ : ∃ D, D = dpt bs := ⟨_, rfl⟩
    rw [← hD] at cd cs hd6 hlen hlaw
    have cp := fun wx => lawspow_any D wx (by omega)
    have hP0 := Nat.two_pow_pos D
    have hPs : 2 ^ D ≤ 2 ^ 6 := Nat.pow_le_pow_right (by omega) hd6
    obtain ⟨P, hP⟩ : ∃ P, P = 2 ^ D := ⟨_, rfl⟩
    rw [← hP] at cd cs cp hP0 hPs hlen hlaw
    obtain ⟨S, hS⟩ : ∃ S, S = drs bs P := ⟨_, rfl⟩
    rw [← hS] at cd cs hlen hlaw
    have hSP : S.length = P := hlen
    have CD := Lib.hid cd
    have CS := Lib.hid cs
    have CI := Lib.hid ci
    have CP := Lib.hid cp
    have HLAW := Lib.hid hlaw
    have HOK := Lib.hid hok
    have HRNG := Lib.hid hrng
    have HLEN := Lib.hid hlen
    have HSP := Lib.hid hSP
    have CE := Lib.hid (fun a1 a2 c1 c2 wx (h1 : Reads wx a1 S) (h2 : Reads wx a2 S) => equalInts_any a1 a2 S S c1 c2 wx h1 h2 (by omega) (by omega))
    have hDD : ((D : Int) != (D : Int)) = false := by simp
    have hD0 : ¬ (D : Int) < 0 := by omega
    have hD6 : (D : Int) ≤ 6 := by omega
    clear cd cs ci cp hlaw hok hrng hlen hP hS hD hbs e1 e2 e3 HI HD hv hel hi64 hSP
    go_wp2_with fail
    refine (CD.out _ r1).mono ?_
    rintro e w2 ⟨v2, rfl, o2, b2⟩
    obtain ⟨a2, c2, rfl, r2, _, _, _⟩ := o2.form
    have r1b := r1.below b2
    have B2 := B1.trans (b2.mono B1.size)
    clear b2 B1 o2 r1
    go_wp2_with fail
    refine (CS.out _ r1b).mono ?_
    rintro e w3 ⟨v3, rfl, o3, b3⟩
    obtain ⟨a3, c3, rfl, r3, _, _, _⟩ := o3.form
    have r1c := r1b.below b3
    have r2b := r2.below b3
    have B3 := B2.trans (b3.mono B2.size)
    have cE := CE.out a2 a3 c2 c3 w3 r2b r3
    rw [eqL_self] at cE
    clear b3 B2 r2 o3 r1b
    go_wp2_with fail
    refine cE.mono ?_
    rintro e w4 ⟨rfl, q4, rfl⟩
    have r1d := r1c.below (below_drewN (Below.refl _ _) q4)
    have r4 := r2b.below (below_drewN (Below.refl _ _) q4)
    have B4 := below_drewN B3 q4
    clear cE r1c r2b r3 B3 CE
    revert r1d r4 B4
    generalize w3.drewN q4 = w4
    intro r1d r4 B4
    go_wp2_with fail
    refine (CI.out _ r1d).mono ?_
    rintro e w5 ⟨v5, rfl, o5, b5⟩
    obtain ⟨a5, c5, rfl, _, _, r5⟩ := o5.form
    have r1e := r1d.below b5
    have r4e := r4.below b5
    have B5 := B4.trans (b5.mono B4.size)
    clear b5 B4 o5 r1d r4
    obtain ⟨M, hM⟩ : ∃ M, M = l.length := ⟨_, rfl⟩
    have HM := Lib.hid hM
    rw [← hM] at hl ⊢
    rw [HSP.out]
    clear hM
    go_wp2
    go_loopw [10] (fun iv wr => ∃ (i k : Nat), i ≤ M ∧ iv = .int .i64 (i : Int) ∧ wr = w5.drewN k) (fun iv _ => M - (intOf iv).toNat)
    case atStart => exact ⟨0, 0, by omega, rfl, rfl⟩
    case round =>
      obtain ⟨i, k, hi, rfl, rfl⟩ := hrel
      by_cases hlt : i < M
      · have hi1 : (i : Int) < (M : Int) := by omega
        obtain ⟨b1, f1, x, rfl, hb1, hcx, hx⟩ := r1e.get (k := i) (by have := HM.out; omega)
        have mx : x ∈ l := by rw [← hx.out]; exact getD_mem (by have := HM.out; omega)
        have hxr := HRNG.out x mx
        obtain ⟨j, g1, g2, g3⟩ := HLAW.out x mx
        obtain ⟨X, rfl⟩ : ∃ X : Nat, x = X := ⟨x.toNat, by omega⟩
        rw [Int.toNat_natCast] at g1
        obtain ⟨r, hr⟩ : ∃ r, r = X % P := ⟨_, rfl⟩
        rw [← hr] at g1
        have hrP : r < P := by rw [hr]; exact Nat.mod_lt _ hP0
        have hmod : ((X : Int)).tmod (P : Int) = (r : Int) := by rw [Int.tmod_eq_emod_of_nonneg (by omega)]; omega
        have hPz : ¬ P = 0 := by omega
        have hPi : ((P : Int) == 0) = false := by simp; omega
        have hr1 : (r : Int) < (P : Int) := by omega
        obtain ⟨b4, f4, y, rfl, hb4, hcy, hy⟩ := r4e.get (k := r) (by have := HLEN.out; omega)
        have hyj : y = (j : Int) := by rw [← hy.out]; exact g1
        subst hyj
        obtain ⟨b5, f5, A, C, rfl, hb5, _, _, hc2, hrA, hlA⟩ := r5.get g2
        have hle := HOK.out _ (bkt_mem g2)
        have hin : inL (bkt bs j).2.2 (X : Int) = true := inL_yes g3
        obtain ⟨L, hL⟩ : ∃ L, L = (bkt bs j).2.2 := ⟨_, rfl⟩
        rw [← hL] at hc2 hrA hlA hin hle
        have k4 := fun z => isIn_any A L C (X : Int) (w5.drewN z) (hrA.below (below_drewN (Below.refl _ _) z)) (by omega)
        simp only [hin] at k4
        have D4 := Lib.hid k4
        have hj1 : (j : Int) < (bs.length : Int) := by omega
        clear k4 hin hL hr hy hx mx g1 g3 hrA
        go_wp2_with fail
        go_quiet ((with_reducible first | (go_at_call 22; exact quiet_lf (D4.out _))))
        all_goals
          go_wp2
          go_roundw
          case rel => exact ⟨i + 1, _, by omega, by go_num, rfl⟩
          case measure => simp [intOf]; omega
      · obtain rfl : i = M := by omega
        have B6 := below_drewN B5 k
        have hPP : ((P : Int) == (P : Int)) = true := by simp
        go_wp2_with fail
        refine (CP.out _).mono ?_
        rintro e w' ⟨rfl, rfl⟩
        go_wp2
        go_ret
        exact ⟨rfl, B6⟩
end Go.Proofs.Ytoaiaindcmihjaa
