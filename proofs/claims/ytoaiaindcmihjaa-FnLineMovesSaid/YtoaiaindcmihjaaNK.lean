/-
  The law of LineMoves, from what impl's functions give.
-/
import Derived.Test.YtoaiaindcmihjaaNJ
namespace Go.Proofs.Ytoaiaindcmihjaa
open Go.RowKit

def LineOfQ : Prop := ∀ (c x : Int) (w : World), In64 c → In64 x → Calls Try.prog 24 #[.int .i64 c, .int .i64 x] w fun e w' => e = .returned (.int .i64 (LNO c x)) ∧ ∃ n, w' = w.drewN n
set_option maxHeartbeats 8000000 in
set_option maxRecDepth 100000 in
theorem lawFnLineMoves_of (HL : LineOfQ) (HI : LineMovesGives) (a : Option Addr) (n cap : Nat) (w : World) (hB : Bytes w w.heap.size a n) (hn : n ≤ 9223372036854775807) (hc : n ≤ cap) :
    Calls Try.prog 6 #[.slice a n cap] w fun e w' => e = .returned (.bool true) ∧ Below w.heap.size w w' := by
  by_cases hbig : 1048576 < n
  · go_enter Try.func6, Try.ntmps6
    go_wp2
    go_ret
    exact ⟨rfl, Below.refl _ _⟩
  go_enter Try.func6, Try.ntmps6
  go_wp2_with fail
  refine (drawLineMoves_any a n cap w hB hn hc).mono ?_
  rintro e w1 ⟨c, v1, l, rfl, hc1, o1, hl, hel, B1⟩
  obtain ⟨a1, c1, rfl, r1, hlc, _, _⟩ := o1.form
  have hi64 : ∀ x ∈ l, In64 x := fun x hx => by have := hel x hx; unfold In64; omega
  clear hB hn hc o1
  have ci := fun wx h => HI c a1 l c1 wx (by unfold In64; omega) h hi64 (by omega) hlc
  have cs := fun wx h => specLineMoves_any c a1 l c1 wx h (by omega) hlc
  have hml := LMV_len c l
  have hlaw := fun (h : VLm c l) (x : Int) hx => LMV_law h (x := x) hx
  have hnil := fun (h : ¬ VLm c l) => show LMV c l = [] by unfold LMV; rw [if_neg h]
  obtain ⟨R, hR⟩ : ∃ R, R = LMV c l := ⟨_, rfl⟩
  rw [← hR] at ci cs hml hlaw hnil
  have CI := Lib.hid ci
  have CS := Lib.hid cs
  have HLAW := Lib.hid hlaw
  have HNIL := Lib.hid hnil
  have CL := Lib.hid HL
  have CE := Lib.hid (fun a1 a2 c1 c2 wx (h1 : Reads wx a1 R) (h2 : Reads wx a2 R) => equalInts_any a1 a2 R R c1 c2 wx h1 h2 (by omega) (by omega))
  clear ci cs hlaw hnil hR HI HL hel hi64
  go_wp2_with fail
  refine (CI.out _ r1).mono ?_
  rintro e w2 ⟨v2, rfl, o2, b2⟩
  obtain ⟨a2, c2, rfl, r2, _, _, _⟩ := o2.form
  have r1b := r1.below b2
  have B2 := B1.trans (b2.mono B1.size)
  clear b2 B1 o2 r1
  go_wp2_with fail
  refine (CS.out _ r1b).mono ?_
  rintro e w3 ⟨v3, rfl, o3, b3⟩
  obtain ⟨a3, c3, rfl, r3, _, _, _⟩ := o3.form
  have r1c := r1b.below b3
  have r2b := r2.below b3
  have B3 := B2.trans (b3.mono B2.size)
  have cE := CE.out a2 a3 c2 c3 w3 r2b r3
  rw [eqL_self] at cE
  clear b3 B2 r2 o3 r1b
  go_wp2_with fail
  refine cE.mono ?_
  rintro e w4 ⟨rfl, q4, rfl⟩
  have r1d := r1c.below (below_drewN (Below.refl _ _) q4)
  have r4 := r2b.below (below_drewN (Below.refl _ _) q4)
  have B4 := below_drewN B3 q4
  clear cE r1c r2b r3 B3
  obtain ⟨w4, e4⟩ : ∃ w4, w4 = w3.drewN q4 := ⟨_, rfl⟩
  rw [← e4] at r1d r4 B4
  have E4 := Lib.hid e4
  rw [← e4]
  clear e4
  by_cases h0 : R.length = 0
  · obtain rfl : R = [] := List.eq_nil_of_length_eq_zero h0
    clear h0 hml
    rw [show ([] : List Int).length = 0 from rfl]
    go_wp2_with fail
    refine (CS.out _ r1d).mono ?_
    rintro e w5 ⟨v5, rfl, o5, b5⟩
    obtain ⟨a5, c5, rfl, r5, _, _, _⟩ := o5.form
    have B5 := B4.trans (b5.mono B4.size)
    have r4b := r4.below b5
    have cE := CE.out a2 a5 c2 c5 w5 r4b r5
    rw [eqL_self] at cE
    go_wp2_with fail
    refine cE.mono ?_
    rintro e w6 ⟨rfl, q6, rfl⟩
    go_wp2
    go_ret
    exact ⟨rfl, below_drewN B5 q6⟩
  · have hz : ((R.length : Int) == 0) = false := by
      rw [beq_eq_false_iff_ne]; omega
    have hv : VLm c l := Classical.byContradiction fun h => h0 (by rw [HNIL.out h]; rfl)
    have hvc := hv.1
    have HV := Lib.hid hv
    have hRl : (0 : Int) < (R.length : Int) := by omega
    have e1 : IntKind.i64.wrap (c + 1) = c + 1 := IntWalk.i64_in _ (by omega)
    clear h0 HNIL CE CS CI
    obtain ⟨M, hM⟩ : ∃ M, M = R.length := ⟨_, rfl⟩
    have HM := Lib.hid hM
    rw [← hM] at hz hml hRl
    have eM : (R.length : Int) = (M : Int) := by rw [hM]
    obtain ⟨b, off, y0, rfl, hb, hc0, hy0⟩ := r4.get (k := 0) (by omega)
    rw [Nat.add_zero] at hc0
    have m0 : y0 ∈ R := by rw [← hy0.out]; exact getD_mem (by omega)
    obtain ⟨p1, _, p3, p4⟩ := HLAW.out hv y0 m0
    have k2 := fun wx => CL.out c y0 wx (by unfold In64; omega) (by unfold In64; omega)
    rw [p1] at k2
    obtain ⟨P, hP⟩ : ∃ P : Int, P = ((c.toNat % 2 ^ lvc c.toNat : Nat) : Int) := ⟨_, rfl⟩
    rw [← hP] at k2
    have D2 := Lib.hid (fun q => k2 (w4.drewN q))
    have HP := Lib.hid hP
    have HY0 := Lib.hid hy0
    clear k2 p1 p3 p4 hP m0 hM
    rw [← HM.out]
    go_wp2
    go_loopw [6] (fun iv wr => ∃ (i m : Nat), i ≤ M ∧ iv = .int .i64 (i : Int) ∧ wr = w4.drewN m) (fun iv _ => M - (intOf iv).toNat)
    case atStart => exact ⟨0, 0, by omega, rfl, rfl⟩
    case round =>
      obtain ⟨i, m, hi, rfl, rfl⟩ := hrel
      by_cases hlt : i < M
      · have hi1 : (i : Int) < (M : Int) := by omega
        obtain ⟨b', off', y, eb, _, hci, hy⟩ := r4.get (k := i) (by have := HM.out; omega)
        injection eb with eb
        injection eb with eb eo _
        subst eb
        subst eo
        have mi : y ∈ R := by rw [← hy.out]; exact getD_mem (by have := HM.out; omega)
        obtain ⟨p1, p2, p3, p4⟩ := HLAW.out HV.out y mi
        have k1 := fun wx => CL.out c y wx (by unfold In64; omega) (by unfold In64; omega)
        have k3 := fun wx => CL.out (c + 1) y wx (by unfold In64; omega) (by unfold In64; omega)
        rw [p1, ← HP.out] at k1
        rw [p2] at k3
        have k4 := fun q => isIn_any a1 l c1 y (w4.drewN q) (r1d.below (below_drewN (Below.refl _ _) q)) (by omega)
        simp only [inL_yes p3] at k4
        have D1 := Lib.hid (fun q => k1 (w4.drewN q))
        have D3 := Lib.hid (fun q => k3 (w4.drewN q))
        have D4 := Lib.hid k4
        have hPP : (P != P) = false := by simp
        have hcc : (c != c) = false := by simp
        clear k1 k3 k4 p1 p2 p3 p4 mi hy
        go_wp2_with fail
        go_quiet ((with_reducible first | (go_at_call 24; first | exact quiet_ldN (D1.out _) | exact quiet_ldN (D2.out _) | exact quiet_ldN (D3.out _)) | (go_at_call 22; exact quiet_lf (D4.out _))))
        all_goals
          go_wp2
          go_roundw
          case rel => exact ⟨i + 1, _, by omega, by go_num, rfl⟩
          case measure => simp [intOf]; omega
      · obtain rfl : i = M := by omega
        have hle : (i : Int) ≤ (l.length : Int) := by omega
        go_wp2
        go_ret
        exact ⟨ret_bool (by simp), below_drewN B4 _⟩
end Go.Proofs.Ytoaiaindcmihjaa
