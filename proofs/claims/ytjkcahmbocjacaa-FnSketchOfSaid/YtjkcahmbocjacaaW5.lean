/-
  spec.power, spec.bit, laws.power, laws.bit, laws.weight, spec.validSieve, spec.ValidSieve.
-/
import Derived.Test.YtjkcahmbocjacaaF1
import Derived.Test.YtjkcahmbocjacaaV7
namespace Go.Proofs.Ytjkcahmbocjacaa
open Go.RowKit

theorem pow_small {n : Nat} (h : n ≤ 40) : 2 ^ n ≤ 1099511627776 := Nat.pow_le_pow_right (n := 2) (by omega) h
set_option maxHeartbeats 1000000 in
theorem power_any (n : Nat) (w : World) (hn : n ≤ 40) : Calls Try.prog 86 #[.int .i64 (n : Int)] w fun e w' => e = .returned (.int .i64 ((2 ^ n : Nat) : Int)) ∧ w = w' := by
  obtain ⟨T, hT⟩ : ∃ T, T = 2 ^ n := ⟨_, rfl⟩
  rw [← hT]
  have HT := Lib.hid hT
  clear hT
  go_enter Try.func86, Try.ntmps86
  go_wp2
  go_loop [0, 3] (fun nv ov => ∃ k P : Nat, k ≤ n ∧ nv = .int .i64 ((n : Int) - k) ∧ ov = .int .i64 (P : Int) ∧ Hid (P = 2 ^ k)) (fun nv _ => (intOf nv).toNat)
  case atStart => exact ⟨0, 1, by omega, by simp, rfl, rfl⟩
  case round =>
    obtain ⟨k, P, hk, rfl, rfl, hP⟩ := hrel
    have hs := pow_small (n := k) (by omega)
    rw [← hP.out] at hs
    by_cases hlt : k < n
    · have hg : (n : Int) - k > 0 := by omega
      have hp2 : Hid (2 * P = 2 ^ (k + 1)) := by show 2 * P = 2 ^ (k + 1); rw [hP.out, Nat.pow_succ]; omega
      go_wp2
      go_round
      case rel => exact ⟨k + 1, 2 * P, by omega, by go_num, by go_num, hp2⟩
      case measure => simp [intOf]; omega
    · obtain rfl : k = n := by omega
      have hg : ¬ (k : Int) - k > 0 := by omega
      go_wp2
      go_ret
      exact ⟨ret_int (by rw [hP.out, HT.out]), rfl⟩
set_option maxHeartbeats 1000000 in
theorem lawspower_any (n : Nat) (w : World) (hn : n ≤ 40) : Calls Try.prog 29 #[.int .i64 (n : Int)] w fun e w' => e = .returned (.int .i64 ((2 ^ n : Nat) : Int)) ∧ w = w' := by
  obtain ⟨T, hT⟩ : ∃ T, T = 2 ^ n := ⟨_, rfl⟩
  rw [← hT]
  have HT := Lib.hid hT
  clear hT
  go_enter Try.func29, Try.ntmps29
  go_wp2
  go_loop [0, 3] (fun nv ov => ∃ k P : Nat, k ≤ n ∧ nv = .int .i64 ((n : Int) - k) ∧ ov = .int .i64 (P : Int) ∧ Hid (P = 2 ^ k)) (fun nv _ => (intOf nv).toNat)
  case atStart => exact ⟨0, 1, by omega, by simp, rfl, rfl⟩
  case round =>
    obtain ⟨k, P, hk, rfl, rfl, hP⟩ := hrel
    have hs := pow_small (n := k) (by omega)
    rw [← hP.out] at hs
    by_cases hlt : k < n
    · have hg : (n : Int) - k > 0 := by omega
      have hp2 : Hid (2 * P = 2 ^ (k + 1)) := by show 2 * P = 2 ^ (k + 1); rw [hP.out, Nat.pow_succ]; omega
      go_wp2
      go_round
      case rel => exact ⟨k + 1, 2 * P, by omega, by go_num, by go_num, hp2⟩
      case measure => simp [intOf]; omega
    · obtain rfl : k = n := by omega
      have hg : ¬ (k : Int) - k > 0 := by omega
      go_wp2
      go_ret
      exact ⟨ret_int (by rw [hP.out, HT.out]), rfl⟩
/-- Bit j of a number. -/
def bt (x j : Nat) : Int := if x.testBit j = true then 1 else 0
theorem bt_eq (x j : Nat) : ((x / 2 ^ j % 2 : Nat) : Int) = bt x j := by
  unfold bt
  by_cases h : x.testBit j = true
  · rw [if_pos h, (bit_iff x j).2 h]; rfl
  · rw [if_neg h]
    have h1 : ¬ (x / 2 ^ j % 2 = 1) := fun e => h ((bit_iff x j).1 e)
    obtain ⟨q, hq⟩ : ∃ q, q = x / 2 ^ j := ⟨_, rfl⟩
    rw [← hq] at h1 ⊢
    omega
set_option maxHeartbeats 1000000 in
theorem bit_any (x j : Nat) (w : World) (hx : x ≤ 1000000) (hj : j ≤ 40) : Calls Try.prog 104 #[.int .i64 (x : Int), .int .i64 (j : Int)] w fun e w' => e = .returned (.int .i64 (bt x j)) ∧ w = w' := by
  have c := power_any j w hj
  have hs := pow_small hj
  have hp := Nat.two_pow_pos j
  have hb := bt_eq x j
  obtain ⟨P, hP⟩ : ∃ P, P = 2 ^ j := ⟨_, rfl⟩
  rw [← hP] at c hs hp hb
  have hP0 : ¬ P = 0 := by omega
  have hPi : ((P : Int) == 0) = false := by simp; omega
  obtain ⟨q, hq⟩ : ∃ q, q = x / P := ⟨_, rfl⟩
  have e1 : (x : Int).tdiv P = (q : Int) := by rw [hq, Int.tdiv_eq_ediv_of_nonneg (by omega), Int.natCast_ediv]
  have hqx : q ≤ x := by rw [hq]; exact Nat.div_le_self _ _
  obtain ⟨r, hr⟩ : ∃ r, r = q % 2 := ⟨_, rfl⟩
  have e2 : (q : Int).tmod 2 = (r : Int) := by rw [hr, Int.tmod_eq_emod_of_nonneg (by omega)]; omega
  rw [← hq, ← hr] at hb
  rw [← hb]
  have C := Lib.hid c
  clear c hq hr hP hb
  go_enter Try.func104, Try.ntmps104
  go_wp2_with fail
  refine C.out.mono ?_
  rintro e w' ⟨rfl, rfl⟩
  go_wp2
  go_ret
  exact ⟨rfl, rfl⟩
set_option maxHeartbeats 1000000 in
theorem lawsbit_any (x j : Nat) (w : World) (hx : x ≤ 1000000) (hj : j ≤ 40) : Calls Try.prog 51 #[.int .i64 (x : Int), .int .i64 (j : Int)] w fun e w' => e = .returned (.int .i64 (bt x j)) ∧ w = w' := by
  have c := lawspower_any j w hj
  have hs := pow_small hj
  have hp := Nat.two_pow_pos j
  have hb := bt_eq x j
  obtain ⟨P, hP⟩ : ∃ P, P = 2 ^ j := ⟨_, rfl⟩
  rw [← hP] at c hs hp hb
  have hP0 : ¬ P = 0 := by omega
  have hPi : ((P : Int) == 0) = false := by simp; omega
  obtain ⟨q, hq⟩ : ∃ q, q = x / P := ⟨_, rfl⟩
  have e1 : (x : Int).tdiv P = (q : Int) := by rw [hq, Int.tdiv_eq_ediv_of_nonneg (by omega), Int.natCast_ediv]
  have hqx : q ≤ x := by rw [hq]; exact Nat.div_le_self _ _
  obtain ⟨r, hr⟩ : ∃ r, r = q % 2 := ⟨_, rfl⟩
  have e2 : (q : Int).tmod 2 = (r : Int) := by rw [hr, Int.tmod_eq_emod_of_nonneg (by omega)]; omega
  rw [← hq, ← hr] at hb
  rw [← hb]
  have C := Lib.hid c
  clear c hq hr hP hb
  go_enter Try.func51, Try.ntmps51
  go_wp2_with fail
  refine C.out.mono ?_
  rintro e w' ⟨rfl, rfl⟩
  go_wp2
  go_ret
  exact ⟨rfl, rfl⟩
theorem wgt_le (x : Nat) : wgt x ≤ x := by
  induction x using Nat.strongRecOn with
  | _ x ih =>
    by_cases h : x = 0
    · subst h; simp [wgt_zero]
    · rw [wgt_step h]
      have := ih (x / 2) (by omega)
      omega
set_option maxHeartbeats 1000000 in
theorem weight_any (x : Nat) (w : World) (hx : x ≤ 1000000) : Calls Try.prog 28 #[.int .i64 (x : Int)] w fun e w' => e = .returned (.int .i64 ((wgt x : Nat) : Int)) ∧ w = w' := by
  have hwx := wgt_le x
  obtain ⟨T, hT⟩ : ∃ T, T = wgt x := ⟨_, rfl⟩
  rw [← hT] at hwx ⊢
  go_enter Try.func28, Try.ntmps28
  go_wp2
  go_loop [0, 3] (fun xv nv => ∃ y m : Nat, y ≤ x ∧ xv = .int .i64 (y : Int) ∧ nv = .int .i64 (m : Int) ∧ Hid (m + wgt y = T)) (fun xv _ => (intOf xv).toNat)
  case atStart => exact ⟨x, 0, by omega, rfl, rfl, by show 0 + wgt x = T; omega⟩
  case round =>
    obtain ⟨y, m, hy, rfl, rfl, hm⟩ := hrel
    have hmT : m ≤ T := by have := hm.out; omega
    by_cases h0 : 0 < y
    · have hg : (y : Int) > 0 := by omega
      have hst := wgt_step (x := y) (by omega)
      obtain ⟨q, hq⟩ : ∃ q, q = y / 2 := ⟨_, rfl⟩
      obtain ⟨r, hr⟩ : ∃ r, r = y % 2 := ⟨_, rfl⟩
      have e1 : (y : Int).tdiv 2 = (q : Int) := by rw [hq, Int.tdiv_eq_ediv_of_nonneg (by omega)]; omega
      have e2 : (y : Int).tmod 2 = (r : Int) := by rw [hr, Int.tmod_eq_emod_of_nonneg (by omega)]; omega
      rw [← hq, ← hr] at hst
      have hM : Hid (m + r + wgt q = T) := by show m + r + wgt q = T; have := hm.out; omega
      have hr1 : r ≤ 1 := by omega
      have hqy : q < y := by omega
      clear hq hr hst
      go_wp2
      go_round
      case rel => exact ⟨q, m + r, by omega, rfl, by go_num, hM⟩
      case measure => simp [intOf]; omega
    · obtain rfl : y = 0 := by omega
      have hg : ¬ ((0 : Nat) : Int) > 0 := by omega
      go_wp2
      go_ret
      exact ⟨ret_int (by have := hm.out; rw [wgt_zero] at this; omega), rfl⟩

/-- Block g is a sieve's box. -/
def SBox (w : World) (g : Nat) (b ww s : Int) : Prop := w.heap[g]? = some (.cells #[.int .i64 b, .int .i64 ww, .int .i64 s] 24 (0, 0))
section
variable {w : World} {g : Nat} {b ww s : Int}
theorem SBox.lt (h : SBox w g b ww s) : g < w.heap.size := (Array.getElem?_eq_some_iff.1 h).1
theorem SBox.c0 (h : SBox w g b ww s) : w.cell? ⟨g, 0, none⟩ = some (.int .i64 b) := by rw [cell_of_row w g 0 _ _ _ h]; rfl
theorem SBox.c1 (h : SBox w g b ww s) : w.cell? ⟨g, 1, none⟩ = some (.int .i64 ww) := by rw [cell_of_row w g 1 _ _ _ h]; rfl
theorem SBox.c2 (h : SBox w g b ww s) : w.cell? ⟨g, 2, none⟩ = some (.int .i64 s) := by rw [cell_of_row w g 2 _ _ _ h]; rfl
theorem SBox.fz (h : SBox w g b ww s) (k : Nat) : w.frozen? ⟨g, k, none⟩ = false := frozen_of_row w g k _ _ h
theorem SBox.below {w' : World} {B : Nat} (h : SBox w g b ww s) (hb : Below B w w') (hg : g < B) : SBox w' g b ww s := (hb.block g hg).trans h
theorem SBox.belowAll {w' : World} (h : SBox w g b ww s) (hb : Below w.heap.size w w') : SBox w' g b ww s := h.below hb h.lt
theorem SBox.new (w : World) (b ww s : Int) : SBox (w.alloc (.cells #[.int .i64 b, .int .i64 ww, .int .i64 s] 24)) w.heap.size b ww s := heap_alloc_new w _
theorem SBox.alloc (h : SBox w g b ww s) (o : Obj) : SBox (w.alloc o) g b ww s := (Below.heap_alloc _ _ g h.lt).trans h
end
theorem quiet_v {P : Program} {f : FuncId} {args : Array Value} {w : World} {n : Nat} {v : Value}
    (h : Calls P f args (w.drewN n) fun e w' => e = .returned v ∧ w.drewN n = w') : Calls P f args (w.drewN n) fun e w'' => e = .returned v ∧ ∃ m, w'' = w.drewN m :=
  h.mono fun _ _ ⟨he, hm⟩ => ⟨he, n, hm.symm⟩
theorem inR_eq (n lo hi : Int) : inR n lo hi = decide (lo ≤ n ∧ n ≤ hi) := by
  rw [Bool.eq_iff_iff, inR_iff, decide_eq_true_eq]

set_option maxHeartbeats 2000000 in
theorem specvalidSieve_any (b ww s : Int) (w : World) : Calls Try.prog 71 #[.agg #[.int .i64 b, .int .i64 ww, .int .i64 s]] w fun e w' => e = .returned (.bool (VSv b ww s)) ∧ Below w.heap.size w w' := by
  have hbA := (Below.refl w.heap.size w).alloc (Nat.le_refl _) (.cells #[.int .i64 b, .int .i64 ww, .int .i64 s] 24)
  obtain ⟨R, hR⟩ : ∃ R, R = VSv b ww s := ⟨_, rfl⟩
  rw [← hR]
  have c1 := fun wx => inRange_any b 1 16 wx
  have c2 := fun wx => inRange_any ww 1 4 wx
  by_cases g1 : inR b 1 16 = true
  · have g1' := inR_iff.1 g1
    by_cases g2 : inR ww 1 4 = true
    · have g2' := inR_iff.1 g2
      have cp := fun wx => power_any b.toNat wx (by omega)
      rw [show ((b.toNat : Nat) : Int) = b by omega] at cp
      have hps := pow_small (n := b.toNat) (by omega)
      have hR2 : R = inR s 0 (((2 ^ b.toNat : Nat) : Int) - 1) := by
        rw [hR, Bool.eq_iff_iff, VSv_iff, inR_iff]; omega
      obtain ⟨p, hp⟩ : ∃ p, p = 2 ^ b.toNat := ⟨_, rfl⟩
      rw [← hp] at cp hps hR2
      have c3 := fun wx => inRange_any s 0 ((p : Int) - 1) wx
      rw [← hR2] at c3
      rw [g1] at c1
      rw [g2] at c2
      have D1 := Lib.hid (fun (wx : World) n => c1 (wx.drewN n))
      have D2 := Lib.hid (fun (wx : World) n => c2 (wx.drewN n))
      have D3 := Lib.hid (fun (wx : World) n => c3 (wx.drewN n))
      have D4 := Lib.hid (fun (wx : World) n => cp (wx.drewN n))
      clear c1 c2 c3 cp hR hR2 hp g1 g2
      go_enter Try.func71, Try.ntmps71
      go_wp2_with fail
      go_quiet (with_reducible first | (go_at_call 75; exact quiet_v (D1.out _ _)) | (go_at_call 75; exact quiet_v (D2.out _ _)) | (go_at_call 75; exact quiet_v (D3.out _ _)) | (go_at_call 86; exact quiet_v (D4.out _ _)))
      all_goals
        go_wp2
        go_ret
        exact ⟨rfl, below_drewN hbA _⟩
    · have hR2 : R = false := by
        rw [hR]; exact VSv_false (fun h => g2 (inR_iff.2 h.2.1))
      rw [g1] at c1
      rw [show inR ww 1 4 = false from eq_false_of_ne_true g2] at c2
      have D1 := Lib.hid (fun (wx : World) n => c1 (wx.drewN n))
      have D2 := Lib.hid (fun (wx : World) n => c2 (wx.drewN n))
      subst hR2
      clear c1 c2 hR g1 g2
      go_enter Try.func71, Try.ntmps71
      go_wp2_with fail
      go_quiet (with_reducible first | (go_at_call 75; exact quiet_v (D1.out _ _)) | (go_at_call 75; exact quiet_v (D2.out _ _)))
      all_goals
        go_wp2
        go_ret
        exact ⟨rfl, below_drewN hbA _⟩
  · have hR2 : R = false := by
      rw [hR]; exact VSv_false (fun h => g1 (inR_iff.2 h.1))
    rw [show inR b 1 16 = false from eq_false_of_ne_true g1] at c1
    have D1 := Lib.hid (fun (wx : World) n => c1 (wx.drewN n))
    subst hR2
    clear c1 c2 hR g1
    go_enter Try.func71, Try.ntmps71
    go_wp2_with fail
    go_quiet (with_reducible first | (go_at_call 75; exact quiet_v (D1.out _ _)))
    all_goals
      go_wp2
      go_ret
      exact ⟨rfl, below_drewN hbA _⟩
set_option maxHeartbeats 1000000 in
theorem specValidSieve_any (b ww s : Int) (w : World) : Calls Try.prog 23 #[.agg #[.int .i64 b, .int .i64 ww, .int .i64 s]] w fun e w' => e = .returned (.bool (VSv b ww s)) ∧ Below w.heap.size w w' := by
  have hbA := (Below.refl w.heap.size w).alloc (Nat.le_refl _) (.cells #[.int .i64 b, .int .i64 ww, .int .i64 s] 24)
  have hz := hbA.size
  go_enter Try.func23, Try.ntmps23
  go_wp2_with fail
  refine (specvalidSieve_any b ww s _).mono ?_
  rintro e w1 ⟨rfl, b1⟩
  go_wp2
  go_ret
  exact ⟨rfl, hbA.trans (b1.mono hz)⟩
end Go.Proofs.Ytjkcahmbocjacaa
