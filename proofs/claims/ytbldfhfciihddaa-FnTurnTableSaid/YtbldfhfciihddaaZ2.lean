/-
  impl.stepsTo, cmp.Compare, the comparison of ring.from.
-/
import Derived.Test.YtbldfhfciihddaaZ1
namespace Go.Proofs.Ytbldfhfciihddaa
open Go.RowKit

/-- Numbers as ints. -/
def nts (l : List Nat) : List Int := l.map fun x : Nat => (x : Int)
theorem nts_len (l : List Nat) : (nts l).length = l.length := by simp [nts]
theorem nts_get {l : List Nat} {i : Nat} (h : i < l.length) : (nts l).getD i 0 = ((l.getD i 0 : Nat) : Int) := by simp [nts, List.getD, h]
theorem nts_set (L : List Nat) (s x : Nat) : (nts L).set s (x : Int) = nts (L.set s x) := by simp [nts, List.map_set]

theorem stepsR_any (h p : Int) (h0 : 0 ≤ h) (h1 : h ≤ 63) (p0 : 0 ≤ p) (p1 : p ≤ 63) (w : World) :
    Calls Try.prog 93 #[.int .i64 64, .int .i64 h, .int .i64 p] w fun e w' => e = .returned (.int .i64 (offI 64 h p)) ∧ w = w' := by
  go_enter Try.func93, Try.ntmps93
  go_wp2
  go_ret
  exact ⟨rfl, rfl⟩

/-- cmp.Compare. -/
def cpi (x y : Int) : Int := if x < y then -1 else if y < x then 1 else 0
theorem cpi_lt {x y : Int} : cpi x y < 0 ↔ x < y := by
  unfold cpi; split
  · omega
  · split <;> omega
theorem cpi_gt {x y : Int} : 0 < cpi x y ↔ y < x := by
  unfold cpi; split
  · omega
  · split <;> omega
theorem isNaN_any (x : Int) (w : World) : Calls Try.prog 99 #[.int .i64 x] w fun e w' => e = .returned (.bool false) ∧ w = w' := by
  have hne : (x != x) = false := by simp
  go_enter Try.func99, Try.ntmps99
  go_wp2
  go_ret
  exact ⟨rfl, rfl⟩
theorem compare_any (x y : Int) (w : World) : Calls Try.prog 92 #[.int .i64 x, .int .i64 y] w fun e w' => e = .returned (.int .i64 (cpi x y)) ∧ w = w' := by
  have C := Lib.hid (fun z => isNaN_any z w)
  by_cases h1 : x < y
  · have e : cpi x y = -1 := by unfold cpi; rw [if_pos h1]
    rw [e]
    go_enter Try.func92, Try.ntmps92
    go_wp2_with fail
    refine (C.out _).mono ?_
    rintro e w2 ⟨rfl, rfl⟩
    go_wp2_with fail
    refine (C.out _).mono ?_
    rintro e w2 ⟨rfl, rfl⟩
    go_wp2
    go_ret
    exact ⟨rfl, rfl⟩
  · by_cases h2 : y < x
    · have e : cpi x y = 1 := by unfold cpi; rw [if_neg h1, if_pos h2]
      rw [e]
      go_enter Try.func92, Try.ntmps92
      go_wp2_with fail
      refine (C.out _).mono ?_
      rintro e w2 ⟨rfl, rfl⟩
      go_wp2_with fail
      refine (C.out _).mono ?_
      rintro e w2 ⟨rfl, rfl⟩
      go_wp2
      go_ret
      exact ⟨rfl, rfl⟩
    · have e : cpi x y = 0 := by unfold cpi; rw [if_neg h1, if_neg h2]
      rw [e]
      go_enter Try.func92, Try.ntmps92
      go_wp2_with fail
      refine (C.out _).mono ?_
      rintro e w2 ⟨rfl, rfl⟩
      go_wp2_with fail
      refine (C.out _).mono ?_
      rintro e w2 ⟨rfl, rfl⟩
      go_wp2
      go_ret
      exact ⟨rfl, rfl⟩

theorem quiet_l0 {P : Program} {f : FuncId} {args : Array Value} {w : World} {n : Nat} {v : Value}
    (h : Calls P f args (w.drewN n) fun e w' => e = .returned v ∧ w.drewN n = w') :
    Calls P f args (w.drewN n) fun e w'' => e = .returned v ∧ ∃ m, w'' = w.drewN m :=
  h.mono fun _ _ ⟨he, hm⟩ => ⟨he, n, hm.symm⟩

set_option maxHeartbeats 2000000 in
theorem from1_any (Bk Bp : Nat) (a : Option Addr) (l : List Int) (cap : Nat) (k : Int) (s1 s2 : Nat) (w : World) (hr : Reads w a l) (hk : w.cell? ⟨Bk, 0, none⟩ = some (.int .i64 k)) (hp : w.cell? ⟨Bp, 0, none⟩ = some (.slice a l.length cap))
    (hv : VR l = true) (k0 : 0 ≤ k) (k1 : k ≤ 63) (hs1 : s1 < l.length) (hs2 : s2 < l.length) :
    Calls Try.prog 91 #[.int .i64 (s1 : Int), .int .i64 (s2 : Int), .pointer (some ⟨Bk, 0, none⟩), .pointer (some ⟨Bp, 0, none⟩)] w fun e w' => e = .returned (.int .i64 (cpi (st l k s1) (st l k s2))) ∧ ∃ n, w' = w.drewN n := by
  obtain ⟨b, off, y1, rfl, hb, hc1, hy1⟩ := hr.get hs1
  obtain ⟨y2, hc2, hy2⟩ := hr.at_ hs2
  have r1 := VR_rng hv hs1
  have r2 := VR_rng hv hs2
  have e1 : st l k s1 = offI 64 k y1 := by unfold st; rw [hy1.out]
  have e2 : st l k s2 = offI 64 k y2 := by unfold st; rw [hy2.out]
  rw [hy1.out] at r1
  rw [hy2.out] at r2
  have c1 := fun wx => stepsR_any k y1 k0 k1 r1.1 r1.2 wx
  have c2 := fun wx => stepsR_any k y2 k0 k1 r2.1 r2.2 wx
  have c3 := fun wx => compare_any (offI 64 k y1) (offI 64 k y2) wx
  rw [e1, e2]
  obtain ⟨T1, hT1⟩ : ∃ T, T = offI 64 k y1 := ⟨_, rfl⟩
  obtain ⟨T2, hT2⟩ : ∃ T, T = offI 64 k y2 := ⟨_, rfl⟩
  obtain ⟨R, hR⟩ : ∃ R, R = cpi T1 T2 := ⟨_, rfl⟩
  rw [← hT1] at c1 c3 ⊢
  rw [← hT2] at c2 c3 ⊢
  rw [← hR] at c3 ⊢
  have D1 := Lib.hid (fun n => c1 (w.drewN n))
  have D2 := Lib.hid (fun n => c2 (w.drewN n))
  have D3 := Lib.hid (fun n => c3 (w.drewN n))
  have i1 : (s1 : Int) < (l.length : Int) := by omega
  have i2 : (s2 : Int) < (l.length : Int) := by omega
  clear c1 c2 c3 hT1 hT2 hR e1 e2 r1 r2 hv hy1 hy2
  go_enter Try.func91, Try.ntmps91
  go_wp2_with fail
  go_quiet ((with_reducible first | (go_at_call 92; exact quiet_l0 (D3.out _)) | (go_at_call 93; exact quiet_l0 (D1.out _)) | (go_at_call 93; exact quiet_l0 (D2.out _))))
  all_goals
    go_wp2
    go_ret
    exact ⟨rfl, _, rfl⟩
end Go.Proofs.Ytbldfhfciihddaa
