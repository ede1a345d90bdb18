/-
  The draws of sieves.
-/
import Derived.Test.YtjkcahmbocjacaaDE
namespace Go.Proofs.Ytjkcahmbocjacaa
open Go.RowKit

set_option maxHeartbeats 8000000 in
theorem drawValidSieve_any (a : Option Addr) (n cap : Nat) (w : World) (hB : Bytes w w.heap.size a n) (hn : n ≤ 9223372036854775807) (hc : n ≤ cap) :
    Calls Try.prog 21 #[.slice a n cap] w fun e w' => ∃ b ww s : Int, e = .returned (.agg #[.int .i64 b, .int .i64 ww, .int .i64 s]) ∧ SvIn b ww s ∧ Below w.heap.size w w' := by
  have B0 := (Below.refl w.heap.size w).alloc (Nat.le_refl _) (.cells #[.int .i64 0, .int .i64 0, .int .i64 0] 24)
  have r0 := SBox.new w 0 0 0
  have hB0 : Bytes (w.alloc (.cells #[.int .i64 0, .int .i64 0, .int .i64 0] 24)) (w.alloc (.cells #[.int .i64 0, .int .i64 0, .int .i64 0] 24)).heap.size a n :=
    (hB.of_block (fun k hk => Below.heap_alloc w _ k hk)).le (by rw [World.size_alloc]; omega)
  obtain ⟨w0, e0⟩ : ∃ w0, w0 = w.alloc (.cells #[.int .i64 0, .int .i64 0, .int .i64 0] 24) := ⟨_, rfl⟩
  have z0 : w0.heap.size = w.heap.size + 1 := by rw [e0]; simp
  rw [← e0] at B0 r0 hB0
  have E0 := Lib.hid e0
  clear e0 hB
  go_enter Try.func21, Try.ntmps21
  go_wp2_with fail
  rw [← E0.out]
  refine (newReader_any a n cap w0 hB0 hn hc).mono ?_
  rintro e w1 ⟨rfl, R1, b1, s1⟩
  rw [z0] at R1 s1
  have r1 := r0.belowAll b1
  have B1 := B0.trans (b1.mono (by omega))
  have hs1 := r1.lt
  clear r0 b1 hB0
  go_wp2_with fail
  refine (someSieve_any (w.heap.size + 1) 0 w1 R1 (by omega)).mono ?_
  rintro e w2 ⟨b, ww, s, q, rfl, hin, R2, hq, hg2⟩
  have r2 := r1.kept hg2 (by simp)
  have B2 := B1.grown hg2 B1.size (fun k hk => by cases hk; exact Nat.le_succ _)
  have d0 := r2.c0
  have d1 := r2.c1
  have d2 := r2.c2
  have f0 := r2.fz 0
  have f1 := r2.fz 1
  have f2 := r2.fz 2
  go_wp2
  exact ret_sv1 rfl rfl w.heap.size rfl _ _ _ r2.put ⟨_, _, _, rfl, hin, below_putS B2 (Nat.le_refl _) _ _ _⟩

set_option maxHeartbeats 8000000 in
theorem drawHowMany_any (a : Option Addr) (n cap : Nat) (w : World) (hB : Bytes w w.heap.size a n) (hn : n ≤ 9223372036854775807) (hc : n ≤ cap) :
    Calls Try.prog 36 #[.slice a n cap] w fun e w' => ∃ b ww s : Int, e = .returned (.agg #[.int .i64 b, .int .i64 ww, .int .i64 s]) ∧ SvIn b ww s ∧ Below w.heap.size w w' := by
  have B0 := (Below.refl w.heap.size w).alloc (Nat.le_refl _) (.cells #[.int .i64 0, .int .i64 0, .int .i64 0] 24)
  have r0 := SBox.new w 0 0 0
  have hB0 : Bytes (w.alloc (.cells #[.int .i64 0, .int .i64 0, .int .i64 0] 24)) (w.alloc (.cells #[.int .i64 0, .int .i64 0, .int .i64 0] 24)).heap.size a n :=
    (hB.of_block (fun k hk => Below.heap_alloc w _ k hk)).le (by rw [World.size_alloc]; omega)
  obtain ⟨w0, e0⟩ : ∃ w0, w0 = w.alloc (.cells #[.int .i64 0, .int .i64 0, .int .i64 0] 24) := ⟨_, rfl⟩
  have z0 : w0.heap.size = w.heap.size + 1 := by rw [e0]; simp
  rw [← e0] at B0 r0 hB0
  have E0 := Lib.hid e0
  clear e0 hB
  go_enter Try.func36, Try.ntmps36
  go_wp2_with fail
  rw [← E0.out]
  refine (newReader_any a n cap w0 hB0 hn hc).mono ?_
  rintro e w1 ⟨rfl, R1, b1, s1⟩
  rw [z0] at R1 s1
  have r1 := r0.belowAll b1
  have B1 := B0.trans (b1.mono (by omega))
  have hs1 := r1.lt
  clear r0 b1 hB0
  go_wp2_with fail
  refine (someSieve_any (w.heap.size + 1) 0 w1 R1 (by omega)).mono ?_
  rintro e w2 ⟨b, ww, s, q, rfl, hin, R2, hq, hg2⟩
  have r2 := r1.kept hg2 (by simp)
  have B2 := B1.grown hg2 B1.size (fun k hk => by cases hk; exact Nat.le_succ _)
  have d0 := r2.c0
  have d1 := r2.c1
  have d2 := r2.c2
  have f0 := r2.fz 0
  have f1 := r2.fz 1
  have f2 := r2.fz 2
  go_wp2
  exact ret_sv1 rfl rfl w.heap.size rfl _ _ _ r2.put ⟨_, _, _, rfl, hin, below_putS B2 (Nat.le_refl _) _ _ _⟩

set_option maxHeartbeats 8000000 in
theorem drawMarksOf_any (a : Option Addr) (n cap : Nat) (w : World) (hB : Bytes w w.heap.size a n) (hn : n ≤ 9223372036854775807) (hc : n ≤ cap) :
    Calls Try.prog 25 #[.slice a n cap] w fun e w' => ∃ b ww s k : Int, e = .returned (.tuple #[.agg #[.int .i64 b, .int .i64 ww, .int .i64 s], .int .i64 k]) ∧ SvIn b ww s ∧ (-1 ≤ k ∧ k ≤ 93) ∧ Below w.heap.size w w' := by
  have B0 := (Below.refl w.heap.size w).alloc (Nat.le_refl _) (.cells #[.int .i64 0, .int .i64 0, .int .i64 0] 24)
  have r0 := SBox.new w 0 0 0
  have hB0 : Bytes (w.alloc (.cells #[.int .i64 0, .int .i64 0, .int .i64 0] 24)) (w.alloc (.cells #[.int .i64 0, .int .i64 0, .int .i64 0] 24)).heap.size a n :=
    (hB.of_block (fun k hk => Below.heap_alloc w _ k hk)).le (by rw [World.size_alloc]; omega)
  obtain ⟨w0, e0⟩ : ∃ w0, w0 = w.alloc (.cells #[.int .i64 0, .int .i64 0, .int .i64 0] 24) := ⟨_, rfl⟩
  have z0 : w0.heap.size = w.heap.size + 1 := by rw [e0]; simp
  rw [← e0] at B0 r0 hB0
  have E0 := Lib.hid e0
  clear e0 hB
  go_enter Try.func25, Try.ntmps25
  go_wp2_with fail
  rw [← E0.out]
  refine (newReader_any a n cap w0 hB0 hn hc).mono ?_
  rintro e w1 ⟨rfl, R1, b1, s1⟩
  rw [z0] at R1 s1
  have r1 := r0.belowAll b1
  have B1 := B0.trans (b1.mono (by omega))
  have hs1 := r1.lt
  clear r0 b1 hB0
  go_wp2_with fail
  refine (someSieve_any (w.heap.size + 1) 0 w1 R1 (by omega)).mono ?_
  rintro e w2 ⟨b, ww, s, q, rfl, hin, R2, hq, hg2⟩
  have r2 := r1.kept hg2 (by simp)
  have B2 := B1.grown hg2 B1.size (fun k hk => by cases hk; exact Nat.le_succ _)
  have z2 := R2.lt
  clear R1 r1 hg2
  go_wp2_with fail
  refine (pick_any (w.heap.size + 1) q 93 w2 R2 (by omega) (by omega)).mono ?_
  rintro e w3 ⟨y1, rfl, hy1, R3, hg3⟩
  have hy1' := hy1.1 (by omega)
  have r3 := r2.kept hg3 (by simp)
  have B3 := B2.grown hg3 B2.size (fun k hk => by cases hk; exact Nat.le_succ _)
  clear R2 r2 hg3 hy1
  go_wp2_with fail
  refine (pick_any (w.heap.size + 1) (q + 1) 31 w3 R3 (by omega) (by omega)).mono ?_
  rintro e w4 ⟨y2, rfl, hy2, R4, hg4⟩
  have hy2' := hy2.1 (by omega)
  have r4 := r3.kept hg4 (by simp)
  have B4 := B3.grown hg4 B3.size (fun k hk => by cases hk; exact Nat.le_succ _)
  clear R3 r3 hg4 hy2
  go_wp2_with fail
  refine (one_litR (w.heap.size + 1) (q + 2) w4 [y1, y2, 0, 92, 93, -1] 6 R4 (by omega) (by simp) (by simp) rfl).mono ?_
  rintro e w5 ⟨y, rfl, hy, R5, hg5⟩
  have hyb : -1 ≤ y ∧ y ≤ 93 := by simp at hy; omega
  have r5 := r4.kept hg5 (by simp)
  have B5 := B4.grown hg5 B4.size (fun k hk => by cases hk; exact Nat.le_succ _)
  have d0 := r5.c0
  have d1 := r5.c1
  have d2 := r5.c2
  have f0 := r5.fz 0
  have f1 := r5.fz 1
  have f2 := r5.fz 2
  go_wp2
  exact ret_sv2 rfl rfl w.heap.size rfl _ _ _ r5.put _ rfl ⟨_, _, _, _, rfl, hin, hyb, below_putS B5 (Nat.le_refl _) _ _ _⟩

set_option maxHeartbeats 8000000 in
theorem drawAddKey_any (a : Option Addr) (n cap : Nat) (w : World) (hB : Bytes w w.heap.size a n) (hn : n ≤ 9223372036854775807) (hc : n ≤ cap) :
    Calls Try.prog 30 #[.slice a n cap] w fun e w' => ∃ b ww s k : Int, e = .returned (.tuple #[.agg #[.int .i64 b, .int .i64 ww, .int .i64 s], .int .i64 k]) ∧ SvIn b ww s ∧ (-1 ≤ k ∧ k ≤ 93) ∧ Below w.heap.size w w' := by
  have B0 := (Below.refl w.heap.size w).alloc (Nat.le_refl _) (.cells #[.int .i64 0, .int .i64 0, .int .i64 0] 24)
  have r0 := SBox.new w 0 0 0
  have hB0 : Bytes (w.alloc (.cells #[.int .i64 0, .int .i64 0, .int .i64 0] 24)) (w.alloc (.cells #[.int .i64 0, .int .i64 0, .int .i64 0] 24)).heap.size a n :=
    (hB.of_block (fun k hk => Below.heap_alloc w _ k hk)).le (by rw [World.size_alloc]; omega)
  obtain ⟨w0, e0⟩ : ∃ w0, w0 = w.alloc (.cells #[.int .i64 0, .int .i64 0, .int .i64 0] 24) := ⟨_, rfl⟩
  have z0 : w0.heap.size = w.heap.size + 1 := by rw [e0]; simp
  rw [← e0] at B0 r0 hB0
  have E0 := Lib.hid e0
  clear e0 hB
  go_enter Try.func30, Try.ntmps30
  go_wp2_with fail
  rw [← E0.out]
  refine (newReader_any a n cap w0 hB0 hn hc).mono ?_
  rintro e w1 ⟨rfl, R1, b1, s1⟩
  rw [z0] at R1 s1
  have r1 := r0.belowAll b1
  have B1 := B0.trans (b1.mono (by omega))
  have hs1 := r1.lt
  clear r0 b1 hB0
  go_wp2_with fail
  refine (someSieve_any (w.heap.size + 1) 0 w1 R1 (by omega)).mono ?_
  rintro e w2 ⟨b, ww, s, q, rfl, hin, R2, hq, hg2⟩
  have r2 := r1.kept hg2 (by simp)
  have B2 := B1.grown hg2 B1.size (fun k hk => by cases hk; exact Nat.le_succ _)
  have z2 := R2.lt
  clear R1 r1 hg2
  go_wp2_with fail
  refine (pick_any (w.heap.size + 1) q 93 w2 R2 (by omega) (by omega)).mono ?_
  rintro e w3 ⟨y1, rfl, hy1, R3, hg3⟩
  have hy1' := hy1.1 (by omega)
  have r3 := r2.kept hg3 (by simp)
  have B3 := B2.grown hg3 B2.size (fun k hk => by cases hk; exact Nat.le_succ _)
  clear R2 r2 hg3 hy1
  go_wp2_with fail
  refine (pick_any (w.heap.size + 1) (q + 1) 31 w3 R3 (by omega) (by omega)).mono ?_
  rintro e w4 ⟨y2, rfl, hy2, R4, hg4⟩
  have hy2' := hy2.1 (by omega)
  have r4 := r3.kept hg4 (by simp)
  have B4 := B3.grown hg4 B3.size (fun k hk => by cases hk; exact Nat.le_succ _)
  clear R3 r3 hg4 hy2
  go_wp2_with fail
  refine (one_litR (w.heap.size + 1) (q + 2) w4 [y1, y2, 0, 92, 93, -1] 6 R4 (by omega) (by simp) (by simp) rfl).mono ?_
  rintro e w5 ⟨y, rfl, hy, R5, hg5⟩
  have hyb : -1 ≤ y ∧ y ≤ 93 := by simp at hy; omega
  have r5 := r4.kept hg5 (by simp)
  have B5 := B4.grown hg5 B4.size (fun k hk => by cases hk; exact Nat.le_succ _)
  have d0 := r5.c0
  have d1 := r5.c1
  have d2 := r5.c2
  have f0 := r5.fz 0
  have f1 := r5.fz 1
  have f2 := r5.fz 2
  go_wp2
  exact ret_sv2 rfl rfl w.heap.size rfl _ _ _ r5.put _ rfl ⟨_, _, _, _, rfl, hin, hyb, below_putS B5 (Nat.le_refl _) _ _ _⟩

set_option maxHeartbeats 8000000 in
theorem drawMayHave_any (a : Option Addr) (n cap : Nat) (w : World) (hB : Bytes w w.heap.size a n) (hn : n ≤ 9223372036854775807) (hc : n ≤ cap) :
    Calls Try.prog 34 #[.slice a n cap] w fun e w' => ∃ b ww s k : Int, e = .returned (.tuple #[.agg #[.int .i64 b, .int .i64 ww, .int .i64 s], .int .i64 k]) ∧ SvIn b ww s ∧ (-1 ≤ k ∧ k ≤ 93) ∧ Below w.heap.size w w' := by
  have B0 := (Below.refl w.heap.size w).alloc (Nat.le_refl _) (.cells #[.int .i64 0, .int .i64 0, .int .i64 0] 24)
  have r0 := SBox.new w 0 0 0
  have hB0 : Bytes (w.alloc (.cells #[.int .i64 0, .int .i64 0, .int .i64 0] 24)) (w.alloc (.cells #[.int .i64 0, .int .i64 0, .int .i64 0] 24)).heap.size a n :=
    (hB.of_block (fun k hk => Below.heap_alloc w _ k hk)).le (by rw [World.size_alloc]; omega)
  obtain ⟨w0, e0⟩ : ∃ w0, w0 = w.alloc (.cells #[.int .i64 0, .int .i64 0, .int .i64 0] 24) := ⟨_, rfl⟩
  have z0 : w0.heap.size = w.heap.size + 1 := by rw [e0]; simp
  rw [← e0] at B0 r0 hB0
  have E0 := Lib.hid e0
  clear e0 hB
  go_enter Try.func34, Try.ntmps34
  go_wp2_with fail
  rw [← E0.out]
  refine (newReader_any a n cap w0 hB0 hn hc).mono ?_
  rintro e w1 ⟨rfl, R1, b1, s1⟩
  rw [z0] at R1 s1
  have r1 := r0.belowAll b1
  have B1 := B0.trans (b1.mono (by omega))
  have hs1 := r1.lt
  clear r0 b1 hB0
  go_wp2_with fail
  refine (someSieve_any (w.heap.size + 1) 0 w1 R1 (by omega)).mono ?_
  rintro e w2 ⟨b, ww, s, q, rfl, hin, R2, hq, hg2⟩
  have r2 := r1.kept hg2 (by simp)
  have B2 := B1.grown hg2 B1.size (fun k hk => by cases hk; exact Nat.le_succ _)
  have z2 := R2.lt
  clear R1 r1 hg2
  go_wp2_with fail
  refine (pick_any (w.heap.size + 1) q 93 w2 R2 (by omega) (by omega)).mono ?_
  rintro e w3 ⟨y1, rfl, hy1, R3, hg3⟩
  have hy1' := hy1.1 (by omega)
  have r3 := r2.kept hg3 (by simp)
  have B3 := B2.grown hg3 B2.size (fun k hk => by cases hk; exact Nat.le_succ _)
  clear R2 r2 hg3 hy1
  go_wp2_with fail
  refine (pick_any (w.heap.size + 1) (q + 1) 31 w3 R3 (by omega) (by omega)).mono ?_
  rintro e w4 ⟨y2, rfl, hy2, R4, hg4⟩
  have hy2' := hy2.1 (by omega)
  have r4 := r3.kept hg4 (by simp)
  have B4 := B3.grown hg4 B3.size (fun k hk => by cases hk; exact Nat.le_succ _)
  clear R3 r3 hg4 hy2
  go_wp2_with fail
  refine (one_litR (w.heap.size + 1) (q + 2) w4 [y1, y2, 0, 92, 93, -1] 6 R4 (by omega) (by simp) (by simp) rfl).mono ?_
  rintro e w5 ⟨y, rfl, hy, R5, hg5⟩
  have hyb : -1 ≤ y ∧ y ≤ 93 := by simp at hy; omega
  have r5 := r4.kept hg5 (by simp)
  have B5 := B4.grown hg5 B4.size (fun k hk => by cases hk; exact Nat.le_succ _)
  have d0 := r5.c0
  have d1 := r5.c1
  have d2 := r5.c2
  have f0 := r5.fz 0
  have f1 := r5.fz 1
  have f2 := r5.fz 2
  go_wp2
  exact ret_sv2 rfl rfl w.heap.size rfl _ _ _ r5.put _ rfl ⟨_, _, _, _, rfl, hin, hyb, below_putS B5 (Nat.le_refl _) _ _ _⟩
end Go.Proofs.Ytjkcahmbocjacaa
