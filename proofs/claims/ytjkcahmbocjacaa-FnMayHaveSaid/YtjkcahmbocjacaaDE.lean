/-
  spec.someSieve.
-/
import Derived.Test.YtjkcahmbocjacaaD9
import Derived.Test.YtjkcahmbocjacaaW7
namespace Go.Proofs.Ytjkcahmbocjacaa
open Go.RowKit

theorem grownBy_set {a b : World} {row : Option Nat} (h : a.grownBy b row) {g : Nat} (hg : a.heap.size ≤ g) (k : Nat) (v : Value) : a.grownBy (b.setCell ⟨g, k, none⟩ v) row :=
  ⟨h.os, h.tape, h.output, by simpa using h.size, fun i hi hne => (heap_setCell_other b ⟨g, k, none⟩ i v (by show i ≠ g; omega)).trans (h.block i hi hne)⟩
theorem SBox.kept {w w' : World} {g : Nat} {b ww s : Int} {row : Option Nat} (h : SBox w g b ww s) (hg : w.grownBy w' row) (hne : some g ≠ row) : SBox w' g b ww s := (hg.block g h.lt hne).trans h
theorem Rdr.set {w : World} {g p : Nat} (h : Rdr w g p) {g' : Nat} (hg : g < g') (k : Nat) (v : Value) : Rdr (w.setCell ⟨g', k, none⟩ v) g p :=
  h.of_block fun i hi => heap_setCell_other w ⟨g', k, none⟩ i v (by show i ≠ g'; omega)
theorem SBox.set0 {w : World} {g : Nat} {b ww s : Int} (h : SBox w g b ww s) (x : Int) : SBox (w.setCell ⟨g, 0, none⟩ (.int .i64 x)) g x ww s := by
  unfold SBox at h ⊢
  rw [heap_setCell_same w g 0 _ _ _ h]; rfl
theorem SBox.set1 {w : World} {g : Nat} {b ww s : Int} (h : SBox w g b ww s) (x : Int) : SBox (w.setCell ⟨g, 1, none⟩ (.int .i64 x)) g b x s := by
  unfold SBox at h ⊢
  rw [heap_setCell_same w g 1 _ _ _ h]; rfl
theorem grownBy_below {a b c : World} {row : Option Nat} (h : a.grownBy b row) (k : Below b.heap.size b c) : a.grownBy c row :=
  ⟨k.os.trans h.os, k.tape.trans h.tape, k.output.trans h.output, Nat.le_trans h.size k.size, fun i hi hne => (k.block i (Nat.lt_of_lt_of_le hi h.size)).trans (h.block i hi hne)⟩

/-- What someSieve leaves in its box. -/
def SvIn (b ww s : Int) : Prop := (0 ≤ b ∧ b ≤ 17) ∧ (0 ≤ ww ∧ ww ≤ 5) ∧ -1 ≤ s ∧ s ≤ 65536

set_option maxHeartbeats 8000000 in
theorem someSieve_any (g p : Nat) (w : World) (hR : Rdr w g p) (hp : p ≤ 900000) :
    Calls Try.prog 66 #[.pointer (some ⟨g, 0, none⟩)] w fun e w' => ∃ (b ww s : Int) (q : Nat), e = .returned (.agg #[.int .i64 b, .int .i64 ww, .int .i64 s]) ∧ SvIn b ww s ∧ Rdr w' g q ∧ q ≤ p + 100 ∧ w.grownBy w' (some g) := by
  have zg := hR.lt
  have r0 := SBox.new w 0 0 0
  have hR0 := hR.below ((Below.refl w.heap.size w).alloc (Nat.le_refl _) (.cells #[.int .i64 0, .int .i64 0, .int .i64 0] 24))
  have hg0 := World.grownBy_alloc w (.cells #[.int .i64 0, .int .i64 0, .int .i64 0] 24) (some g)
  obtain ⟨w0, e0⟩ : ∃ w0, w0 = w.alloc (.cells #[.int .i64 0, .int .i64 0, .int .i64 0] 24) := ⟨_, rfl⟩
  have z0 : w0.heap.size = w.heap.size + 1 := by rw [e0]; simp
  rw [← e0] at r0 hR0 hg0
  have E0 := Lib.hid e0
  have hone1 := one_litR g p w0 [12, 16, 8, 5, 1] 5 hR0 (by omega) (by simp) (by simp) rfl
  rw [z0] at hone1
  have HONE1 := Lib.hid hone1
  clear e0 hR hR0 hone1
  go_enter Try.func66, Try.ntmps66
  go_wp2_with fail
  rw [← E0.out]
  refine HONE1.out.mono ?_
  rintro e w1 ⟨yb, rfl, hyb, hR1, hg1⟩
  have r1 := r0.kept hg1 (by simp; omega)
  have G1 := grownBy_trans hg0 hg1
  have z1 := G1.size
  have hb16 : 1 ≤ yb ∧ yb ≤ 16 := by simp at hyb; omega
  obtain ⟨B, rfl⟩ : ∃ B : Nat, yb = B := ⟨yb.toNat, by omega⟩
  clear hyb hg0 hg1 r0 HONE1
  go_wp2_with fail
  refine (one_litR g (p + 1) w1 [2, 3, 1, 4] 4 hR1 (by omega) (by simp) (by simp) rfl).mono ?_
  rintro e w2 ⟨yw, rfl, hyw, hR2, hg2⟩
  have r2 := r1.kept hg2 (by simp; omega)
  have G2 := grownBy_trans G1 hg2
  have z2 := G2.size
  have hw4 : 1 ≤ yw ∧ yw ≤ 4 := by simp at hyw; omega
  obtain ⟨W, rfl⟩ : ∃ W : Nat, yw = W := ⟨yw.toNat, by omega⟩
  have hs2 := r2.lt
  clear hyw hg2 r1 hR1 G1
  have x3 := SBox.new w2 B W 0
  have r3 := r2.alloc (.cells #[.int .i64 (B : Int), .int .i64 (W : Int), .int .i64 0] 24)
  have hR3 := hR2.below ((Below.refl w2.heap.size w2).alloc (Nat.le_refl _) (.cells #[.int .i64 (B : Int), .int .i64 (W : Int), .int .i64 0] 24))
  have G3 := grownBy_trans G2 (World.grownBy_alloc w2 (.cells #[.int .i64 (B : Int), .int .i64 (W : Int), .int .i64 0] 24) (some g))
  obtain ⟨w3, e3⟩ : ∃ w3, w3 = w2.alloc (.cells #[.int .i64 (B : Int), .int .i64 (W : Int), .int .i64 0] 24) := ⟨_, rfl⟩
  have z3 : w3.heap.size = w2.heap.size + 1 := by rw [e3]; simp
  rw [← e3] at x3 r3 hR3 G3
  have E3 := Lib.hid e3
  have hone3 := one_litR g (p + 2) w3 [2, 3, 1, 0, 5] 5 hR3 (by omega) (by simp) (by simp) rfl
  rw [z3] at hone3
  have HONE3 := Lib.hid hone3
  clear e3 hR2 hR3 hone3 r2 G2
  go_wp2_with fail
  rw [← E3.out]
  refine HONE3.out.mono ?_
  rintro e w4 ⟨yn, rfl, hyn, hR4, hg4⟩
  have hn5 : 0 ≤ yn ∧ yn ≤ 5 := by simp at hyn; omega
  obtain ⟨N, rfl⟩ : ∃ N : Nat, yn = N := ⟨yn.toNat, by omega⟩
  have x4 := x3.kept hg4 (by simp; omega)
  have r4 := r3.kept hg4 (by simp; omega)
  have G4 := grownBy_trans G3 hg4
  have hgg : g < w2.heap.size := by omega
  have hgw : w.heap.size + 1 ≤ w2.heap.size := by omega
  clear hyn hg4 x3 r3 G3 HONE3
  go_wp2_with fail
  go_loopw [4] (fun nv wr => ∃ j S q : Nat, nv = .int .i64 (j : Int) ∧ j ≤ 5 ∧ S < 65536 ∧ SBox wr w2.heap.size B W S ∧ SBox wr w.heap.size 0 0 0 ∧ Rdr wr g q ∧ q + j ≤ p + 20 ∧ w.grownBy wr (some g)) (fun nv _ => (intOf nv).toNat)
  case atStart => exact ⟨N, 0, _, rfl, by omega, by omega, x4, r4, hR4, by omega, G4⟩
  case round =>
    clear x4 r4 hR4 G4 hn5
    obtain ⟨j, S, q, rfl, hj5, hS, hx, hr, hR, hq, hg⟩ := hrel
    by_cases hj : 0 < j
    · have hj1 : (j : Int) > 0 := by omega
      have p0 := hx.c0
      have p1 := hx.c1
      have p2 := hx.c2
      have pf := hx.fz 2
      have cpk : Calls Try.prog 73 #[.pointer (some ⟨g, 0, none⟩), .int .i64 93] wr.drew fun e w' => ∃ y : Nat, e = .returned (.int .i64 (y : Int)) ∧ Hid (y ≤ 92) ∧ Hid (SBox w' w2.heap.size B W S) ∧ Hid (SBox w' w.heap.size 0 0 0) ∧ Hid (Rdr w' g (q + 1)) ∧ Hid (w.grownBy w' (some g)) ∧
          w'.cell? ⟨w2.heap.size, 0, none⟩ = some (.int .i64 (B : Int)) ∧ w'.cell? ⟨w2.heap.size, 1, none⟩ = some (.int .i64 (W : Int)) ∧ w'.cell? ⟨w2.heap.size, 2, none⟩ = some (.int .i64 (S : Int)) ∧ w'.frozen? ⟨w2.heap.size, 2, none⟩ = false := by
        refine (pick_any g q 93 wr.drew (hR.of_block fun _ _ => rfl) (by omega) (by omega)).mono ?_
        rintro e w' ⟨y, rfl, hy, hR', hgd⟩
        have hy2 := hy.1 (by omega)
        have hgw' : wr.grownBy w' (some g) := ⟨hgd.os, hgd.tape, hgd.output, hgd.size, hgd.block⟩
        have hx2 := hx.kept hgw' (by simp; omega)
        refine ⟨y.toNat, ?_, ?_, hx2, hr.kept hgw' (by simp; omega), hR', grownBy_trans hg hgw', hx2.c0, hx2.c1, hx2.c2, hx2.fz 2⟩
        · rw [show ((y.toNat : Nat) : Int) = y by omega]
        · show y.toNat ≤ 92; omega
      have cmk : ∀ (y : Nat) (wx : World), Hid (y ≤ 92) → Hid (SBox wx w2.heap.size B W S) → Hid (SBox wx w.heap.size 0 0 0) → Hid (Rdr wx g (q + 1)) → Hid (w.grownBy wx (some g)) →
          Calls Try.prog 76 #[.agg #[.int .i64 (B : Int), .int .i64 (W : Int), .int .i64 (S : Int)], .int .i64 (y : Int)] wx fun e w' => ∃ m O : Nat, e = .returned (.int .i64 (m : Int)) ∧ bits .or .i64 (S : Int) (m : Int) = (O : Int) ∧ Hid (O < 65536) ∧ Hid (SBox w' w2.heap.size B W S) ∧ Hid (SBox w' w.heap.size 0 0 0) ∧ Hid (Rdr w' g (q + 1)) ∧ Hid (w.grownBy w' (some g)) ∧
          w'.cell? ⟨w2.heap.size, 0, none⟩ = some (.int .i64 (B : Int)) ∧ w'.cell? ⟨w2.heap.size, 1, none⟩ = some (.int .i64 (W : Int)) ∧ w'.cell? ⟨w2.heap.size, 2, none⟩ = some (.int .i64 (S : Int)) ∧ w'.frozen? ⟨w2.heap.size, 2, none⟩ = false := by
        intro y wx hy hx hr hR hg
        refine (marks_any B W y S wx (by omega) (by omega) (by omega) hy.out).mono ?_
        rintro e w' ⟨rfl, b⟩
        have hm16 := mkb_16 (B := B) (key := y) (k := W) (by omega) (by omega)
        have hx2 := hx.out.belowAll b
        exact ⟨_, _, rfl, bits_or_i64_nat S _ (by omega) (by omega), Nat.or_lt_two_pow (n := 16) hS hm16, hx2, hr.out.belowAll b, hR.out.below b, grownBy_below hg.out b, hx2.c0, hx2.c1, hx2.c2, hx2.fz 2⟩
      have CPK := Lib.hid cpk
      have CMK := Lib.hid cmk
      clear cpk cmk hx hr hR hg
      go_upto_region 5 with fail
      go_region_law (first | (go_simp; go_at_call 73; refine CPK.out.mono ?_; rintro e w5 ⟨y, rfl, hy, hx, hr, hR, hg, q0, q1, q2, qf⟩; try dsimp only) | (go_simp; go_at_call 76; refine (CMK.out y w5 hy hx hr hR hg).mono ?_; rintro e w6 ⟨m, O, rfl, hor, hO, hx6, hr6, hR6, hg6, u0, u1, u2, uf⟩; try dsimp only))
      all_goals
        have x7 := hx6.out.set2 O
        have r7 := hr6.out.other (g' := w2.heap.size) (by omega) 2 (.int .i64 O)
        have R7 := hR6.out.set hgg 2 (.int .i64 O)
        have g7 := grownBy_set hg6.out (by omega) 2 (.int .i64 O) (g := w2.heap.size)
        have hOb := hO.out
        clear hx hr hR hg q0 q1 q2 qf hx6 hr6 hR6 hg6 u0 u1 u2 uf hor CPK CMK p0 p1 p2 pf
        go_wp2
        go_roundw
        case rel => exact ⟨j - 1, O, q + 1, by go_num, by omega, hOb, x7, r7, R7, by omega, g7⟩
        case measure => simp [intOf]; omega
    · obtain rfl : j = 0 := by omega
      have hj1 : ¬ ((0 : Nat) : Int) > 0 := by omega
      go_wp2_with fail
      refine (pick_any g q 30 _ hR (by omega) (by omega)).mono ?_
      rintro e w5 ⟨y5, rfl, hy5, R5, hg5⟩
      have x5 := hx.kept hg5 (by simp; omega)
      have r5 := hr.kept hg5 (by simp; omega)
      have g5 := grownBy_trans hg hg5
      clear hx hr hR hg hg5 hy5
      by_cases h0 : y5 = 0
      · subst h0
        go_wp2_with fail
        refine (one_litR g (q + 1) w5 [0, 17] 2 R5 (by omega) (by simp) (by simp) rfl).mono ?_
        rintro e w6 ⟨y, rfl, hy6, R6, hg6⟩
        have hyb : 0 ≤ y ∧ y ≤ 17 := by simp at hy6; omega
        have x6 := x5.kept hg6 (by simp; omega)
        have r6 := r5.kept hg6 (by simp; omega)
        have g6 := grownBy_trans g5 hg6
        have p0 := x6.c0
        have pf := x6.fz 0
        have x7 := x6.set0 y
        have r7 := r6.other (g' := w2.heap.size) (by omega) 0 (.int .i64 y)
        have R7 := R6.set hgg 0 (.int .i64 y)
        have g7 := grownBy_set g6 (show w.heap.size ≤ w2.heap.size by omega) 0 (.int .i64 y)
        obtain ⟨w7, e7⟩ : ∃ w7, w7 = w6.setCell ⟨w2.heap.size, 0, none⟩ (.int .i64 y) := ⟨_, rfl⟩
        rw [← e7] at x7 r7 R7 g7
        have E7 := Lib.hid e7
        clear e7 hy6 x5 r5 R5 g5 hg6 x6 r6 g6 R6
        go_upto_region 13 with fail
        rw [← E7.out]
        clear p0 pf
        have c0 := x7.c0
        have c1 := x7.c1
        have c2 := x7.c2
        have d0 := r7.c0
        have d1 := r7.c1
        have d2 := r7.c2
        have f0 := r7.fz 0
        have f1 := r7.fz 1
        have f2 := r7.fz 2
        go_wp2
        exact ret_sv1 rfl rfl w.heap.size rfl _ _ _ r7.put ⟨_, _, _, q + 2, rfl, ⟨by omega, by omega, by omega, by omega⟩, ((R7.set zg 0 _).set zg 1 _).set zg 2 _, by omega, grownBy_set (grownBy_set (grownBy_set g7 (Nat.le_refl _) 0 _) (Nat.le_refl _) 1 _) (Nat.le_refl _) 2 _⟩
      by_cases h1 : y5 = 1
      · subst h1
        go_wp2_with fail
        refine (one_litR g (q + 1) w5 [0, 5] 2 R5 (by omega) (by simp) (by simp) rfl).mono ?_
        rintro e w6 ⟨y, rfl, hy6, R6, hg6⟩
        have hyb : 0 ≤ y ∧ y ≤ 5 := by simp at hy6; omega
        have x6 := x5.kept hg6 (by simp; omega)
        have r6 := r5.kept hg6 (by simp; omega)
        have g6 := grownBy_trans g5 hg6
        have p1 := x6.c1
        have pf := x6.fz 1
        have x7 := x6.set1 y
        have r7 := r6.other (g' := w2.heap.size) (by omega) 1 (.int .i64 y)
        have R7 := R6.set hgg 1 (.int .i64 y)
        have g7 := grownBy_set g6 (show w.heap.size ≤ w2.heap.size by omega) 1 (.int .i64 y)
        obtain ⟨w7, e7⟩ : ∃ w7, w7 = w6.setCell ⟨w2.heap.size, 1, none⟩ (.int .i64 y) := ⟨_, rfl⟩
        rw [← e7] at x7 r7 R7 g7
        have E7 := Lib.hid e7
        clear e7 hy6 x5 r5 R5 g5 hg6 x6 r6 g6 R6
        go_upto_region 13 with fail
        rw [← E7.out]
        clear p1 pf
        have c0 := x7.c0
        have c1 := x7.c1
        have c2 := x7.c2
        have d0 := r7.c0
        have d1 := r7.c1
        have d2 := r7.c2
        have f0 := r7.fz 0
        have f1 := r7.fz 1
        have f2 := r7.fz 2
        go_wp2
        exact ret_sv1 rfl rfl w.heap.size rfl _ _ _ r7.put ⟨_, _, _, q + 2, rfl, ⟨by omega, by omega, by omega, by omega⟩, ((R7.set zg 0 _).set zg 1 _).set zg 2 _, by omega, grownBy_set (grownBy_set (grownBy_set g7 (Nat.le_refl _) 0 _) (Nat.le_refl _) 1 _) (Nat.le_refl _) 2 _⟩
      by_cases h2 : y5 = 2
      · subst h2
        have p00 := x5.c0
        have cp := power_any B w5 (by omega)
        have hp16 := pow_le16 (b := B) (by omega)
        obtain ⟨P, hP⟩ : ∃ P, P = 2 ^ B := ⟨_, rfl⟩
        rw [← hP] at cp hp16
        have CP := Lib.hid cp
        clear cp hP
        go_wp2_with fail
        refine CP.out.mono ?_
        rintro e w' ⟨rfl, rfl⟩
        clear p00
        go_wp2_with fail
        refine (one_litR g (q + 1) w5 [-1, (P : Int)] 2 R5 (by omega) (by simp) (by simp) rfl).mono ?_
        rintro e w6 ⟨y, rfl, hy6, R6, hg6⟩
        have hyb : -1 ≤ y ∧ y ≤ 65536 := by simp at hy6; omega
        have x6 := x5.kept hg6 (by simp; omega)
        have r6 := r5.kept hg6 (by simp; omega)
        have g6 := grownBy_trans g5 hg6
        have p2 := x6.c2
        have pf := x6.fz 2
        have x7 := x6.set2 y
        have r7 := r6.other (g' := w2.heap.size) (by omega) 2 (.int .i64 y)
        have R7 := R6.set hgg 2 (.int .i64 y)
        have g7 := grownBy_set g6 (show w.heap.size ≤ w2.heap.size by omega) 2 (.int .i64 y)
        obtain ⟨w7, e7⟩ : ∃ w7, w7 = w6.setCell ⟨w2.heap.size, 2, none⟩ (.int .i64 y) := ⟨_, rfl⟩
        rw [← e7] at x7 r7 R7 g7
        have E7 := Lib.hid e7
        clear e7 hy6 x5 r5 R5 g5 hg6 x6 r6 g6 R6
        go_upto_region 13 with fail
        rw [← E7.out]
        clear p2 pf
        have c0 := x7.c0
        have c1 := x7.c1
        have c2 := x7.c2
        have d0 := r7.c0
        have d1 := r7.c1
        have d2 := r7.c2
        have f0 := r7.fz 0
        have f1 := r7.fz 1
        have f2 := r7.fz 2
        go_wp2
        exact ret_sv1 rfl rfl w.heap.size rfl _ _ _ r7.put ⟨_, _, _, q + 2, rfl, ⟨by omega, by omega, by omega, by omega⟩, ((R7.set zg 0 _).set zg 1 _).set zg 2 _, by omega, grownBy_set (grownBy_set (grownBy_set g7 (Nat.le_refl _) 0 _) (Nat.le_refl _) 1 _) (Nat.le_refl _) 2 _⟩
      · have n0 : (y5 == 0) = false := by simp; omega
        have n1 : (y5 == 1) = false := by simp; omega
        have n2 : (y5 == 2) = false := by simp; omega
        have c0 := x5.c0
        have c1 := x5.c1
        have c2 := x5.c2
        have d0 := r5.c0
        have d1 := r5.c1
        have d2 := r5.c2
        have f0 := r5.fz 0
        have f1 := r5.fz 1
        have f2 := r5.fz 2
        go_wp2
        exact ret_sv1 rfl rfl w.heap.size rfl _ _ _ r5.put ⟨_, _, _, q + 1, rfl, ⟨by omega, by omega, by omega, by omega⟩, ((R5.set zg 0 _).set zg 1 _).set zg 2 _, by omega, grownBy_set (grownBy_set (grownBy_set g5 (Nat.le_refl _) 0 _) (Nat.le_refl _) 1 _) (Nat.le_refl _) 2 _⟩
end Go.Proofs.Ytjkcahmbocjacaa
