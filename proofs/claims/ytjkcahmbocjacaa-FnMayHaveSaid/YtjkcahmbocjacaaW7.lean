/-
  spec.AddKey, spec.MayHave, spec.HowMany.
-/
import Derived.Test.YtjkcahmbocjacaaW6
import Derived.Deep.RegionLaw
import Derived.Deep.Cut
namespace Go.Proofs.Ytjkcahmbocjacaa
open Go.RowKit

theorem infSieve : (Try.prog.info? 24).map (·.size) = some 3 := by kernel_rfl
/-- A result that is a sieve in a variable, and a value. -/
theorem ret_sv2 {fn : Func} {R : Ending → World → Prop} {ac : Act} {w : World} {p q : Tmp} (hf : fn.results = #[.cell p 24, .tmp q]) (hd : ac.defers = [])
    (g : Nat) (hp : ac.tmps.getD p undef = .pointer (some ⟨g, 0, none⟩)) (b ww s : Int) (hg : SBox w g b ww s) (u : Value) (hq : ac.tmps.getD q undef = u) (hR : R (.returned (.tuple #[.agg #[.int .i64 b, .int .i64 ww, .int .i64 s], u])) w) : bodyPost Try.prog fn R .ret ac w := by
  refine bodyPost_ret (v := .tuple #[.agg #[.int .i64 b, .int .i64 ww, .int .i64 s], u]) ?_ hd hR
  have hp' : ac.tmps[p]?.getD undef = .pointer (some ⟨g, 0, none⟩) := by simpa using hp
  have hq' : ac.tmps[q]?.getD undef = u := by simpa using hq
  have hl' := run_loadVar_row (P := Try.prog) w g 24 24 #[.int .i64 b, .int .i64 ww, .int .i64 s] (0, 0) _ hg Try.underlying24 rfl infSieve
  simp [results, hf, hp', hq', asAddr, hl']
theorem ret_sv1 {fn : Func} {R : Ending → World → Prop} {ac : Act} {w : World} {p : Tmp} (hf : fn.results = #[.cell p 24]) (hd : ac.defers = [])
    (g : Nat) (hp : ac.tmps.getD p undef = .pointer (some ⟨g, 0, none⟩)) (b ww s : Int) (hg : SBox w g b ww s) (hR : R (.returned (.agg #[.int .i64 b, .int .i64 ww, .int .i64 s])) w) : bodyPost Try.prog fn R .ret ac w := by
  refine bodyPost_ret (v := .agg #[.int .i64 b, .int .i64 ww, .int .i64 s]) ?_ hd hR
  have hp' : ac.tmps[p]?.getD undef = .pointer (some ⟨g, 0, none⟩) := by simpa using hp
  have hl' := run_loadVar_row (P := Try.prog) w g 24 24 #[.int .i64 b, .int .i64 ww, .int .i64 s] (0, 0) _ hg Try.underlying24 rfl infSieve
  simp [results, hf, hp', asAddr, hl']
theorem SBox.set2 {w : World} {g : Nat} {b ww s : Int} (h : SBox w g b ww s) (x : Int) : SBox (w.setCell ⟨g, 2, none⟩ (.int .i64 x)) g b ww x := by
  unfold SBox at h ⊢
  rw [heap_setCell_same w g 2 _ _ _ h]; rfl
theorem SBox.put {w : World} {g : Nat} {b ww s b' ww' s' : Int} (h : SBox w g b ww s) : SBox (((w.setCell ⟨g, 0, none⟩ (.int .i64 b')).setCell ⟨g, 1, none⟩ (.int .i64 ww')).setCell ⟨g, 2, none⟩ (.int .i64 s')) g b' ww' s' := by
  unfold SBox at h ⊢
  have h1 := heap_setCell_same w g 0 _ _ (.int .i64 b') h
  have h2 := heap_setCell_same _ g 1 _ _ (.int .i64 ww') h1
  rw [heap_setCell_same _ g 2 _ _ (.int .i64 s') h2]
  rfl
theorem SBox.other {w : World} {g g' : Nat} {b ww s : Int} (h : SBox w g b ww s) (hne : g ≠ g') (k : Nat) (v : Value) : SBox (w.setCell ⟨g', k, none⟩ v) g b ww s := by
  unfold SBox
  rw [heap_setCell_other w ⟨g', k, none⟩ g v hne]; exact h
theorem below_putS {B : Nat} {w w' : World} (h : Below B w w') {g : Nat} (hg : B ≤ g) (x y z : Value) : Below B w (((w'.setCell ⟨g, 0, none⟩ x).setCell ⟨g, 1, none⟩ y).setCell ⟨g, 2, none⟩ z) :=
  ((h.setCell (p := ⟨g, 0, none⟩) hg x).setCell (p := ⟨g, 1, none⟩) hg y).setCell (p := ⟨g, 2, none⟩) hg z

set_option maxHeartbeats 4000000 in
theorem specAddKey_any (b ww s k : Int) (w : World) :
    Calls Try.prog 32 #[.agg #[.int .i64 b, .int .i64 ww, .int .i64 s], .int .i64 k] w fun e w' => e = .returned (.tuple #[.agg #[.int .i64 (ADb b ww s k), .int .i64 (ADw b ww s k), .int .i64 (ADs b ww s k)], .bool (ADo b ww s k)]) ∧ Below w.heap.size w w' := by
  have hbA := ((Below.refl w.heap.size w).alloc (Nat.le_refl _) (.cells #[.int .i64 b, .int .i64 ww, .int .i64 s] 24)).alloc (by simp) (.cells #[.int .i64 0, .int .i64 0, .int .i64 0] 24)
  have x0 := (SBox.new w b ww s).alloc (.cells #[.int .i64 0, .int .i64 0, .int .i64 0] 24)
  have y0 := SBox.new (w.alloc (.cells #[.int .i64 b, .int .i64 ww, .int .i64 s] 24)) 0 0 0
  obtain ⟨W0, hW0⟩ : ∃ W0, W0 = (w.alloc (.cells #[.int .i64 b, .int .i64 ww, .int .i64 s] 24)).alloc (.cells #[.int .i64 0, .int .i64 0, .int .i64 0] 24) := ⟨_, rfl⟩
  have hz : w.heap.size + 2 = W0.heap.size := by rw [hW0]; simp
  rw [← hW0] at hbA x0 y0
  rw [World.size_alloc] at y0
  have HW0 := Lib.hid hW0
  have cv := fun wx => specvalidSieve_any b ww s wx
  have ck := fun wx => inRange_any k 0 92 wx
  have hK : inR k 0 92 = KM k := by rw [Bool.eq_iff_iff, inR_iff, KM_iff]
  rw [hK] at ck
  clear hW0
  by_cases g1 : VSv b ww s = true
  · rw [g1] at cv
    by_cases g2 : KM k = true
    · obtain ⟨B, W, S, rfl, rfl, rfl, h1, h2, h3, h4, h5⟩ := VSv_nats g1
      have hk := KM_iff.1 g2
      obtain ⟨K, rfl⟩ : ∃ K : Nat, k = K := ⟨k.toNat, by omega⟩
      rw [g2] at ck
      have ea : ADs (B : Int) W S K = ((S ||| mkb B K W : Nat) : Int) := by unfold ADs; rw [if_pos ⟨g1, g2⟩, MKn_nat]; rfl
      have eb : ADb (B : Int) W S K = B := if_pos ⟨g1, g2⟩
      have ew : ADw (B : Int) W S K = W := if_pos ⟨g1, g2⟩
      have eo : ADo (B : Int) W S K = true := by unfold ADo; rw [g1, g2]; rfl
      rw [ea, eb, ew, eo]
      have cm := fun wx => marks_any B W K S wx h1 h2 h4 (by omega)
      have hm16 := mkb_16 (key := K) (k := W) h1 h2
      obtain ⟨m, hm⟩ : ∃ m, m = mkb B K W := ⟨_, rfl⟩
      rw [← hm] at cm hm16 ⊢
      have hor := bits_or_i64_nat S m (by omega) (by omega)
      obtain ⟨O, hO⟩ : ∃ O, O = S ||| m := ⟨_, rfl⟩
      rw [← hO] at hor ⊢
      have cm2 : ∀ wx, wx.cell? ⟨w.heap.size, 0, none⟩ = some (.int .i64 (B : Int)) ∧ SBox wx w.heap.size B W S ∧ SBox wx (w.heap.size + 1) 0 0 0 ∧ Below w.heap.size w wx → Calls Try.prog 76 #[.agg #[.int .i64 (B : Int), .int .i64 (W : Int), .int .i64 (S : Int)], .int .i64 (K : Int)] wx fun e w' => e = .returned (.int .i64 (m : Int)) ∧ Hid (SBox w' w.heap.size B W S) ∧ Hid (SBox w' (w.heap.size + 1) 0 0 0) ∧ Hid (Below w.heap.size w w') ∧
          w'.cell? ⟨w.heap.size, 0, none⟩ = some (.int .i64 (B : Int)) ∧ w'.cell? ⟨w.heap.size, 1, none⟩ = some (.int .i64 (W : Int)) ∧ w'.cell? ⟨w.heap.size, 2, none⟩ = some (.int .i64 (S : Int)) ∧ w'.frozen? ⟨w.heap.size, 2, none⟩ = false := by
        rintro wx ⟨_, hx, hy, hb⟩
        refine (cm wx).mono ?_
        rintro e w' ⟨rfl, b2⟩
        have x2 := hx.belowAll b2
        exact ⟨rfl, x2, hy.belowAll b2, hb.trans (b2.mono hb.size), x2.c0, x2.c1, x2.c2, x2.fz 2⟩
      have C1 := Lib.hid cv
      have C2 := Lib.hid ck
      have CM := Lib.hid cm2
      clear cv ck hK g1 g2 ea eb ew eo cm cm2 hm hO
      go_enter Try.func32, Try.ntmps32
      go_wp2_with fail
      rw [← HW0.out]
      refine (C1.out _).mono ?_
      rintro e w1 ⟨rfl, b1⟩
      have x1 := x0.belowAll b1
      have y1 := y0.belowAll b1
      have p0 := x1.c0
      have p1 := x1.c1
      have p2 := x1.c2
      have f2 := x1.fz 2
      have bA := hbA.trans (b1.mono (by omega))
      have MM := Lib.hid (CM.out w1.drew ⟨p0, x1, y1, bA.drew⟩)
      clear x0 y0 b1 hbA CM x1 y1
      go_wp2_with fail
      refine (C2.out _).mono ?_
      rintro e w' ⟨rfl, rfl⟩
      go_upto_region 3 with fail
      go_region_law (go_simp; go_at_call 76; refine MM.out.mono ?_; rintro e w2 ⟨rfl, hx, hy, hb, q0, q1, q2, qf⟩; try dsimp only)
      all_goals
        have x3 := hx.out.set2 O
        have y3 := hy.out.other (g' := w.heap.size) (by omega) 2 (.int .i64 O)
        have b3 := hb.out.setCell (p := ⟨w.heap.size, 2, none⟩) (Nat.le_refl _) (.int .i64 O)
        obtain ⟨w4, e4⟩ : ∃ w4, w4 = w2.setCell ⟨w.heap.size, 2, none⟩ (.int .i64 O) := ⟨_, rfl⟩
        rw [← e4] at x3 y3 b3
        rw [← e4]
        have r0 := x3.c0
        have r1 := x3.c1
        have r2 := x3.c2
        have t0 := y3.fz 0
        have t1 := y3.fz 1
        have t2 := y3.fz 2
        have t3 := y3.c0
        have t4 := y3.c1
        have t5 := y3.c2
        clear hx hy hb q0 q1 q2 qf e4 p0 p1 p2 f2
        go_wp2
        exact ret_sv2 rfl rfl (w.heap.size + 1) rfl _ _ _ y3.put _ rfl ⟨rfl, below_putS b3 (by omega) _ _ _⟩
    · have ea : ADs b ww s k = 0 := if_neg (fun h => g2 h.2)
      have eb : ADb b ww s k = 0 := if_neg (fun h => g2 h.2)
      have ew : ADw b ww s k = 0 := if_neg (fun h => g2 h.2)
      have eo : ADo b ww s k = false := by unfold ADo; rw [eq_false_of_ne_true g2, Bool.and_false]
      rw [ea, eb, ew, eo]
      rw [eq_false_of_ne_true g2] at ck
      have C1 := Lib.hid cv
      have C2 := Lib.hid ck
      clear cv ck hK g1 g2 ea eb ew eo
      go_enter Try.func32, Try.ntmps32
      go_wp2_with fail
      rw [← HW0.out]
      refine (C1.out _).mono ?_
      rintro e w1 ⟨rfl, b1⟩
      have y1 := y0.belowAll b1
      have t0 := y1.fz 0
      have t1 := y1.fz 1
      have t2 := y1.fz 2
      have t3 := y1.c0
      have t4 := y1.c1
      have t5 := y1.c2
      have bA := hbA.trans (b1.mono (by omega))
      go_wp2_with fail
      refine (C2.out _).mono ?_
      rintro e w' ⟨rfl, rfl⟩
      go_wp2
      exact ret_sv2 rfl rfl (w.heap.size + 1) rfl _ _ _ y1.put _ rfl ⟨rfl, below_putS bA (by omega) _ _ _⟩
  · have ea : ADs b ww s k = 0 := if_neg (fun h => g1 h.1)
    have eb : ADb b ww s k = 0 := if_neg (fun h => g1 h.1)
    have ew : ADw b ww s k = 0 := if_neg (fun h => g1 h.1)
    have eo : ADo b ww s k = false := by unfold ADo; rw [eq_false_of_ne_true g1, Bool.false_and]
    rw [ea, eb, ew, eo]
    rw [eq_false_of_ne_true g1] at cv
    have C1 := Lib.hid cv
    clear cv ck hK g1 ea eb ew eo
    go_enter Try.func32, Try.ntmps32
    go_wp2_with fail
    rw [← HW0.out]
    refine (C1.out _).mono ?_
    rintro e w1 ⟨rfl, b1⟩
    have y1 := y0.belowAll b1
    have t0 := y1.fz 0
    have t1 := y1.fz 1
    have t2 := y1.fz 2
    have t3 := y1.c0
    have t4 := y1.c1
    have t5 := y1.c2
    have bA := hbA.trans (b1.mono (by omega))
    go_wp2
    exact ret_sv2 rfl rfl (w.heap.size + 1) rfl _ _ _ y1.put _ rfl ⟨rfl, below_putS bA (by omega) _ _ _⟩
end Go.Proofs.Ytjkcahmbocjacaa
