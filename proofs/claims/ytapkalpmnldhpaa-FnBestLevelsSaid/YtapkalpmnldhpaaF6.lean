/-
  impl.bestOf with the costs of impl.ApartBy and impl.BestLevels; ApartBy, LeastApart, BestLevels.
-/
import Derived.Test.YtapkalpmnldhpaaF7
import Derived.Deep.DeepCutAuto
import Derived.Deep.RegionHeld3
namespace Go.Proofs.Ytapkalpmnldhpaa
open Go.RowKit

set_option maxHeartbeats 1000000 in
theorem apCost_any (A B M : Nat) (a b m : Int) (al : Option Addr) (l : List Int) (cap kb : Nat) (w : World) (hF : FunAt w A B M a b m) (hk : w.cell? ⟨kb, 0, none⟩ = some (.slice al l.length cap)) (hr : Reads w al l) (ha : 1 ≤ a) (ha' : a ≤ 30) (hb : 0 ≤ b) (hb' : b ≤ 30) (hm : 1 ≤ m) (hm' : m ≤ 31) (hv : VK l = true) :
    Calls Try.prog 65 #[.agg #[.int .i64 a, .int .i64 b, FnV A B M], .pointer (some ⟨kb, 0, none⟩)] w fun e w' => e = .returned (.int .i64 (mt a b m l : Nat)) ∧ Below w.heap.size w w' := by
  have b1 : Below w.heap.size w (w.alloc (.cells #[.int .i64 a, .int .i64 b, FnV A B M] 65)) := (Below.refl _ _).alloc (Nat.le_refl _) _
  have hc := funMeetings_any A B M a b m al l cap _ (hF.below b1) (hr.below b1) ha ha' hb hb' hm hm' hv
  have HC := Lib.hid hc
  have hk2 := (b1.cell (p := ⟨kb, 0, none⟩) (World.block_lt_of_cell? w _ hk)).trans hk
  clear hc
  go_enter Try.func65, Try.ntmps65
  go_wp2_with fail
  refine HC.out.mono ?_
  rintro e w2 ⟨rfl, b2⟩
  go_wp2
  go_ret
  exact ⟨rfl, b1.trans (b2.mono b1.size)⟩

set_option maxHeartbeats 1000000 in
theorem blCost_any (A B M : Nat) (a b m : Int) (al : Option Addr) (l : List Int) (cap kb : Nat) (w : World) (hF : FunAt w A B M a b m) (hk : w.cell? ⟨kb, 0, none⟩ = some (.slice al l.length cap)) (hr : Reads w al l) (ha : 1 ≤ a) (ha' : a ≤ 30) (hb : 0 ≤ b) (hb' : b ≤ 30) (hm : 1 ≤ m) (hm' : m ≤ 31) (hv : VK l = true) :
    Calls Try.prog 68 #[.agg #[.int .i64 a, .int .i64 b, FnV A B M], .pointer (some ⟨kb, 0, none⟩)] w fun e w' => e = .returned (.int .i64 (2 * l.length + 2 * mt a b m l : Nat)) ∧ Below w.heap.size w w' := by
  have b1 : Below w.heap.size w (w.alloc (.cells #[.int .i64 a, .int .i64 b, FnV A B M] 65)) := (Below.refl _ _).alloc (Nat.le_refl _) _
  have hc := funLevels_any A B M a b m al l cap _ (hF.below b1) (hr.below b1) ha ha' hb hb' hm hm' hv
  have HC := Lib.hid hc
  have hk2 := (b1.cell (p := ⟨kb, 0, none⟩) (World.block_lt_of_cell? w _ hk)).trans hk
  clear hc
  go_enter Try.func68, Try.ntmps68
  go_wp2_with fail
  refine HC.out.mono ?_
  rintro e w2 ⟨rfl, b2⟩
  go_wp2
  go_ret
  exact ⟨rfl, b1.trans (b2.mono b1.size)⟩

theorem FBox.put {w : World} {g : Nat} {a b a' b' : Int} {v v' : Value} (h : FBox w g a b v) : FBox (((w.setCell ⟨g, 0, none⟩ (.int .i64 a')).setCell ⟨g, 1, none⟩ (.int .i64 b')).setCell ⟨g, 2, none⟩ v') g a' b' v' := by
  unfold FBox at h ⊢
  have h1 := heap_setCell_same w g 0 _ _ (.int .i64 a') h
  have h2 := heap_setCell_same _ g 1 _ _ (.int .i64 b') h1
  rw [heap_setCell_same _ g 2 _ _ v' h2]
  rfl
theorem inf_fun : (Try.prog.info? 65).map (·.size) = some 3 := by kernel_rfl
/-- Two results: a function's struct in a variable, and a value. -/
theorem ret_fun2 {fn : Func} {R : Ending → World → Prop} {ac : Act} {w : World} {p q : Tmp} (hf : fn.results = #[.cell p 65, .tmp q]) (hd : ac.defers = [])
    (g : Nat) (hp : ac.tmps.getD p undef = .pointer (some ⟨g, 0, none⟩)) (a b : Int) (v : Value) (hg : FBox w g a b v) (u : Value) (hq : ac.tmps.getD q undef = u) (hR : R (.returned (.tuple #[.agg #[.int .i64 a, .int .i64 b, v], u])) w) : bodyPost Try.prog fn R .ret ac w := by
  refine bodyPost_ret (v := .tuple #[.agg #[.int .i64 a, .int .i64 b, v], u]) ?_ hd hR
  have hp' : ac.tmps[p]?.getD undef = .pointer (some ⟨g, 0, none⟩) := by simpa using hp
  have hq' : ac.tmps[q]?.getD undef = u := by simpa using hq
  have hl' := run_loadVar_row (P := Try.prog) w g 65 65 #[.int .i64 a, .int .i64 b, v] (0, 0) _ hg Try.underlying65 rfl inf_fun
  simp [results, hf, hp', hq', asAddr, hl']
theorem FBox.fz {w : World} {g : Nat} {a b : Int} {v : Value} (h : FBox w g a b v) (k : Nat) : w.frozen? ⟨g, k, none⟩ = false := frozen_of_row w g k _ _ h
theorem below_put3 {B : Nat} {w w' : World} (h : Below B w w') {g : Nat} (hg : B ≤ g) (x y z : Value) : Below B w (((w'.setCell ⟨g, 0, none⟩ x).setCell ⟨g, 1, none⟩ y).setCell ⟨g, 2, none⟩ z) :=
  ((h.setCell (p := ⟨g, 0, none⟩) hg x).setCell (p := ⟨g, 1, none⟩) hg y).setCell (p := ⟨g, 2, none⟩) hg z

set_option maxHeartbeats 8000000 in
set_option maxRecDepth 100000 in
theorem bestOfA_any (m : Int) (al : Option Addr) (l : List Int) (capl kb : Nat) (G cap A0 B0 M0 : Nat) (w : World) (f : Nat → Nat) (hf : f = mtt m l) (hfb : ∀ t, f t ≤ 1000) (hFam : Fam w G m) (hcap : 929 ≤ cap) (hF0 : FunAt w A0 B0 M0 (fA 0 : Nat) (fB 0 : Nat) m)
    (hk : w.cell? ⟨kb, 0, none⟩ = some (.slice al l.length capl)) (hr : Reads w al l) (hm : 1 ≤ m) (hm' : m ≤ 31) (hv : VK l = true) :
    Calls Try.prog 66 #[.func (.func 65) #[] #[.pointer (some ⟨kb, 0, none⟩)], .agg #[.int .i64 (fA 0 : Nat), .int .i64 (fB 0 : Nat), FnV A0 B0 M0], .slice (some ⟨G, 3, none⟩) 929 cap] w fun e w' => ∃ A B M, e = .returned (.tuple #[.agg #[.int .i64 (fA (am f 929) : Nat), .int .i64 (fB (am f 929) : Nat), FnV A B M], .int .i64 (mn f 929 : Nat)]) ∧ Below w.heap.size w w' := by
  have hkb := World.block_lt_of_cell? w _ hk
  have hcost : ∀ wx, Below w.heap.size w wx → ∀ t, t < 930 → ∀ A B M, FunAt wx A B M (fA t : Nat) (fB t : Nat) m →
      Calls Try.prog 65 #[.agg #[.int .i64 (fA t : Nat), .int .i64 (fB t : Nat), FnV A B M], .pointer (some ⟨kb, 0, none⟩)] wx fun e w' => e = .returned (.int .i64 (f t : Nat)) ∧ Below wx.heap.size wx w' := by
    intro wx hb t ht A B M hF
    have h1 := fA_le ht
    have h2 := fB_le t
    have := apCost_any A B M (fA t : Nat) (fB t : Nat) m al l capl kb wx hF ((hb.cell (p := ⟨kb, 0, none⟩) hkb).trans hk) (hr.below hb) (by omega) (by omega) (by omega) (by omega) hm hm' hv
    rw [hf]
    exact this
  have HCOST := Lib.hid hcost
  clear hf
  have x0 := FBox.new w (fA 0 : Nat) (fB 0 : Nat) (FnV A0 B0 M0)
  obtain ⟨w1, e1⟩ : ∃ w1, w1 = w.alloc (.cells #[.int .i64 (fA 0 : Nat), .int .i64 (fB 0 : Nat), FnV A0 B0 M0] 65) := ⟨_, rfl⟩
  have z1 : w1.heap.size = w.heap.size + 1 := by rw [e1]; simp
  have b1 : Below w.heap.size w w1 := by rw [e1]; exact (Below.refl _ _).alloc (Nat.le_refl _) _
  rw [← e1] at x0
  have y0 := FBox.new w1 0 0 .nilFunc
  have x1 := x0.alloc (.cells #[.int .i64 0, .int .i64 0, .nilFunc] 65)
  have b2 := b1.alloc (by omega) (.cells #[.int .i64 0, .int .i64 0, .nilFunc] 65)
  rw [z1] at y0
  obtain ⟨w2, e2⟩ : ∃ w2, w2 = w1.alloc (.cells #[.int .i64 0, .int .i64 0, .nilFunc] 65) := ⟨_, rfl⟩
  have z2 : w2.heap.size = w.heap.size + 2 := by rw [e2]; simp; omega
  rw [← e2] at y0 x1 b2
  have E2 : Hid (w2 = (w.alloc (.cells #[.int .i64 (fA 0 : Nat), .int .i64 (fB 0 : Nat), FnV A0 B0 M0] 65)).alloc (.cells #[.int .i64 0, .int .i64 0, .nilFunc] 65)) := by show w2 = _; rw [e2, e1]
  have q0 := x1.c0
  have q1 := x1.c1
  have q2 := x1.c2
  have x4 := FBox.new w2 0 0 .nilFunc
  have b4 := b2.alloc (by omega) (.cells #[.int .i64 0, .int .i64 0, .nilFunc] 65)
  rw [z2] at x4
  have x5 := FBox.new w2 (fA 0 : Nat) (fB 0 : Nat) (FnV A0 B0 M0)
  rw [z2] at x5
  have en0 := World.new_ne w2 _ q0
  have en1 := World.new_ne w2 _ q1
  have en2 := World.new_ne w2 _ q2
  have bd0 : Below w2.heap.size w2 w2.drew := (Below.refl _ _).drew
  have bd1 : Below w2.heap.size w2 (w2.alloc (.cells #[.int .i64 0, .int .i64 0, .nilFunc] 65)).drew := ((Below.refl _ _).alloc (Nat.le_refl _) _).drew
  have bd1v : Below w2.heap.size w2 (w2.alloc (.cells #[.int .i64 (fA 0 : Nat), .int .i64 (fB 0 : Nat), FnV A0 B0 M0] 65)).drew := ((Below.refl _ _).alloc (Nat.le_refl _) _).drew
  have hc2 : ∀ wx, Below w2.heap.size w2 wx → Calls Try.prog 65 #[.agg #[.int .i64 (fA 0 : Nat), .int .i64 (fB 0 : Nat), FnV A0 B0 M0], .pointer (some ⟨kb, 0, none⟩)] wx fun e w' => e = .returned (.int .i64 (f 0 : Nat)) ∧ Below wx.heap.size wx w' ∧
      w'.cell? ⟨w.heap.size, 0, none⟩ = some (.int .i64 (fA 0 : Nat)) ∧ w'.cell? ⟨w.heap.size, 1, none⟩ = some (.int .i64 (fB 0 : Nat)) ∧ w'.cell? ⟨w.heap.size, 2, none⟩ = some (FnV A0 B0 M0) := by
    intro wx hb
    have hbw : Below w.heap.size w wx := b2.trans (hb.mono b2.size)
    refine (hcost wx hbw 0 (by omega) A0 B0 M0 (hF0.below hbw)).mono ?_
    rintro e w' ⟨rfl, b3⟩
    have x3 : FBox w' w.heap.size _ _ _ := FBox.belowAll b3 (FBox.belowAll hb x1)
    exact ⟨rfl, b3, x3.c0, x3.c1, x3.c2⟩
  have HC2 := Lib.hid hc2
  clear e1 e2 x0 hcost b1 z1 hc2
  go_enter Try.func66, Try.ntmps66
  go_upto_region 13 with fail
  rw [← E2.out]
  go_cut [8, 9] (fun s8 s9 wx => ∃ gb : Nat, s8 = .pointer (some ⟨gb, 0, none⟩) ∧ s9 = .int .i64 (f 0 : Nat) ∧ w.heap.size + 2 ≤ gb ∧ FBox wx gb (fA 0 : Nat) (fB 0 : Nat) (FnV A0 B0 M0) ∧ FBox wx (w.heap.size + 1) 0 0 .nilFunc ∧ Below w.heap.size w wx)
  case first =>
    go_region_held3 (fun w' => w'.cell? ⟨w.heap.size, 0, none⟩ = some (.int .i64 (fA 0 : Nat)) ∧ w'.cell? ⟨w.heap.size, 1, none⟩ = some (.int .i64 (fB 0 : Nat)) ∧ w'.cell? ⟨w.heap.size, 2, none⟩ = some (FnV A0 B0 M0)) (first | exact ⟨s0, s1, s2⟩ | go_keep)
      (first | (go_at_call 65; refine (HC2.out _ ?_).mono ?_; (first | exact bd0 | exact bd0.alloc (Nat.le_refl _) _ | exact bd1 | exact bd1v ); rintro e w3 ⟨rfl, b3, s0, s1, s2⟩; try (have y3 : FBox w3 (w.heap.size + 2) _ _ _ := FBox.belowAll b3 x4; have r0 := y3.c0; have r1 := y3.c1; have r2 := y3.c2; have r3 := y3.fz 0; have r4 := y3.fz 1; have r5 := y3.fz 2); try (have y4 : FBox w3 (w.heap.size + 2) _ _ _ := FBox.belowAll b3 x5)))
    all_goals
      have hb2 : Below w.heap.size w w2.drew := b2.drew
      have y0' : FBox w2.drew (w.heap.size + 1) 0 0 .nilFunc := y0
    · have hb3 : Below w2.heap.size w2 w3 := bd0.trans (b3.mono bd0.size)
      have hz3 := hb3.size
      go_wp2_with fail
      go_meet
      exact ⟨_, rfl, rfl, by omega, FBox.new w3 _ _ _, (FBox.belowAll hb3 y0).alloc _, (b2.trans (hb3.mono b2.size)).alloc (by omega) _⟩
    · have hb3 : Below w2.heap.size w2 w3 := bd1.trans (b3.mono bd1.size)
      go_wp2_with fail
      go_meet
      exact ⟨_, rfl, rfl, Nat.le_refl _, y3.put, ((((FBox.belowAll hb3 y0).other (by omega) _ _).other (by omega) _ _).other (by omega) _ _), below_put3 (b2.trans (hb3.mono b2.size)) (by omega) _ _ _⟩
  case rest =>
    have hFam2 : Fam w G m := hFam
    clear q0 q1 q2 x1 y0 x4 x5 b4 b2 E2 en0 en1 en2 bd0 bd1 bd1v HC2 z2
    obtain ⟨gb, rfl, rfl, hgb, hX, hR, hB⟩ := hcut
    go_wp2_with fail
    go_loopw [9, 19] (fun s9 s19 wr => ∃ (t A B M : Nat), t ≤ 929 ∧ s19 = .int .i64 t ∧ s9 = .int .i64 (mn f t : Nat) ∧ FBox wr gb (fA (am f t) : Nat) (fB (am f t) : Nat) (FnV A B M) ∧ FBox wr (w.heap.size + 1) 0 0 .nilFunc ∧ Below w.heap.size w wr) (fun _ i _ => 929 - (intOf i).toNat)
    case atStart => exact ⟨0, A0, B0, M0, by omega, rfl, rfl, hX, hR, hB⟩
    case round =>
      clear hX hR hB
      obtain ⟨t, A, B, M, ht, rfl, rfl, hX, hR, hB⟩ := hrel
      have hc0 := hX.c0
      have hc1 := hX.c1
      have hc2 := hX.c2
      by_cases hlt : t < 929
      · obtain ⟨A', B', M', e1, e2, e3, hF⟩ := (hFam2.below hB).el (t + 1) (by omega)
        have p0 : wr.cell? ⟨G, 3 + t * 3, none⟩ = some (.int .i64 (fA (t + 1) : Nat)) := by rw [show 3 + t * 3 = (t + 1) * 3 by omega]; exact e1
        have p1 : wr.cell? ⟨G, 3 + t * 3 + 1, none⟩ = some (.int .i64 (fB (t + 1) : Nat)) := by rw [show 3 + t * 3 + 1 = (t + 1) * 3 + 1 by omega]; exact e2
        have p2 : wr.cell? ⟨G, 3 + t * 3 + 2, none⟩ = some (FnV A' B' M') := by rw [show 3 + t * 3 + 2 = (t + 1) * 3 + 2 by omega]; exact e3
        have hmn : mn f (t + 1) = if f (t + 1) < mn f t then f (t + 1) else mn f t := rfl
        have ham : am f (t + 1) = if f (t + 1) < mn f t then t + 1 else am f t := by rw [am, am_mn f t]
        have x5 := FBox.new wr (fA (t + 1) : Nat) (fB (t + 1) : Nat) (FnV A' B' M')
        have bA : Below wr.heap.size wr (wr.alloc (.cells #[.int .i64 (fA (t + 1) : Nat), .int .i64 (fB (t + 1) : Nat), FnV A' B' M'] 65)) := (Below.refl _ _).alloc (Nat.le_refl _) _
        have hbA := hB.trans (bA.mono hB.size)
        have hcall := HCOST.out _ hbA (t + 1) (by omega) A' B' M' (hF.below bA)
        have hX2 := hX.alloc (.cells #[.int .i64 (fA (t + 1) : Nat), .int .i64 (fB (t + 1) : Nat), FnV A' B' M'] 65)
        have hR2 := hR.alloc (.cells #[.int .i64 (fA (t + 1) : Nat), .int .i64 (fB (t + 1) : Nat), FnV A' B' M'] 65)
        obtain ⟨w4, e4⟩ : ∃ w4, w4 = wr.alloc (.cells #[.int .i64 (fA (t + 1) : Nat), .int .i64 (fB (t + 1) : Nat), FnV A' B' M'] 65) := ⟨_, rfl⟩
        rw [← e4] at x5 hbA hcall hX2 hR2
        have E4 := Lib.hid e4
        have hfb1 := hfb (t + 1)
        obtain ⟨a', ha'⟩ : ∃ a', a' = fA (t + 1) := ⟨_, rfl⟩
        obtain ⟨b', hb'⟩ : ∃ b', b' = fB (t + 1) := ⟨_, rfl⟩
        obtain ⟨X, hX0⟩ : ∃ X, X = f (t + 1) := ⟨_, rfl⟩
        obtain ⟨Y, hY0⟩ : ∃ Y, Y = mn f t := ⟨_, rfl⟩
        rw [← ha', ← hb', ← hX0] at hcall
        rw [← ha'] at p0 x5 E4
        rw [← hb'] at p1 x5 E4
        rw [← hX0, ← hY0] at hmn ham
        rw [← hY0]
        have HC := Lib.hid hcall
        have HM := Lib.hid hmn
        have HA := Lib.hid ham
        have HA' := Lib.hid ha'
        have HB' := Lib.hid hb'
        have k0 := x5.c0
        have k1 := x5.c1
        have k2 := x5.c2
        have hw4 : w4.heap.size = wr.heap.size + 1 := by rw [e4]; simp
        clear e1 e2 e3 e4 hF hcall hmn ham hX0 hY0 ha' hb' hX hR hc0 hc1 hc2 bA hfb1
        go_wp2_with fail
        rw [← E4.out]
        refine HC.out.mono ?_
        rintro e w5 ⟨rfl, b5⟩
        have x6 := FBox.belowAll b5 x5
        have hX3 := FBox.belowAll b5 hX2
        have hR3 := FBox.belowAll b5 hR2
        have hB3 := hbA.trans (b5.mono hbA.size)
        have j0 := x6.c0
        have j1 := x6.c1
        have j2 := x6.c2
        have i0 := hX3.c0
        have i1 := hX3.c1
        have i2 := hX3.c2
        have f0 := hX3.fz 0
        have f1 := hX3.fz 1
        have f2 := hX3.fz 2
        clear k0 k1 k2 p0 p1 p2 hX2 hR2 hbA x5 HC b5 hB
        by_cases hXY : X < Y
        · have hd : decide ((X : Int) < (Y : Int)) = true := by simp; omega
          have hm1 : mn f (t + 1) = X := by rw [HM.out, if_pos hXY]
          have ha1 : am f (t + 1) = t + 1 := by rw [HA.out, if_pos hXY]
          have HM1 := Lib.hid hm1
          have HA1 := Lib.hid ha1
          have hX4 : FBox _ gb a' b' (FnV A' B' M') := hX3.put (a' := (a' : Int)) (b' := (b' : Int)) (v' := FnV A' B' M')
          have hR4 : FBox _ (w.heap.size + 1) 0 0 .nilFunc := ((hR3.other (g' := gb) (by omega) 0 (.int .i64 a')).other (g' := gb) (by omega) 1 (.int .i64 b')).other (g' := gb) (by omega) 2 (FnV A' B' M')
          have hB4 := below_put3 hB3 (g := gb) (by omega) (.int .i64 a') (.int .i64 b') (FnV A' B' M')
          clear hm1 ha1 hX3 hR3 hB3 hd
          go_wp2
          go_roundw
          case rel => exact ⟨t + 1, A', B', M', by omega, by go_num, by rw [HM1.out], by rw [HA1.out, ← HA'.out, ← HB'.out]; exact hX4, hR4, hB4⟩
          case measure => simp [intOf]; omega
        · have hd : decide ((X : Int) < (Y : Int)) = false := by simp; omega
          have hm1 : mn f (t + 1) = Y := by rw [HM.out, if_neg hXY]
          have ha1 : am f (t + 1) = am f t := by rw [HA.out, if_neg hXY]
          have HM1 := Lib.hid hm1
          have HA1 := Lib.hid ha1
          clear hm1 ha1 hd
          go_wp2
          go_roundw
          case rel => exact ⟨t + 1, A, B, M, by omega, by go_num, by rw [HM1.out], by rw [HA1.out]; exact hX3, hR3, hB3⟩
          case measure => simp [intOf]; omega
      · obtain rfl : t = 929 := by omega
        have h0 := hR.c0
        have h1 := hR.c1
        have h2 := hR.c2
        have f0 := hR.fz 0
        have f1 := hR.fz 1
        have f2 := hR.fz 2
        have hR4 : FBox _ (w.heap.size + 1) (fA (am f 929) : Nat) (fB (am f 929) : Nat) (FnV A B M) := hR.put
        have hB4 := below_put3 hB (g := w.heap.size + 1) (by omega) (.int .i64 (fA (am f 929) : Nat)) (.int .i64 (fB (am f 929) : Nat)) (FnV A B M)
        clear hX hR hB
        go_wp2
        exact ret_fun2 rfl rfl _ rfl _ _ _ hR4 _ rfl ⟨A, B, M, rfl, hB4⟩

set_option maxHeartbeats 8000000 in
set_option maxRecDepth 100000 in
theorem bestOfL_any (m : Int) (al : Option Addr) (l : List Int) (capl kb : Nat) (G cap A0 B0 M0 : Nat) (w : World) (f : Nat → Nat) (hf : f = fun t => 2 * l.length + 2 * mtt m l t) (hfb : ∀ t, f t ≤ 1000) (hFam : Fam w G m) (hcap : 929 ≤ cap) (hF0 : FunAt w A0 B0 M0 (fA 0 : Nat) (fB 0 : Nat) m)
    (hk : w.cell? ⟨kb, 0, none⟩ = some (.slice al l.length capl)) (hr : Reads w al l) (hm : 1 ≤ m) (hm' : m ≤ 31) (hv : VK l = true) :
    Calls Try.prog 66 #[.func (.func 68) #[] #[.pointer (some ⟨kb, 0, none⟩)], .agg #[.int .i64 (fA 0 : Nat), .int .i64 (fB 0 : Nat), FnV A0 B0 M0], .slice (some ⟨G, 3, none⟩) 929 cap] w fun e w' => ∃ A B M, e = .returned (.tuple #[.agg #[.int .i64 (fA (am f 929) : Nat), .int .i64 (fB (am f 929) : Nat), FnV A B M], .int .i64 (mn f 929 : Nat)]) ∧ Below w.heap.size w w' := by
  have hkb := World.block_lt_of_cell? w _ hk
  have hcost : ∀ wx, Below w.heap.size w wx → ∀ t, t < 930 → ∀ A B M, FunAt wx A B M (fA t : Nat) (fB t : Nat) m →
      Calls Try.prog 68 #[.agg #[.int .i64 (fA t : Nat), .int .i64 (fB t : Nat), FnV A B M], .pointer (some ⟨kb, 0, none⟩)] wx fun e w' => e = .returned (.int .i64 (f t : Nat)) ∧ Below wx.heap.size wx w' := by
    intro wx hb t ht A B M hF
    have h1 := fA_le ht
    have h2 := fB_le t
    have := blCost_any A B M (fA t : Nat) (fB t : Nat) m al l capl kb wx hF ((hb.cell (p := ⟨kb, 0, none⟩) hkb).trans hk) (hr.below hb) (by omega) (by omega) (by omega) (by omega) hm hm' hv
    rw [hf]
    exact this
  have HCOST := Lib.hid hcost
  clear hf
  have x0 := FBox.new w (fA 0 : Nat) (fB 0 : Nat) (FnV A0 B0 M0)
  obtain ⟨w1, e1⟩ : ∃ w1, w1 = w.alloc (.cells #[.int .i64 (fA 0 : Nat), .int .i64 (fB 0 : Nat), FnV A0 B0 M0] 65) := ⟨_, rfl⟩
  have z1 : w1.heap.size = w.heap.size + 1 := by rw [e1]; simp
  have b1 : Below w.heap.size w w1 := by rw [e1]; exact (Below.refl _ _).alloc (Nat.le_refl _) _
  rw [← e1] at x0
  have y0 := FBox.new w1 0 0 .nilFunc
  have x1 := x0.alloc (.cells #[.int .i64 0, .int .i64 0, .nilFunc] 65)
  have b2 := b1.alloc (by omega) (.cells #[.int .i64 0, .int .i64 0, .nilFunc] 65)
  rw [z1] at y0
  obtain ⟨w2, e2⟩ : ∃ w2, w2 = w1.alloc (.cells #[.int .i64 0, .int .i64 0, .nilFunc] 65) := ⟨_, rfl⟩
  have z2 : w2.heap.size = w.heap.size + 2 := by rw [e2]; simp; omega
  rw [← e2] at y0 x1 b2
  have E2 : Hid (w2 = (w.alloc (.cells #[.int .i64 (fA 0 : Nat), .int .i64 (fB 0 : Nat), FnV A0 B0 M0] 65)).alloc (.cells #[.int .i64 0, .int .i64 0, .nilFunc] 65)) := by show w2 = _; rw [e2, e1]
  have q0 := x1.c0
  have q1 := x1.c1
  have q2 := x1.c2
  have x4 := FBox.new w2 0 0 .nilFunc
  have b4 := b2.alloc (by omega) (.cells #[.int .i64 0, .int .i64 0, .nilFunc] 65)
  rw [z2] at x4
  have x5 := FBox.new w2 (fA 0 : Nat) (fB 0 : Nat) (FnV A0 B0 M0)
  rw [z2] at x5
  have en0 := World.new_ne w2 _ q0
  have en1 := World.new_ne w2 _ q1
  have en2 := World.new_ne w2 _ q2
  have bd0 : Below w2.heap.size w2 w2.drew := (Below.refl _ _).drew
  have bd1 : Below w2.heap.size w2 (w2.alloc (.cells #[.int .i64 0, .int .i64 0, .nilFunc] 65)).drew := ((Below.refl _ _).alloc (Nat.le_refl _) _).drew
  have bd1v : Below w2.heap.size w2 (w2.alloc (.cells #[.int .i64 (fA 0 : Nat), .int .i64 (fB 0 : Nat), FnV A0 B0 M0] 65)).drew := ((Below.refl _ _).alloc (Nat.le_refl _) _).drew
  have hc2 : ∀ wx, Below w2.heap.size w2 wx → Calls Try.prog 68 #[.agg #[.int .i64 (fA 0 : Nat), .int .i64 (fB 0 : Nat), FnV A0 B0 M0], .pointer (some ⟨kb, 0, none⟩)] wx fun e w' => e = .returned (.int .i64 (f 0 : Nat)) ∧ Below wx.heap.size wx w' ∧
      w'.cell? ⟨w.heap.size, 0, none⟩ = some (.int .i64 (fA 0 : Nat)) ∧ w'.cell? ⟨w.heap.size, 1, none⟩ = some (.int .i64 (fB 0 : Nat)) ∧ w'.cell? ⟨w.heap.size, 2, none⟩ = some (FnV A0 B0 M0) := by
    intro wx hb
    have hbw : Below w.heap.size w wx := b2.trans (hb.mono b2.size)
    refine (hcost wx hbw 0 (by omega) A0 B0 M0 (hF0.below hbw)).mono ?_
    rintro e w' ⟨rfl, b3⟩
    have x3 : FBox w' w.heap.size _ _ _ := FBox.belowAll b3 (FBox.belowAll hb x1)
    exact ⟨rfl, b3, x3.c0, x3.c1, x3.c2⟩
  have HC2 := Lib.hid hc2
  clear e1 e2 x0 hcost b1 z1 hc2
  go_enter Try.func66, Try.ntmps66
  go_upto_region 13 with fail
  rw [← E2.out]
  go_cut [8, 9] (fun s8 s9 wx => ∃ gb : Nat, s8 = .pointer (some ⟨gb, 0, none⟩) ∧ s9 = .int .i64 (f 0 : Nat) ∧ w.heap.size + 2 ≤ gb ∧ FBox wx gb (fA 0 : Nat) (fB 0 : Nat) (FnV A0 B0 M0) ∧ FBox wx (w.heap.size + 1) 0 0 .nilFunc ∧ Below w.heap.size w wx)
  case first =>
    go_region_held3 (fun w' => w'.cell? ⟨w.heap.size, 0, none⟩ = some (.int .i64 (fA 0 : Nat)) ∧ w'.cell? ⟨w.heap.size, 1, none⟩ = some (.int .i64 (fB 0 : Nat)) ∧ w'.cell? ⟨w.heap.size, 2, none⟩ = some (FnV A0 B0 M0)) (first | exact ⟨s0, s1, s2⟩ | go_keep)
      (first | (go_at_call 68; refine (HC2.out _ ?_).mono ?_; (first | exact bd0 | exact bd0.alloc (Nat.le_refl _) _ | exact bd1 | exact bd1v ); rintro e w3 ⟨rfl, b3, s0, s1, s2⟩; try (have y3 : FBox w3 (w.heap.size + 2) _ _ _ := FBox.belowAll b3 x4; have r0 := y3.c0; have r1 := y3.c1; have r2 := y3.c2; have r3 := y3.fz 0; have r4 := y3.fz 1; have r5 := y3.fz 2); try (have y4 : FBox w3 (w.heap.size + 2) _ _ _ := FBox.belowAll b3 x5)))
    all_goals
      have hb2 : Below w.heap.size w w2.drew := b2.drew
      have y0' : FBox w2.drew (w.heap.size + 1) 0 0 .nilFunc := y0
    · have hb3 : Below w2.heap.size w2 w3 := bd0.trans (b3.mono bd0.size)
      have hz3 := hb3.size
      go_wp2_with fail
      go_meet
      exact ⟨_, rfl, rfl, by omega, FBox.new w3 _ _ _, (FBox.belowAll hb3 y0).alloc _, (b2.trans (hb3.mono b2.size)).alloc (by omega) _⟩
    · have hb3 : Below w2.heap.size w2 w3 := bd1.trans (b3.mono bd1.size)
      go_wp2_with fail
      go_meet
      exact ⟨_, rfl, rfl, Nat.le_refl _, y3.put, ((((FBox.belowAll hb3 y0).other (by omega) _ _).other (by omega) _ _).other (by omega) _ _), below_put3 (b2.trans (hb3.mono b2.size)) (by omega) _ _ _⟩
  case rest =>
    have hFam2 : Fam w G m := hFam
    clear q0 q1 q2 x1 y0 x4 x5 b4 b2 E2 en0 en1 en2 bd0 bd1 bd1v HC2 z2
    obtain ⟨gb, rfl, rfl, hgb, hX, hR, hB⟩ := hcut
    go_wp2_with fail
    go_loopw [9, 19] (fun s9 s19 wr => ∃ (t A B M : Nat), t ≤ 929 ∧ s19 = .int .i64 t ∧ s9 = .int .i64 (mn f t : Nat) ∧ FBox wr gb (fA (am f t) : Nat) (fB (am f t) : Nat) (FnV A B M) ∧ FBox wr (w.heap.size + 1) 0 0 .nilFunc ∧ Below w.heap.size w wr) (fun _ i _ => 929 - (intOf i).toNat)
    case atStart => exact ⟨0, A0, B0, M0, by omega, rfl, rfl, hX, hR, hB⟩
    case round =>
      clear hX hR hB
      obtain ⟨t, A, B, M, ht, rfl, rfl, hX, hR, hB⟩ := hrel
      have hc0 := hX.c0
      have hc1 := hX.c1
      have hc2 := hX.c2
      by_cases hlt : t < 929
      · obtain ⟨A', B', M', e1, e2, e3, hF⟩ := (hFam2.below hB).el (t + 1) (by omega)
        have p0 : wr.cell? ⟨G, 3 + t * 3, none⟩ = some (.int .i64 (fA (t + 1) : Nat)) := by rw [show 3 + t * 3 = (t + 1) * 3 by omega]; exact e1
        have p1 : wr.cell? ⟨G, 3 + t * 3 + 1, none⟩ = some (.int .i64 (fB (t + 1) : Nat)) := by rw [show 3 + t * 3 + 1 = (t + 1) * 3 + 1 by omega]; exact e2
        have p2 : wr.cell? ⟨G, 3 + t * 3 + 2, none⟩ = some (FnV A' B' M') := by rw [show 3 + t * 3 + 2 = (t + 1) * 3 + 2 by omega]; exact e3
        have hmn : mn f (t + 1) = if f (t + 1) < mn f t then f (t + 1) else mn f t := rfl
        have ham : am f (t + 1) = if f (t + 1) < mn f t then t + 1 else am f t := by rw [am, am_mn f t]
        have x5 := FBox.new wr (fA (t + 1) : Nat) (fB (t + 1) : Nat) (FnV A' B' M')
        have bA : Below wr.heap.size wr (wr.alloc (.cells #[.int .i64 (fA (t + 1) : Nat), .int .i64 (fB (t + 1) : Nat), FnV A' B' M'] 65)) := (Below.refl _ _).alloc (Nat.le_refl _) _
        have hbA := hB.trans (bA.mono hB.size)
        have hcall := HCOST.out _ hbA (t + 1) (by omega) A' B' M' (hF.below bA)
        have hX2 := hX.alloc (.cells #[.int .i64 (fA (t + 1) : Nat), .int .i64 (fB (t + 1) : Nat), FnV A' B' M'] 65)
        have hR2 := hR.alloc (.cells #[.int .i64 (fA (t + 1) : Nat), .int .i64 (fB (t + 1) : Nat), FnV A' B' M'] 65)
        obtain ⟨w4, e4⟩ : ∃ w4, w4 = wr.alloc (.cells #[.int .i64 (fA (t + 1) : Nat), .int .i64 (fB (t + 1) : Nat), FnV A' B' M'] 65) := ⟨_, rfl⟩
        rw [← e4] at x5 hbA hcall hX2 hR2
        have E4 := Lib.hid e4
        have hfb1 := hfb (t + 1)
        obtain ⟨a', ha'⟩ : ∃ a', a' = fA (t + 1) := ⟨_, rfl⟩
        obtain ⟨b', hb'⟩ : ∃ b', b' = fB (t + 1) := ⟨_, rfl⟩
        obtain ⟨X, hX0⟩ : ∃ X, X = f (t + 1) := ⟨_, rfl⟩
        obtain ⟨Y, hY0⟩ : ∃ Y, Y = mn f t := ⟨_, rfl⟩
        rw [← ha', ← hb', ← hX0] at hcall
        rw [← ha'] at p0 x5 E4
        rw [← hb'] at p1 x5 E4
        rw [← hX0, ← hY0] at hmn ham
        rw [← hY0]
        have HC := Lib.hid hcall
        have HM := Lib.hid hmn
        have HA := Lib.hid ham
        have HA' := Lib.hid ha'
        have HB' := Lib.hid hb'
        have k0 := x5.c0
        have k1 := x5.c1
        have k2 := x5.c2
        have hw4 : w4.heap.size = wr.heap.size + 1 := by rw [e4]; simp
        clear e1 e2 e3 e4 hF hcall hmn ham hX0 hY0 ha' hb' hX hR hc0 hc1 hc2 bA hfb1
        go_wp2_with fail
        rw [← E4.out]
        refine HC.out.mono ?_
        rintro e w5 ⟨rfl, b5⟩
        have x6 := FBox.belowAll b5 x5
        have hX3 := FBox.belowAll b5 hX2
        have hR3 := FBox.belowAll b5 hR2
        have hB3 := hbA.trans (b5.mono hbA.size)
        have j0 := x6.c0
        have j1 := x6.c1
        have j2 := x6.c2
        have i0 := hX3.c0
        have i1 := hX3.c1
        have i2 := hX3.c2
        have f0 := hX3.fz 0
        have f1 := hX3.fz 1
        have f2 := hX3.fz 2
        clear k0 k1 k2 p0 p1 p2 hX2 hR2 hbA x5 HC b5 hB
        by_cases hXY : X < Y
        · have hd : decide ((X : Int) < (Y : Int)) = true := by simp; omega
          have hm1 : mn f (t + 1) = X := by rw [HM.out, if_pos hXY]
          have ha1 : am f (t + 1) = t + 1 := by rw [HA.out, if_pos hXY]
          have HM1 := Lib.hid hm1
          have HA1 := Lib.hid ha1
          have hX4 : FBox _ gb a' b' (FnV A' B' M') := hX3.put (a' := (a' : Int)) (b' := (b' : Int)) (v' := FnV A' B' M')
          have hR4 : FBox _ (w.heap.size + 1) 0 0 .nilFunc := ((hR3.other (g' := gb) (by omega) 0 (.int .i64 a')).other (g' := gb) (by omega) 1 (.int .i64 b')).other (g' := gb) (by omega) 2 (FnV A' B' M')
          have hB4 := below_put3 hB3 (g := gb) (by omega) (.int .i64 a') (.int .i64 b') (FnV A' B' M')
          clear hm1 ha1 hX3 hR3 hB3 hd
          go_wp2
          go_roundw
          case rel => exact ⟨t + 1, A', B', M', by omega, by go_num, by rw [HM1.out], by rw [HA1.out, ← HA'.out, ← HB'.out]; exact hX4, hR4, hB4⟩
          case measure => simp [intOf]; omega
        · have hd : decide ((X : Int) < (Y : Int)) = false := by simp; omega
          have hm1 : mn f (t + 1) = Y := by rw [HM.out, if_neg hXY]
          have ha1 : am f (t + 1) = am f t := by rw [HA.out, if_neg hXY]
          have HM1 := Lib.hid hm1
          have HA1 := Lib.hid ha1
          clear hm1 ha1 hd
          go_wp2
          go_roundw
          case rel => exact ⟨t + 1, A, B, M, by omega, by go_num, by rw [HM1.out], by rw [HA1.out]; exact hX3, hR3, hB3⟩
          case measure => simp [intOf]; omega
      · obtain rfl : t = 929 := by omega
        have h0 := hR.c0
        have h1 := hR.c1
        have h2 := hR.c2
        have f0 := hR.fz 0
        have f1 := hR.fz 1
        have f2 := hR.fz 2
        have hR4 : FBox _ (w.heap.size + 1) (fA (am f 929) : Nat) (fB (am f 929) : Nat) (FnV A B M) := hR.put
        have hB4 := below_put3 hB (g := w.heap.size + 1) (by omega) (.int .i64 (fA (am f 929) : Nat)) (.int .i64 (fB (am f 929) : Nat)) (FnV A B M)
        clear hX hR hB
        go_wp2
        exact ret_fun2 rfl rfl _ rfl _ _ _ hR4 _ rfl ⟨A, B, M, rfl, hB4⟩
end Go.Proofs.Ytapkalpmnldhpaa
