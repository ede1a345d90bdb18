/-
  impl.ApartBy, LeastApart, BestLevels.
-/
import Derived.Test.YtapkalpmnldhpaaF6
namespace Go.Proofs.Ytapkalpmnldhpaa
open Go.RowKit

theorem mtt_le {m : Int} {l : List Int} (h : VK l = true) (t : Nat) : mtt m l t ≤ 1000 := by
  have := mt100 (a := fA t) (b := fB t) (m := m) h
  unfold mtt; omega

/-- The family's slice, its length by a name. -/
theorem familyOf_n (m : Int) (w : World) :
    Calls Try.prog 63 #[.int .i64 m] w fun e w' => ∃ G cap N, e = .returned (.slice (some ⟨G, 0, none⟩) N cap) ∧ Hid (N = 930) ∧ 930 ≤ cap ∧ cap ≤ maxLen ∧ Fam w' G m ∧ Below w.heap.size w w' :=
  (familyOf_any m w).mono fun _ _ ⟨G, cap, h1, h2, h3, h4, h5⟩ => ⟨G, cap, 930, h1, rfl, h2, h3, h4, h5⟩

/-- What ApartBy's answer is by the first best function. -/
theorem apV_am {m : Int} {l : List Int} : apV m l = if mn (mtt m l) 929 = 0 then .tuple #[.int .i64 (fA (am (mtt m l) 929) : Nat), .int .i64 (fB (am (mtt m l) 929) : Nat), .bool true] else .tuple #[.int .i64 0, .int .i64 0, .bool false] := by
  unfold apV
  rw [ap_am, am_mn (mtt m l) 929]
  split <;> rfl

set_option maxHeartbeats 8000000 in
set_option maxRecDepth 100000 in
theorem implApartBy_yes (m : Int) (al : Option Addr) (l : List Int) (cap : Nat) (w : World) (hr : Reads w al l) (hl : l.length ≤ 1048586) (hm : 1 ≤ m) (hm' : m ≤ 31) (hv : VK l = true) :
    Calls Try.prog 28 #[.int .i64 m, .slice al l.length cap] w fun e w' => e = .returned (apV m l) ∧ Below w.heap.size w w' := by
  have b0 : Below w.heap.size w (w.alloc (.cells #[.slice al l.length cap] 24)) := (Below.refl _ _).alloc (Nat.le_refl _) _
  have k0 : (w.alloc (.cells #[.slice al l.length cap] 24)).cell? ⟨w.heap.size, 0, none⟩ = some (.slice al l.length cap) := by rw [cell_of_row _ _ _ _ _ _ (heap_alloc_new _ _)]; rfl
  have hr0 := hr.below b0
  obtain ⟨w0, e0⟩ : ∃ w0, w0 = w.alloc (.cells #[.slice al l.length cap] 24) := ⟨_, rfl⟩
  have z0 : w0.heap.size = w.heap.size + 1 := by rw [e0]; simp
  rw [← e0] at b0 k0 hr0
  have hs := isSize_any m w0
  rw [SZ_iff.2 ⟨hm, hm'⟩] at hs
  have hc := implvalidKeys_any al l cap w0 hr0 hl
  rw [hv] at hc
  have E0 := Lib.hid e0
  have HSz := Lib.hid hs
  have HC := Lib.hid hc
  clear e0 hs hc
  go_enter Try.func28, Try.ntmps28
  go_wp2_with fail
  rw [← E0.out]
  refine HSz.out.mono ?_
  rintro e w' ⟨rfl, rfl⟩
  go_wp2_with fail
  refine HC.out.mono ?_
  rintro e w1 ⟨rfl, b1⟩
  have B1 := b0.trans (b1.mono b0.size)
  have k1 := (b1.cell (p := ⟨w.heap.size, 0, none⟩) (by show w.heap.size < w0.heap.size; omega)).trans k0
  have hr1 := hr0.below b1
  have z1 := b1.size
  clear HSz HC k0 hr0 b0 b1 E0
  go_wp2_with fail
  refine (familyOf_n m w1).mono ?_
  rintro e w2 ⟨G, cf, N, rfl, hN, c1, c2, hFam, b2⟩
  have hN1 : 1 ≤ N := by have := hN.out; omega
  have hNc : N ≤ cf := by have := hN.out; omega
  have B2 := B1.trans (b2.mono B1.size)
  have k2 := (b2.cell (p := ⟨w.heap.size, 0, none⟩) (by show w.heap.size < w1.heap.size; omega)).trans k1
  have hr2 := hr1.below b2
  have z2 := b2.size
  obtain ⟨A0, B0, M0, q0, q1, q2, hF0⟩ := hFam.el 0 (by omega)
  have q0' : w2.cell? ⟨G, 0, none⟩ = some (.int .i64 (fA 0 : Nat)) := q0
  have q1' : w2.cell? ⟨G, 1, none⟩ = some (.int .i64 (fB 0 : Nat)) := q1
  have q2' : w2.cell? ⟨G, 2, none⟩ = some (FnV A0 B0 M0) := q2
  have hG := hFam.lt
  obtain ⟨f, hf⟩ : ∃ f, f = mtt m l := ⟨_, rfl⟩
  obtain ⟨ta, hta⟩ : ∃ ta, ta = am f 929 := ⟨_, rfl⟩
  obtain ⟨Y, hY⟩ : ∃ Y, Y = mn f 929 := ⟨_, rfl⟩
  have hc2 : ∀ wx, Below w2.heap.size w2 wx → Calls Try.prog 66 #[.func (.func 65) #[] #[.pointer (some ⟨w.heap.size, 0, none⟩)], .agg #[.int .i64 (fA 0 : Nat), .int .i64 (fB 0 : Nat), FnV A0 B0 M0], .slice (some ⟨G, 3, none⟩) (N - 1) (cf - 1)] wx fun e w' => ∃ A B M, e = .returned (.tuple #[.agg #[.int .i64 (fA ta : Nat), .int .i64 (fB ta : Nat), FnV A B M], .int .i64 (Y : Nat)]) ∧ Below wx.heap.size wx w' ∧
      w'.cell? ⟨G, 0, none⟩ = some (.int .i64 (fA 0 : Nat)) ∧ w'.cell? ⟨G, 1, none⟩ = some (.int .i64 (fB 0 : Nat)) ∧ w'.cell? ⟨G, 2, none⟩ = some (FnV A0 B0 M0) := by
    intro wx hb
    rw [show N - 1 = 929 by have := hN.out; omega]
    refine (bestOfA_any m al l cap w.heap.size G (cf - 1) A0 B0 M0 wx f hf (by rw [hf]; exact mtt_le hv) (hFam.below hb) (by omega) (hF0.below hb) ((hb.cell (p := ⟨w.heap.size, 0, none⟩) (by show w.heap.size < w2.heap.size; omega)).trans k2) (hr2.below hb) hm hm' hv).mono ?_
    rintro e w' ⟨A, B, M, rfl, b3⟩
    rw [← hta, ← hY]
    have hb4 := hb.trans (b3.mono hb.size)
    exact ⟨A, B, M, rfl, b3, (hb4.cell (p := ⟨G, 0, none⟩) hG).trans q0', (hb4.cell (p := ⟨G, 1, none⟩) hG).trans q1', (hb4.cell (p := ⟨G, 2, none⟩) hG).trans q2'⟩
  have HC2 := Lib.hid hc2
  have en0 := World.new_ne w2 _ q0'
  have en1 := World.new_ne w2 _ q1'
  have en2 := World.new_ne w2 _ q2'
  have x4 := FBox.new w2 0 0 .nilFunc
  have bd0 : Below w2.heap.size w2 w2.drew := (Below.refl _ _).drew
  have bd1 : Below w2.heap.size w2 (w2.alloc (.cells #[.int .i64 0, .int .i64 0, .nilFunc] 65)).drew := ((Below.refl _ _).alloc (Nat.le_refl _) _).drew
  have i0 : (0 : Int) < (N : Int) := by omega
  have i3 : ¬ cf = 1 := by omega
  have i4 : 0 < N := by omega
  have zB := B2.size
  have i1 : (1 : Int) ≤ (N : Int) := by omega
  have i2 : (N : Int) ≤ (cf : Int) := by omega
  have hAPV := apV_am (m := m) (l := l)
  rw [← hf, ← hta, ← hY] at hAPV
  have HAPV := Lib.hid hAPV
  clear hc2 q0 q1 q2 hFam hF0 hf hta hY hAPV k1 hr1 B1 b2 z1
  go_upto_region 30 with fail
  go_cut [9, 10] (fun s9 s10 wx => ∃ gb A B M : Nat, s9 = .pointer (some ⟨gb, 0, none⟩) ∧ s10 = .int .i64 (Y : Nat) ∧ FBox wx gb (fA ta : Nat) (fB ta : Nat) (FnV A B M) ∧ Below w.heap.size w wx)
  case first =>
    go_region_held3 (fun w' => w'.cell? ⟨G, 0, none⟩ = some (.int .i64 (fA 0 : Nat)) ∧ w'.cell? ⟨G, 1, none⟩ = some (.int .i64 (fB 0 : Nat)) ∧ w'.cell? ⟨G, 2, none⟩ = some (FnV A0 B0 M0)) (first | exact ⟨s0, s1, s2⟩ | go_keep)
      (first | (go_at_call 66; refine (HC2.out _ ?_).mono ?_; (first | exact bd0 | exact bd0.alloc (Nat.le_refl _) _ | exact bd1); rintro e w3 ⟨A, B, M, rfl, b3, s0, s1, s2⟩; try (have y3 : FBox w3 w2.heap.size _ _ _ := FBox.belowAll b3 x4; have r0 := y3.c0; have r1 := y3.c1; have r2 := y3.c2; have r3 := y3.fz 0; have r4 := y3.fz 1; have r5 := y3.fz 2)))
    · have hb3 : Below w2.heap.size w2 w3 := bd0.trans (b3.mono bd0.size)
      have hz3 := hb3.size
      go_wp2_with fail
      go_meet
      exact ⟨_, A, B, M, rfl, rfl, FBox.new w3 _ _ _, (B2.trans (hb3.mono B2.size)).alloc (by omega) _⟩
    · have hb3 : Below w2.heap.size w2 w3 := bd1.trans (b3.mono bd1.size)
      go_wp2_with fail
      go_meet
      exact ⟨_, A, B, M, rfl, rfl, y3.put, below_put3 (B2.trans (hb3.mono B2.size)) (by omega) _ _ _⟩
  case rest =>
    clear x4 en0 en1 en2 bd0 bd1 q0' q1' q2' HC2 k2 hr2 B2
    obtain ⟨gb, A, B, M, rfl, rfl, hX, hB⟩ := hcut
    have h0 := hX.c0
    have h1 := hX.c1
    by_cases hY0 : Y = 0
    · have hA := HAPV.out
      rw [if_pos hY0] at hA
      have HA := Lib.hid hA
      clear hA HAPV
      subst hY0
      go_wp2_with fail
      go_quiet (fail)
      go_wp2
      go_ret3
      exact ⟨by rw [HA.out]; rfl, below_drewN hB _⟩
    · have hA := HAPV.out
      rw [if_neg hY0] at hA
      have HA := Lib.hid hA
      have hpos : 0 < Y := by omega
      clear hA HAPV
      go_wp2
      go_ret3
      exact ⟨by rw [HA.out]; rfl, hB⟩

set_option maxHeartbeats 2000000 in
theorem implApartBy_v (m : Int) (al : Option Addr) (l : List Int) (cap : Nat) (w : World) (_hm : In64 m) (hr : Reads w al l) (_hi : ∀ n ∈ l, In64 n) (hl : l.length ≤ 1048586) :
    Calls Try.prog 28 #[.int .i64 m, .slice al l.length cap] w fun e w' => e = .returned (APv m l) ∧ Below w.heap.size w w' := by
  by_cases h : SZ m = true ∧ VK l = true
  · rw [APv_yes h.1 h.2]
    obtain ⟨m1, m2⟩ := SZ_iff.1 h.1
    exact implApartBy_yes m al l cap w hr hl m1 m2 h.2
  · rw [APv_no h]
    have b0 : Below w.heap.size w (w.alloc (.cells #[.slice al l.length cap] 24)) := (Below.refl _ _).alloc (Nat.le_refl _) _
    have hs := isSize_any m (w.alloc (.cells #[.slice al l.length cap] 24))
    by_cases g1 : SZ m = true
    · have g2 : VK l = false := by simpa [g1] using h
      have hc := implvalidKeys_any al l cap _ (hr.below b0) hl
      rw [g1] at hs
      rw [g2] at hc
      have HSz := Lib.hid hs
      have HC := Lib.hid hc
      clear hs hc h
      go_enter Try.func28, Try.ntmps28
      go_wp2_with fail
      refine HSz.out.mono ?_
      rintro e w' ⟨rfl, rfl⟩
      go_wp2_with fail
      refine HC.out.mono ?_
      rintro e w1 ⟨rfl, b1⟩
      go_wp2
      go_ret3
      exact ⟨rfl, b0.trans (b1.mono b0.size)⟩
    · have g1' : SZ m = false := by simpa using g1
      rw [g1'] at hs
      have HSz := Lib.hid hs
      clear hs h
      go_enter Try.func28, Try.ntmps28
      go_wp2_with fail
      refine HSz.out.mono ?_
      rintro e w' ⟨rfl, rfl⟩
      go_wp2
      go_ret3
      exact ⟨rfl, b0⟩
theorem implApartBy_any (m : Int) (al : Option Addr) (l : List Int) (cap : Nat) (w : World) (hm : In64 m) (hr : Reads w al l) (hi : ∀ n ∈ l, In64 n) (hl : l.length ≤ 1048586) :
    Calls Try.prog 28 #[.int .i64 m, .slice al l.length cap] w fun e w' => e = .returned (.tuple #[.int .i64 (AP m l).1, .int .i64 (AP m l).2.1, .bool (AP m l).2.2]) ∧ Below w.heap.size w w' :=
  implApartBy_v m al l cap w hm hr hi hl
end Go.Proofs.Ytapkalpmnldhpaa
