/-
  impl.LeastApart, BestLevels.
-/
import Derived.Test.YtapkalpmnldhpaaF8
namespace Go.Proofs.Ytapkalpmnldhpaa
open Go.RowKit

set_option maxHeartbeats 2000000 in
theorem implLeastApart_any (al : Option Addr) (l : List Int) (cap : Nat) (w : World) (hr : Reads w al l) (hi : ∀ n ∈ l, In64 n) (hl : l.length ≤ 1048586) :
    Calls Try.prog 30 #[.slice al l.length cap] w fun e w' => e = .returned (.int .i64 (LA l)) ∧ Below w.heap.size w w' := by
  have hA : ∀ (k : Nat) (wx : World), k < 31 → Below w.heap.size w wx → Calls Try.prog 28 #[.int .i64 ((k : Int) + 1), .slice al l.length cap] wx fun e w' => e = .returned (.tuple #[.int .i64 (AP ((k : Int) + 1) l).1, .int .i64 (AP ((k : Int) + 1) l).2.1, .bool (AP ((k : Int) + 1) l).2.2]) ∧ Below wx.heap.size wx w' := fun k wx hk hb =>
    implApartBy_any ((k : Int) + 1) al l cap wx (by unfold In64; omega) (hr.below hb) hi hl
  have HA := Lib.hid hA
  clear hA
  by_cases hv : VK l = true
  · obtain ⟨i0, hi0, h1, h2, h3⟩ := la_spec hv
    have hLA : LA l = (i0 : Int) + 1 := by unfold LA; rw [if_pos hv, h1]
    have HLA := Lib.hid hLA
    have H2 := Lib.hid h2
    have H3 := Lib.hid h3
    clear hLA h1 h2 h3
    go_enter Try.func30, Try.ntmps30
    go_wp2
    go_loopw [3] (fun i wr => ∃ k : Nat, k ≤ i0 ∧ i = .int .i64 ((k : Int) + 1) ∧ Below w.heap.size w wr) (fun i _ => i0 + 1 - (intOf i).toNat)
    case atStart => exact ⟨0, by omega, by go_num, Below.refl _ _⟩
    case round =>
      obtain ⟨k, hk, rfl, hB⟩ := hrel
      have hc := HA.out k wr (by omega) hB
      have h31 : decide ((k : Int) + 1 ≤ 31) = true := by simp; omega
      have hok := AP_of (m := (k : Int) + 1) (l := l) (by omega) (by omega) hv
      by_cases e : k = i0
      · subst e
        rw [H2.out] at hok
        rw [hok] at hc
        have HC := Lib.hid hc
        clear hc hok
        go_wp2_with fail
        refine HC.out.mono ?_
        rintro e w1 ⟨rfl, b1⟩
        go_wp2
        go_ret
        exact ⟨ret_int HLA.out.symm, hB.trans (b1.mono hB.size)⟩
      · have hn := H3.out k (by omega)
        rw [hn] at hok
        have hok' : (AP ((k : Int) + 1) l).2.2 = false := hok
        rw [hok'] at hc
        have HC := Lib.hid hc
        clear hc hok hok' hn
        go_wp2_with fail
        refine HC.out.mono ?_
        rintro e w1 ⟨rfl, b1⟩
        go_wp2
        go_roundw
        case rel => exact ⟨k + 1, by omega, by go_num, hB.trans (b1.mono hB.size)⟩
        case measure => simp [intOf]; omega
  · have hL : LA l = -1 := by unfold LA; rw [if_neg hv]
    rw [hL]
    have hno : ∀ k : Nat, (AP ((k : Int) + 1) l).2.2 = false := fun k => by unfold AP; rw [if_neg (fun h => hv h.2)]
    have HN := Lib.hid hno
    clear hL hno
    go_enter Try.func30, Try.ntmps30
    go_wp2
    go_loopw [3] (fun i wr => ∃ k : Nat, k ≤ 31 ∧ i = .int .i64 ((k : Int) + 1) ∧ Below w.heap.size w wr) (fun i _ => 32 - (intOf i).toNat)
    case atStart => exact ⟨0, by omega, by go_num, Below.refl _ _⟩
    case round =>
      obtain ⟨k, hk, rfl, hB⟩ := hrel
      by_cases hlt : k < 31
      · have hc := HA.out k wr hlt hB
        rw [HN.out k] at hc
        have HC := Lib.hid hc
        have h31 : decide ((k : Int) + 1 ≤ 31) = true := by simp; omega
        clear hc
        go_wp2_with fail
        refine HC.out.mono ?_
        rintro e w1 ⟨rfl, b1⟩
        go_wp2
        go_roundw
        case rel => exact ⟨k + 1, by omega, by go_num, hB.trans (b1.mono hB.size)⟩
        case measure => simp [intOf]; omega
      · obtain rfl : k = 31 := by omega
        go_wp2
        go_ret
        exact ⟨rfl, hB⟩

set_option maxHeartbeats 8000000 in
set_option maxRecDepth 100000 in
theorem implBestLevels_yes (al : Option Addr) (l : List Int) (cap : Nat) (w : World) (hr : Reads w al l) (hl : l.length ≤ 1048586) (h0 : l.length ≠ 0) (hv : VK l = true) :
    Calls Try.prog 34 #[.slice al l.length cap] w fun e w' => e = .returned (.int .i64 (BL l)) ∧ Below w.heap.size w w' := by
  have hl8 := (VK_iff.1 hv).1
  have hm : (1 : Int) ≤ l.length := by omega
  have hm' : (l.length : Int) ≤ 31 := by omega
  have b0 : Below w.heap.size w (w.alloc (.cells #[.slice al l.length cap] 24)) := (Below.refl _ _).alloc (Nat.le_refl _) _
  have k0 : (w.alloc (.cells #[.slice al l.length cap] 24)).cell? ⟨w.heap.size, 0, none⟩ = some (.slice al l.length cap) := by rw [cell_of_row _ _ _ _ _ _ (heap_alloc_new _ _)]; rfl
  have hr0 := hr.below b0
  obtain ⟨w0, e0⟩ : ∃ w0, w0 = w.alloc (.cells #[.slice al l.length cap] 24) := ⟨_, rfl⟩
  have z0 : w0.heap.size = w.heap.size + 1 := by rw [e0]; simp
  rw [← e0] at b0 k0 hr0
  have hc := implvalidKeys_any al l cap w0 hr0 hl
  rw [hv] at hc
  have E0 := Lib.hid e0
  have HC := Lib.hid hc
  have H0 := Lib.hid h0
  have hd0 : ((l.length : Int) == 0) = false := by simp; intro e; exact h0 (by rw [e]; rfl)
  clear e0 hc h0
  go_enter Try.func34, Try.ntmps34
  go_wp2_with fail
  rw [← E0.out]
  refine HC.out.mono ?_
  rintro e w1 ⟨rfl, b1⟩
  have B1 := b0.trans (b1.mono b0.size)
  have k1 := (b1.cell (p := ⟨w.heap.size, 0, none⟩) (by show w.heap.size < w0.heap.size; omega)).trans k0
  have hr1 := hr0.below b1
  have z1 := b1.size
  clear HC k0 hr0 b0 b1 E0
  go_wp2_with fail
  refine (familyOf_n l.length w1).mono ?_
  rintro e w2 ⟨G, cf, N, rfl, hN, c1, c2, hFam, b2⟩
  have hN1 : 1 ≤ N := by have := hN.out; omega
  have hNc : N ≤ cf := by have := hN.out; omega
  have B2 := B1.trans (b2.mono B1.size)
  have k2 := (b2.cell (p := ⟨w.heap.size, 0, none⟩) (by show w.heap.size < w1.heap.size; omega)).trans k1
  have hr2 := hr1.below b2
  have z2 := b2.size
  obtain ⟨A0, B0, M0, q0, q1, q2, hF0⟩ := hFam.el 0 (by omega)
  have q0' : w2.cell? ⟨G, 0, none⟩ = some (.int .i64 (fA 0 : Nat)) := q0
  have q1' : w2.cell? ⟨G, 1, none⟩ = some (.int .i64 (fB 0 : Nat)) := q1
  have q2' : w2.cell? ⟨G, 2, none⟩ = some (FnV A0 B0 M0) := q2
  have hG := hFam.lt
  obtain ⟨f, hf⟩ : ∃ f, f = fun t => 2 * l.length + 2 * mtt l.length l t := ⟨_, rfl⟩
  obtain ⟨ta, hta⟩ : ∃ ta, ta = am f 929 := ⟨_, rfl⟩
  obtain ⟨Y, hY⟩ : ∃ Y, Y = mn f 929 := ⟨_, rfl⟩
  have hBL : BL l = (Y : Int) := by
    unfold BL; rw [if_pos ⟨fun e => H0.out (by rw [e]; rfl), hv⟩, hY, hf]; rfl
  have hfb : ∀ t, f t ≤ 1000 := fun t => by rw [hf]; have := lvl_le hv t; unfold lvl at this; simp only; omega
  have hc2 : ∀ wx, Below w2.heap.size w2 wx → Calls Try.prog 66 #[.func (.func 68) #[] #[.pointer (some ⟨w.heap.size, 0, none⟩)], .agg #[.int .i64 (fA 0 : Nat), .int .i64 (fB 0 : Nat), FnV A0 B0 M0], .slice (some ⟨G, 3, none⟩) (N - 1) (cf - 1)] wx fun e w' => ∃ A B M, e = .returned (.tuple #[.agg #[.int .i64 (fA ta : Nat), .int .i64 (fB ta : Nat), FnV A B M], .int .i64 (Y : Nat)]) ∧ Below wx.heap.size wx w' ∧
      w'.cell? ⟨G, 0, none⟩ = some (.int .i64 (fA 0 : Nat)) ∧ w'.cell? ⟨G, 1, none⟩ = some (.int .i64 (fB 0 : Nat)) ∧ w'.cell? ⟨G, 2, none⟩ = some (FnV A0 B0 M0) := by
    intro wx hb
    rw [show N - 1 = 929 by have := hN.out; omega]
    refine (bestOfL_any l.length al l cap w.heap.size G (cf - 1) A0 B0 M0 wx f hf hfb (hFam.below hb) (by omega) (hF0.below hb) ((hb.cell (p := ⟨w.heap.size, 0, none⟩) (by show w.heap.size < w2.heap.size; omega)).trans k2) (hr2.below hb) hm hm' hv).mono ?_
    rintro e w' ⟨A, B, M, rfl, b3⟩
    rw [← hta, ← hY]
    have hb4 := hb.trans (b3.mono hb.size)
    exact ⟨A, B, M, rfl, b3, (hb4.cell (p := ⟨G, 0, none⟩) hG).trans q0', (hb4.cell (p := ⟨G, 1, none⟩) hG).trans q1', (hb4.cell (p := ⟨G, 2, none⟩) hG).trans q2'⟩
  have HC2 := Lib.hid hc2
  have en0 := World.new_ne w2 _ q0'
  have en1 := World.new_ne w2 _ q1'
  have en2 := World.new_ne w2 _ q2'
  have x4 := FBox.new w2 0 0 .nilFunc
  have bd0 : Below w2.heap.size w2 w2.drew := (Below.refl _ _).drew
  have bd1 : Below w2.heap.size w2 (w2.alloc (.cells #[.int .i64 0, .int .i64 0, .nilFunc] 65)).drew := ((Below.refl _ _).alloc (Nat.le_refl _) _).drew
  have i0 : (0 : Int) < (N : Int) := by omega
  have i3 : ¬ cf = 1 := by omega
  have i4 : 0 < N := by omega
  have zB := B2.size
  have i1 : (1 : Int) ≤ (N : Int) := by omega
  have i2 : (N : Int) ≤ (cf : Int) := by omega
  have HBL := Lib.hid hBL
  clear hc2 q0 q1 q2 hFam hF0 hf hta hY hBL hfb k1 hr1 B1 b2 z1
  go_upto_region 27 with fail
  go_cut [6] (fun s6 wx => s6 = .int .i64 (Y : Nat) ∧ Below w.heap.size w wx)
  case first =>
    go_region_held3 (fun w' => w'.cell? ⟨G, 0, none⟩ = some (.int .i64 (fA 0 : Nat)) ∧ w'.cell? ⟨G, 1, none⟩ = some (.int .i64 (fB 0 : Nat)) ∧ w'.cell? ⟨G, 2, none⟩ = some (FnV A0 B0 M0)) (first | exact ⟨s0, s1, s2⟩ | go_keep)
      (first | (go_at_call 66; refine (HC2.out _ ?_).mono ?_; (first | exact bd0 | exact bd0.alloc (Nat.le_refl _) _ | exact bd1); rintro e w3 ⟨A, B, M, rfl, b3, s0, s1, s2⟩; try (have y3 : FBox w3 w2.heap.size _ _ _ := FBox.belowAll b3 x4; have r0 := y3.c0; have r1 := y3.c1; have r2 := y3.c2; have r3 := y3.fz 0; have r4 := y3.fz 1; have r5 := y3.fz 2)))
    · have hb3 : Below w2.heap.size w2 w3 := bd0.trans (b3.mono bd0.size)
      have hz3 := hb3.size
      go_wp2_with fail
      go_meet
      exact ⟨rfl, (B2.trans (hb3.mono B2.size)).alloc (by omega) _⟩
    · have hb3 : Below w2.heap.size w2 w3 := bd1.trans (b3.mono bd1.size)
      go_wp2_with fail
      go_meet
      exact ⟨rfl, below_put3 (B2.trans (hb3.mono B2.size)) (by omega) _ _ _⟩
  case rest =>
    clear x4 en0 en1 en2 bd0 bd1 q0' q1' q2' HC2 k2 hr2 B2
    obtain ⟨rfl, hB⟩ := hcut
    go_wp2
    go_ret
    exact ⟨ret_int HBL.out.symm, hB⟩

set_option maxHeartbeats 2000000 in
theorem implBestLevels_any (al : Option Addr) (l : List Int) (cap : Nat) (w : World) (hr : Reads w al l) (_hi : ∀ n ∈ l, In64 n) (hl : l.length ≤ 1048586) :
    Calls Try.prog 34 #[.slice al l.length cap] w fun e w' => e = .returned (.int .i64 (BL l)) ∧ Below w.heap.size w w' := by
  have b0 : Below w.heap.size w (w.alloc (.cells #[.slice al l.length cap] 24)) := (Below.refl _ _).alloc (Nat.le_refl _) _
  by_cases h0 : l = []
  · subst h0
    go_enter Try.func34, Try.ntmps34
    go_wp2
    go_ret
    exact ⟨rfl, b0⟩
  · have h1 : l.length ≠ 0 := fun e => h0 (List.eq_nil_of_length_eq_zero e)
    by_cases hv : VK l = true
    · exact implBestLevels_yes al l cap w hr hl h1 hv
    · have hL : BL l = -1 := by unfold BL; rw [if_neg (fun h => hv h.2)]
      rw [hL]
      have hv' : VK l = false := by simpa using hv
      have hc := implvalidKeys_any al l cap _ (hr.below b0) hl
      rw [hv'] at hc
      have HC := Lib.hid hc
      have hd0 : ((l.length : Int) == 0) = false := by simp; exact h0
      clear hc h0 h1 hL
      go_enter Try.func34, Try.ntmps34
      go_wp2_with fail
      refine HC.out.mono ?_
      rintro e w1 ⟨rfl, b1⟩
      go_wp2
      go_ret
      exact ⟨rfl, b0.trans (b1.mono b0.size)⟩
end Go.Proofs.Ytapkalpmnldhpaa
