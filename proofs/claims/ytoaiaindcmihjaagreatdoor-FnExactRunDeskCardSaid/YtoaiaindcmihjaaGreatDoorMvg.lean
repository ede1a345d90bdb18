
import Derived.Test.YtoaiaindcmihjaaGreatDoorMvf
import Derived.Test.YtoaiaindcmihjaaGreatDoorMvb
import Derived.Test.YtoaiaindcmihjaaGreatDoorMve
import Derived.Test.YtoaiaindcmihjaaGreatDoorMva
import Derived.Lib.AppendZerosOnto
import Derived.Lib.AppendZeros
import Derived.Shelf.SortM.Plain
import Derived.Shelf.SortM.SortNone
import Derived.Sort.OwnSortedInts
import Derived.Lib.SliceRun
import Derived.Deep.RegionHeld3
import Derived.Deep.QuietTactic
import Derived.Deep.DeepCutAuto
import Derived.Test.YtoaiaindcmihjaaGreatDoorMvc
/-
  impl.ApartBy, LeastApart, BestLevels.
-/
namespace Go.Proofs.YtoaiaindcmihjaaGreatDoor
open Go.RowKit

theorem mtt_le {m : Int} {l : List Int} (h : VK l = true) (t : Nat) : mtt m l t ≤ 1000 := by
  have := mt100 (a := fA t) (b := fB t) (m := m) h
  unfold mtt; omega

/-- The family's slice, its length by a name. -/
theorem familyOf_n (m : Int) (w : World) :
    Calls Tryz.prog 186 #[.int .i64 m] w fun e w' => ∃ G cap N, e = .returned (.slice (some ⟨G, 0, none⟩) N cap) ∧ Hid (N = 930) ∧ 930 ≤ cap ∧ cap ≤ maxLen ∧ Fam w' G m ∧ Below w.heap.size w w' :=
  (familyOf_any m w).mono fun _ _ ⟨G, cap, h1, h2, h3, h4, h5⟩ => ⟨G, cap, 930, h1, rfl, h2, h3, h4, h5⟩

/-- What ApartBy's answer is by the first best function. -/
theorem apV_am {m : Int} {l : List Int} : apV m l = if mn (mtt m l) 929 = 0 then .tuple #[.int .i64 (fA (am (mtt m l) 929) : Nat), .int .i64 (fB (am (mtt m l) 929) : Nat), .bool true] else .tuple #[.int .i64 0, .int .i64 0, .bool false] := by
  unfold apV
  rw [ap_am, am_mn (mtt m l) 929]
  split <;> rfl

set_option maxHeartbeats 8000000 in
set_option maxRecDepth 100000 in
theorem implApartBy_yes (m : Int) (al : Option Addr) (l : List Int) (cap : Nat) (w : World) (hr : Reads w al l) (hl : l.length ≤ 1048586) (hm : 1 ≤ m) (hm' : m ≤ 31) (hv : VK l = true) :
    Calls Tryz.prog 161 #[.int .i64 m, .slice al l.length cap] w fun e w' => e = .returned (apV m l) ∧ Below w.heap.size w w' := by
  have b0 : Below w.heap.size w (w.alloc (.cells #[.slice al l.length cap] 23)) := (Below.refl _ _).alloc (Nat.le_refl _) _
  have k0 : (w.alloc (.cells #[.slice al l.length cap] 23)).cell? ⟨w.heap.size, 0, none⟩ = some (.slice al l.length cap) := by rw [cell_of_row _ _ _ _ _ _ (heap_alloc_new _ _)]; rfl
  have hr0 := hr.below b0
  obtain ⟨w0, e0⟩ : ∃ w0, w0 = w.alloc (.cells #[.slice al l.length cap] 23) := ⟨_, rfl⟩
  have z0 : w0.heap.size = w.heap.size + 1 := by rw [e0]; simp
  rw [← e0] at b0 k0 hr0
  have hs := isSize_any m w0
  rw [SZ_iff.2 ⟨hm, hm'⟩] at hs
  have hc := implvalidKeys_any al l cap w0 hr0 hl
  rw [hv] at hc
  have E0 := Lib.hid e0
  have HSz := Lib.hid hs
  have HC := Lib.hid hc
  clear e0 hs hc
  go_enter Tryz.func161, Tryz.ntmps161
  go_wp2_with fail
  rw [← E0.out]
  refine HSz.out.mono ?_
  rintro e w' ⟨rfl, rfl⟩
  go_wp2_with fail
  refine HC.out.mono ?_
  rintro e w1 ⟨rfl, b1⟩
  have B1 := b0.trans (b1.mono b0.size)
  have k1 := (b1.cell (p := ⟨w.heap.size, 0, none⟩) (by show w.heap.size < w0.heap.size; omega)).trans k0
  have hr1 := hr0.below b1
  have z1 := b1.size
  clear HSz HC k0 hr0 b0 b1 E0
  go_wp2_with fail
  refine (familyOf_n m w1).mono ?_
  rintro e w2 ⟨G, cf, N, rfl, hN, c1, c2, hFam, b2⟩
  have hN1 : 1 ≤ N := by have := hN.out; omega
  have hNc : N ≤ cf := by have := hN.out; omega
  have B2 := B1.trans (b2.mono B1.size)
  have k2 := (b2.cell (p := ⟨w.heap.size, 0, none⟩) (by show w.heap.size < w1.heap.size; omega)).trans k1
  have hr2 := hr1.below b2
  have z2 := b2.size
  obtain ⟨A0, B0, M0, q0, q1, q2, hF0⟩ := hFam.el 0 (by omega)
  have q0' : w2.cell? ⟨G, 0, none⟩ = some (.int .i64 (fA 0 : Nat)) := q0
  have q1' : w2.cell? ⟨G, 1, none⟩ = some (.int .i64 (fB 0 : Nat)) := q1
  have q2' : w2.cell? ⟨G, 2, none⟩ = some (FnV A0 B0 M0) := q2
  have hG := hFam.lt
  obtain ⟨f, hf⟩ : ∃ f, f = mtt m l := ⟨_, rfl⟩
  obtain ⟨ta, hta⟩ : ∃ ta, ta = am f 929 := ⟨_, rfl⟩
  obtain ⟨Y, hY⟩ : ∃ Y, Y = mn f 929 := ⟨_, rfl⟩
  have hc2 : ∀ wx, Below w2.heap.size w2 wx → Calls Tryz.prog 187 #[.func (.func 184) #[] #[.pointer (some ⟨w.heap.size, 0, none⟩)], .agg #[.int .i64 (fA 0 : Nat), .int .i64 (fB 0 : Nat), FnV A0 B0 M0], .slice (some ⟨G, 3, none⟩) (N - 1) (cf - 1)] wx fun e w' => ∃ A B M, e = .returned (.tuple #[.agg #[.int .i64 (fA ta : Nat), .int .i64 (fB ta : Nat), FnV A B M], .int .i64 (Y : Nat)]) ∧ Below wx.heap.size wx w' ∧
      w'.cell? ⟨G, 0, none⟩ = some (.int .i64 (fA 0 : Nat)) ∧ w'.cell? ⟨G, 1, none⟩ = some (.int .i64 (fB 0 : Nat)) ∧ w'.cell? ⟨G, 2, none⟩ = some (FnV A0 B0 M0) := by
    intro wx hb
    rw [show N - 1 = 929 by have := hN.out; omega]
    refine (bestOfA_any m al l cap w.heap.size G (cf - 1) A0 B0 M0 wx f hf (by rw [hf]; exact mtt_le hv) (hFam.below hb) (by omega) (hF0.below hb) ((hb.cell (p := ⟨w.heap.size, 0, none⟩) (by show w.heap.size < w2.heap.size; omega)).trans k2) (hr2.below hb) hm hm' hv).mono ?_
    rintro e w' ⟨A, B, M, rfl, b3⟩
    rw [← hta, ← hY]
    have hb4 := hb.trans (b3.mono hb.size)
    exact ⟨A, B, M, rfl, b3, (hb4.cell (p := ⟨G, 0, none⟩) hG).trans q0', (hb4.cell (p := ⟨G, 1, none⟩) hG).trans q1', (hb4.cell (p := ⟨G, 2, none⟩) hG).trans q2'⟩
  have HC2 := Lib.hid hc2
  have en0 := World.new_ne w2 _ q0'
  have en1 := World.new_ne w2 _ q1'
  have en2 := World.new_ne w2 _ q2'
  have x4 := FBox.new w2 0 0 .nilFunc
  have bd0 : Below w2.heap.size w2 w2.drew := (Below.refl _ _).drew
  have bd1 : Below w2.heap.size w2 (w2.alloc (.cells #[.int .i64 0, .int .i64 0, .nilFunc] 200)).drew := ((Below.refl _ _).alloc (Nat.le_refl _) _).drew
  have i0 : (0 : Int) < (N : Int) := by omega
  have i3 : ¬ cf = 1 := by omega
  have i4 : 0 < N := by omega
  have zB := B2.size
  have i1 : (1 : Int) ≤ (N : Int) := by omega
  have i2 : (N : Int) ≤ (cf : Int) := by omega
  have hAPV := apV_am (m := m) (l := l)
  rw [← hf, ← hta, ← hY] at hAPV
  have HAPV := Lib.hid hAPV
  clear hc2 q0 q1 q2 hFam hF0 hf hta hY hAPV k1 hr1 B1 b2 z1
  go_upto_region 30 with fail
  go_cut [9, 10] (fun s9 s10 wx => ∃ gb A B M : Nat, s9 = .pointer (some ⟨gb, 0, none⟩) ∧ s10 = .int .i64 (Y : Nat) ∧ FBox wx gb (fA ta : Nat) (fB ta : Nat) (FnV A B M) ∧ Below w.heap.size w wx)
  case first =>
    go_region_held3 (fun w' => w'.cell? ⟨G, 0, none⟩ = some (.int .i64 (fA 0 : Nat)) ∧ w'.cell? ⟨G, 1, none⟩ = some (.int .i64 (fB 0 : Nat)) ∧ w'.cell? ⟨G, 2, none⟩ = some (FnV A0 B0 M0)) (first | exact ⟨s0, s1, s2⟩ | go_keep)
      (first | (go_at_call 187; refine (HC2.out _ ?_).mono ?_; (first | exact bd0 | exact bd0.alloc (Nat.le_refl _) _ | exact bd1); rintro e w3 ⟨A, B, M, rfl, b3, s0, s1, s2⟩; try (have y3 : FBox w3 w2.heap.size _ _ _ := FBox.belowAll b3 x4; have r0 := y3.c0; have r1 := y3.c1; have r2 := y3.c2; have r3 := y3.fz 0; have r4 := y3.fz 1; have r5 := y3.fz 2)))
    · have hb3 : Below w2.heap.size w2 w3 := bd0.trans (b3.mono bd0.size)
      have hz3 := hb3.size
      go_wp2_with fail
      go_meet
      exact ⟨_, A, B, M, rfl, rfl, FBox.new w3 _ _ _, (B2.trans (hb3.mono B2.size)).alloc (by omega) _⟩
    · have hb3 : Below w2.heap.size w2 w3 := bd1.trans (b3.mono bd1.size)
      go_wp2_with fail
      go_meet
      exact ⟨_, A, B, M, rfl, rfl, y3.put, below_put3 (B2.trans (hb3.mono B2.size)) (by omega) _ _ _⟩
  case rest =>
    clear x4 en0 en1 en2 bd0 bd1 q0' q1' q2' HC2 k2 hr2 B2
    obtain ⟨gb, A, B, M, rfl, rfl, hX, hB⟩ := hcut
    have h0 := hX.c0
    have h1 := hX.c1
    by_cases hY0 : Y = 0
    · have hA := HAPV.out
      rw [if_pos hY0] at hA
      have HA := Lib.hid hA
      clear hA HAPV
      subst hY0
      go_wp2_with fail
      go_quiet (fail)
      go_wp2
      go_ret3
      exact ⟨by rw [HA.out]; rfl, Go.below_drewN hB _⟩
    · have hA := HAPV.out
      rw [if_neg hY0] at hA
      have HA := Lib.hid hA
      have hpos : 0 < Y := by omega
      clear hA HAPV
      go_wp2
      go_ret3
      exact ⟨by rw [HA.out]; rfl, hB⟩

set_option maxHeartbeats 2000000 in
theorem implApartBy_v (m : Int) (al : Option Addr) (l : List Int) (cap : Nat) (w : World) (_hm : In64 m) (hr : Reads w al l) (_hi : ∀ n ∈ l, In64 n) (hl : l.length ≤ 1048586) :
    Calls Tryz.prog 161 #[.int .i64 m, .slice al l.length cap] w fun e w' => e = .returned (APv m l) ∧ Below w.heap.size w w' := by
  by_cases h : SZ m = true ∧ VK l = true
  · rw [APv_yes h.1 h.2]
    obtain ⟨m1, m2⟩ := SZ_iff.1 h.1
    exact implApartBy_yes m al l cap w hr hl m1 m2 h.2
  · rw [APv_no h]
    have b0 : Below w.heap.size w (w.alloc (.cells #[.slice al l.length cap] 23)) := (Below.refl _ _).alloc (Nat.le_refl _) _
    have hs := isSize_any m (w.alloc (.cells #[.slice al l.length cap] 23))
    by_cases g1 : SZ m = true
    · have g2 : VK l = false := by simpa [g1] using h
      have hc := implvalidKeys_any al l cap _ (hr.below b0) hl
      rw [g1] at hs
      rw [g2] at hc
      have HSz := Lib.hid hs
      have HC := Lib.hid hc
      clear hs hc h
      go_enter Tryz.func161, Tryz.ntmps161
      go_wp2_with fail
      refine HSz.out.mono ?_
      rintro e w' ⟨rfl, rfl⟩
      go_wp2_with fail
      refine HC.out.mono ?_
      rintro e w1 ⟨rfl, b1⟩
      go_wp2
      go_ret3
      exact ⟨rfl, b0.trans (b1.mono b0.size)⟩
    · have g1' : SZ m = false := by simpa using g1
      rw [g1'] at hs
      have HSz := Lib.hid hs
      clear hs h
      go_enter Tryz.func161, Tryz.ntmps161
      go_wp2_with fail
      refine HSz.out.mono ?_
      rintro e w' ⟨rfl, rfl⟩
      go_wp2
      go_ret3
      exact ⟨rfl, b0⟩
theorem implApartBy_any (m : Int) (al : Option Addr) (l : List Int) (cap : Nat) (w : World) (hm : In64 m) (hr : Reads w al l) (hi : ∀ n ∈ l, In64 n) (hl : l.length ≤ 1048586) :
    Calls Tryz.prog 161 #[.int .i64 m, .slice al l.length cap] w fun e w' => e = .returned (.tuple #[.int .i64 (AP m l).1, .int .i64 (AP m l).2.1, .bool (AP m l).2.2]) ∧ Below w.heap.size w w' :=
  implApartBy_v m al l cap w hm hr hi hl
end Go.Proofs.YtoaiaindcmihjaaGreatDoor
/-
  impl.LeastApart, BestLevels.
-/
namespace Go.Proofs.YtoaiaindcmihjaaGreatDoor
open Go.RowKit

set_option maxHeartbeats 2000000 in
theorem implLeastApart_any (al : Option Addr) (l : List Int) (cap : Nat) (w : World) (hr : Reads w al l) (hi : ∀ n ∈ l, In64 n) (hl : l.length ≤ 1048586) :
    Calls Tryz.prog 132 #[.slice al l.length cap] w fun e w' => e = .returned (.int .i64 (LA l)) ∧ Below w.heap.size w w' := by
  have hA : ∀ (k : Nat) (wx : World), k < 31 → Below w.heap.size w wx → Calls Tryz.prog 161 #[.int .i64 ((k : Int) + 1), .slice al l.length cap] wx fun e w' => e = .returned (.tuple #[.int .i64 (AP ((k : Int) + 1) l).1, .int .i64 (AP ((k : Int) + 1) l).2.1, .bool (AP ((k : Int) + 1) l).2.2]) ∧ Below wx.heap.size wx w' := fun k wx hk hb =>
    implApartBy_any ((k : Int) + 1) al l cap wx (by unfold In64; omega) (hr.below hb) hi hl
  have HA := Lib.hid hA
  clear hA
  by_cases hv : VK l = true
  · obtain ⟨i0, hi0, h1, h2, h3⟩ := la_spec hv
    have hLA : LA l = (i0 : Int) + 1 := by unfold LA; rw [if_pos hv, h1]
    have HLA := Lib.hid hLA
    have H2 := Lib.hid h2
    have H3 := Lib.hid h3
    clear hLA h1 h2 h3
    go_enter Tryz.func132, Tryz.ntmps132
    go_wp2
    go_loopw [3] (fun i wr => ∃ k : Nat, k ≤ i0 ∧ i = .int .i64 ((k : Int) + 1) ∧ Below w.heap.size w wr) (fun i _ => i0 + 1 - (intOf i).toNat)
    case atStart => exact ⟨0, by omega, by go_num, Below.refl _ _⟩
    case round =>
      obtain ⟨k, hk, rfl, hB⟩ := hrel
      have hc := HA.out k wr (by omega) hB
      have h31 : decide ((k : Int) + 1 ≤ 31) = true := by simp; omega
      have hok := AP_of (m := (k : Int) + 1) (l := l) (by omega) (by omega) hv
      by_cases e : k = i0
      · subst e
        rw [H2.out] at hok
        rw [hok] at hc
        have HC := Lib.hid hc
        clear hc hok
        go_wp2_with fail
        refine HC.out.mono ?_
        rintro e w1 ⟨rfl, b1⟩
        go_wp2
        go_ret
        exact ⟨ret_int HLA.out.symm, hB.trans (b1.mono hB.size)⟩
      · have hn := H3.out k (by omega)
        rw [hn] at hok
        have hok' : (AP ((k : Int) + 1) l).2.2 = false := hok
        rw [hok'] at hc
        have HC := Lib.hid hc
        clear hc hok hok' hn
        go_wp2_with fail
        refine HC.out.mono ?_
        rintro e w1 ⟨rfl, b1⟩
        go_wp2
        go_roundw
        case rel => exact ⟨k + 1, by omega, by go_num, hB.trans (b1.mono hB.size)⟩
        case measure => simp [intOf]; omega
  · have hL : LA l = -1 := by unfold LA; rw [if_neg hv]
    rw [hL]
    have hno : ∀ k : Nat, (AP ((k : Int) + 1) l).2.2 = false := fun k => by unfold AP; rw [if_neg (fun h => hv h.2)]
    have HN := Lib.hid hno
    clear hL hno
    go_enter Tryz.func132, Tryz.ntmps132
    go_wp2
    go_loopw [3] (fun i wr => ∃ k : Nat, k ≤ 31 ∧ i = .int .i64 ((k : Int) + 1) ∧ Below w.heap.size w wr) (fun i _ => 32 - (intOf i).toNat)
    case atStart => exact ⟨0, by omega, by go_num, Below.refl _ _⟩
    case round =>
      obtain ⟨k, hk, rfl, hB⟩ := hrel
      by_cases hlt : k < 31
      · have hc := HA.out k wr hlt hB
        rw [HN.out k] at hc
        have HC := Lib.hid hc
        have h31 : decide ((k : Int) + 1 ≤ 31) = true := by simp; omega
        clear hc
        go_wp2_with fail
        refine HC.out.mono ?_
        rintro e w1 ⟨rfl, b1⟩
        go_wp2
        go_roundw
        case rel => exact ⟨k + 1, by omega, by go_num, hB.trans (b1.mono hB.size)⟩
        case measure => simp [intOf]; omega
      · obtain rfl : k = 31 := by omega
        go_wp2
        go_ret
        exact ⟨rfl, hB⟩

end Go.Proofs.YtoaiaindcmihjaaGreatDoor
/-
  impl.endOf, isName, isLine, validNames (names).
-/
namespace Go.Proofs.YtoaiaindcmihjaaGreatDoor
open Go.RowKit

theorem pow40 {n : Nat} (h : n ≤ 40) : 2 ^ n ≤ 1099511627776 := Nat.pow_le_pow_right (n := 2) (by omega) h
theorem tmod_nat (a b : Nat) : ((a : Int)).tmod (b : Int) = ((a % b : Nat) : Int) := by
  rw [Int.tmod_eq_emod_of_nonneg (by omega)]; rfl
theorem shl1 (t p : Nat) (ht : t ≤ 40) (hp : p = 2 ^ t) : IntKind.i64.wrap (1 * 2 ^ min ((t : Int)).toNat 64) = (p : Int) ∧ IntKind.i64.wrap (2 ^ min t 64) = (p : Int) ∧ IntKind.i64.wrap (2 ^ t) = (p : Int) := by
  have hs := pow40 ht
  have e : ((2 : Int) ^ t) = (p : Int) := by rw [hp]; simp
  have e2 : IntKind.i64.wrap (p : Int) = (p : Int) := IntWalk.i64_in _ (by omega)
  rw [Int.toNat_natCast, Int.one_mul, Nat.min_eq_left (by omega), e]
  exact ⟨e2, e2, e2⟩
set_option maxHeartbeats 2000000 in
theorem endOf_any (d x : Nat) (w : World) (hd : d ≤ 40) (hx : x ≤ 1000000) : Calls Tryz.prog 119 #[.int .i64 (d : Int), .int .i64 (x : Int)] w fun e w' => e = .returned (.int .i64 ((x % 2 ^ d : Nat) : Int)) ∧ w = w' := by
  obtain ⟨p, hp⟩ : ∃ p, p = 2 ^ d := ⟨_, rfl⟩
  obtain ⟨e1, e2, e3⟩ := shl1 d p hd hp
  have hps := pow40 hd
  have hp0 := Nat.two_pow_pos d
  rw [← hp] at hps hp0 ⊢
  have ht := tmod_nat x p
  have hm := Nat.mod_le x p
  obtain ⟨r, hr⟩ : ∃ r, r = x % p := ⟨_, rfl⟩
  rw [← hr] at ht hm ⊢
  clear hr hp
  go_enter Tryz.func119, Tryz.ntmps119
  go_wp2
  all_goals
    go_ret
    exact ⟨by first | rfl | (simp only [e1, ht]) | (simp only [e2, ht]) | (simp only [e3, ht]) | (simp [e1, e2, e3, ht]), rfl⟩
set_option maxHeartbeats 1000000 in
theorem isName_any (x : Int) (w : World) : Calls Tryz.prog 52 #[.int .i64 x] w fun e w' => e = .returned (.bool (decide (0 ≤ x ∧ x ≤ 63))) ∧ w = w' := by
  by_cases h : 0 ≤ x
  · have hd : decide (0 ≤ x ∧ x ≤ 63) = decide (x < 64) := by rw [decide_eq_decide]; omega
    rw [hd]
    go_enter Tryz.func52, Tryz.ntmps52
    go_wp2
    go_ret
    exact ⟨rfl, rfl⟩
  · have hd : decide (0 ≤ x ∧ x ≤ 63) = false := by simp; omega
    rw [hd]
    go_enter Tryz.func52, Tryz.ntmps52
    go_wp2
    go_ret
    exact ⟨rfl, rfl⟩
end Go.Proofs.YtoaiaindcmihjaaGreatDoor
/-
  impl.validNames (an array of 64 truth values).
-/
namespace Go.Proofs.YtoaiaindcmihjaaGreatDoor
open Go.RowKit

theorem barr_zero64 : ((List.replicate 64 false).map Value.bool).toArray = #[.bool false, .bool false, .bool false, .bool false, .bool false, .bool false, .bool false, .bool false, .bool false, .bool false, .bool false, .bool false, .bool false, .bool false, .bool false, .bool false, .bool false, .bool false, .bool false, .bool false, .bool false, .bool false, .bool false, .bool false, .bool false, .bool false, .bool false, .bool false, .bool false, .bool false, .bool false, .bool false, .bool false, .bool false, .bool false, .bool false, .bool false, .bool false, .bool false, .bool false, .bool false, .bool false, .bool false, .bool false, .bool false, .bool false, .bool false, .bool false, .bool false, .bool false, .bool false, .bool false, .bool false, .bool false, .bool false, .bool false, .bool false, .bool false, .bool false, .bool false, .bool false, .bool false, .bool false, .bool false] := rfl
/-- Which names have been seen. -/
def skN (l : List Int) (k : Nat) : List Bool := (List.range 64).map fun s : Nat => decide ((s : Int) ∈ l.take k)
theorem skN_len (l : List Int) (k : Nat) : (skN l k).length = 64 := by simp [skN]
theorem skN_zero (l : List Int) : skN l 0 = List.replicate 64 false := by simp [skN]; decide
theorem skN_get (l : List Int) (k : Nat) {s : Nat} (h : s < 64) : (skN l k).getD s false = decide ((s : Int) ∈ l.take k) := by simp [skN, List.getD, h]
theorem skN_succ {l : List Int} {k X : Nat} (hk : k < l.length) (hX : l.getD k 0 = X) (h31 : X < 64) : (skN l k).set X true = skN l (k + 1) := by
  refine List.ext_getElem (by simp [skN]) fun i h1 h2 => ?_
  have hi : i < 64 := by simpa [skN] using h2
  rw [List.getElem_set]
  simp only [skN, List.getElem_map, List.getElem_range, take_snocN hk, hX]
  by_cases e : X = i
  · subst e; simp
  · have : ¬ (i : Int) = (X : Int) := by omega
    simp [e, this]
set_option maxHeartbeats 4000000 in
theorem implvalidNames_any (a : Option Addr) (l : List Int) (cap : Nat) (w : World) (hr : Reads w a l) (hl : l.length ≤ 1048586) :
    Calls Tryz.prog 30 #[.slice a l.length cap] w fun e w' => e = .returned (.bool (VNm l)) ∧ Below w.heap.size w w' := by
  by_cases h8 : 12 < l.length
  · have hv : VNm l = false := by rw [← Bool.not_eq_true, VNm_iff]; omega
    go_enter Tryz.func30, Tryz.ntmps30
    go_wp2
    go_ret
    exact ⟨ret_bool (by first | exact hv.symm | rfl), Below.refl _ _⟩
  · have h0 : BArr (w.alloc (.cells ((List.replicate 64 false).map Value.bool).toArray 75)) 75 w.heap.size (List.replicate 64 false) := BArr.new w _ _
    rw [barr_zero64, ← skN_zero l] at h0
    have B0 := (Below.refl w.heap.size w).alloc (Nat.le_refl _) (.cells ((List.replicate 64 false).map Value.bool).toArray 75)
    rw [barr_zero64] at B0
    go_enter Tryz.func30, Tryz.ntmps30
    go_wp2
    go_loopw [11] (fun i wr => ∃ k : Nat, k ≤ l.length ∧ i = .int .i64 k ∧ Hid (VNp l k) ∧ BArr wr 75 w.heap.size (skN l k) ∧ Below w.heap.size w wr) (fun i _ => l.length - (intOf i).toNat)
    case atStart => exact ⟨0, Nat.zero_le _, rfl, fun j hj => by omega, h0, B0⟩
    case round =>
      clear h0 B0
      obtain ⟨k, hk, rfl, hf, hS, hB⟩ := hrel
      by_cases hlt : k < l.length
      · obtain ⟨b, off, y, rfl, hbb, hcell, hy⟩ := hr.get hlt
        have hc1 : wr.cell? ⟨b, off + k, none⟩ = some (.int .i64 y) := (hB.cell (by exact hbb)).trans hcell
        have hk1 : (k : Int) < (l.length : Int) := by omega
        have ci := fun wx => isName_any y wx
        by_cases g1 : 0 ≤ y ∧ y ≤ 63
        · obtain ⟨y0, y1⟩ := g1
          rw [decide_eq_true (show 0 ≤ y ∧ y ≤ 63 from ⟨y0, y1⟩)] at ci
          obtain ⟨Y, rfl⟩ := Int.eq_ofNat_of_zero_le y0
          obtain ⟨s, hcs, hs⟩ := hS.get (k := Y) (by rw [skN_len]; omega)
          have hs2 := hs.out
          rw [skN_get _ _ (by omega)] at hs2
          have hfz := hS.frozen Y
          have D := Lib.hid ci
          clear ci
          by_cases g2 : (Y : Int) ∈ l.take k
          · have : s = true := by rw [← hs2]; exact decide_eq_true g2
            subst this
            have HB := Lib.hid (VNm_bad2 hlt (by rw [hy.out]; exact g2))
            clear g2 hs2
            go_wp2_with (first | (go_at_call 52; refine (D.out _).mono ?_; rintro e w' ⟨rfl, rfl⟩))
            go_ret
            exact ⟨ret_bool HB.out.symm, hB⟩
          · have : s = false := by rw [← hs2]; exact decide_eq_false g2
            subst this
            have HB := Lib.hid (hf.out.succ (by rw [hy.out]; omega) (by rw [hy.out]; exact g2))
            have hst := hS.store Y true
            rw [skN_succ hlt hy.out (by omega)] at hst
            have hB2 := hB.setCell (p := ⟨w.heap.size, Y, none⟩) (Nat.le_refl _) (.bool true)
            clear g2 hs2
            go_wp2_with (first | (go_at_call 52; refine (D.out _).mono ?_; rintro e w' ⟨rfl, rfl⟩))
            go_roundw
            case rel => exact ⟨k + 1, by omega, by go_num, HB, hst, hB2⟩
            case measure => simp [intOf]; omega
        · rw [decide_eq_false g1] at ci
          have D := Lib.hid ci
          clear ci
          have HB := Lib.hid (VNm_bad1 hlt (by rw [hy.out]; exact g1))
          go_wp2_with (first | (go_at_call 52; refine (D.out _).mono ?_; rintro e w' ⟨rfl, rfl⟩))
          go_ret
          exact ⟨ret_bool HB.out.symm, hB⟩
      · obtain rfl : k = l.length := by omega
        have HB := Lib.hid (VNm_end hf.out)
        go_wp2
        go_ret
        exact ⟨ret_bool (by rw [HB.out]; simp; omega), hB⟩
end Go.Proofs.YtoaiaindcmihjaaGreatDoor
/-
  append of a whole slice of ints (none among them) to one of the call's own.
-/
namespace Go.Proofs.YtoaiaindcmihjaaGreatDoor
open Go.RowKit

theorem run_append_noneB (w : World) (ty : TypeId) (g n cap c : Nat) (ax : Option Addr) (h : n ≤ cap) :
    (Builtin.append_ #[23, 23] ty #[.slice (some ⟨g, 0, none⟩) n cap, .slice ax 0 c]).run Tryz.prog w = .ok (.slice (some ⟨g, 0, none⟩) n cap) w := by
  obtain ⟨i0, hi, hz0, hz1, hz2⟩ := info_parts infoInt
  cases ax <;> simp [Builtin.append_, run_underlying Tryz.underlying23, sizeOf, typeInfo, hi, Builtin.lenOf, h, Builtin.firstCells, loadCells, loadCellsFrom, storeCells]
theorem push_allK {wr : World} {ops : Array Oper} {rest : List Oper} {o : Oper} {a : Act} {Q : Exit → Act → World → Prop} (hgd : o.guard = none) (s x : Operand)
    (ho : o.op = .call { callee := .builtin .append, args := #[s, x], argTypes := #[23, 23] })
    (base : Nat) (v : Value) (L : List Int) (hs : a.eval s = v) (hown : Own wr base v L) (hb : base ≤ wr.heap.size)
    (ax : Option Addr) (l : List Int) (n cap : Nat) (hn : l.length = n) (hx : a.eval x = .slice ax n cap) (hr : Reads wr ax l) (h0 : n ≠ 0) (hl : n < 2000000) (hL : L.length < 2000000)
    (h : ∀ v' w', Own w' base v' (L ++ l) → wr.grownBy w' v.ownBlock → wpList Tryz.prog ops Q rest (a.put o.dst v') w') :
    wpList Tryz.prog ops Q (o :: rest) a wr := by
  obtain ⟨i0, hi, hz0, hz1, hz2⟩ := info_parts infoInt
  subst hn
  rcases hr with rfl | ⟨b, off, rfl, hb2, hc⟩
  · simp at h0
  refine wpList_append_own _ hgd s x 23 ho base 3 i0 (.int .i64 0) 1 8 Tryz.underlying23 hi hz0 hz1 hz2 rfl (by decide) _ L.length _ hs hown ⟨b, off, none⟩ l.length cap (l.map (Value.int .i64)) hx (by simp) ?c1 (ints_oneCell _ _) ?c3 ?c4 hb fun v' w' h1 h2 _ => h v' w' ?_ h2
  case c1 =>
    intro j u hu
    have hj : j < l.length := by simpa using (List.getElem?_eq_some_iff.1 hu).1
    rw [getD_map hj] at hu
    obtain rfl := Option.some.inj hu
    rw [Addr.add_lit]
    exact hc j hj
  case c3 => unfold maxLen; omega
  case c4 => omega
  · unfold Own
    rw [List.length_append, List.map_append]
    exact h1

theorem run_append_noneK (w : World) (ty : TypeId) (v : Value) (base c : Nat) (L : List Int) (ax : Option Addr) (h : Own w base v L) :
    (Builtin.append_ #[23, 23] ty #[v, .slice ax 0 c]).run Tryz.prog w = .ok v w := by
  obtain ⟨i0, hi, hz0, hz1, hz2⟩ := info_parts infoInt
  rcases h.2 with ⟨rfl, _⟩ | ⟨g, cap, cur, rfl, _, _, hnc, _⟩
  · cases ax <;> simp [Builtin.append_, run_underlying Tryz.underlying23, sizeOf, typeInfo, hi, Builtin.lenOf, Builtin.firstCells, loadCells, loadCellsFrom]
  · exact run_append_noneB w ty g L.length cap c ax hnc
theorem push_allZ {wr : World} {ops : Array Oper} {rest : List Oper} {o : Oper} {a : Act} {Q : Exit → Act → World → Prop} (hgd : o.guard = none) (s x : Operand)
    (ho : o.op = .call { callee := .builtin .append, args := #[s, x], argTypes := #[23, 23] })
    (base : Nat) (v : Value) (L : List Int) (hs : a.eval s = v) (hown : Own wr base v L) (hb : base ≤ wr.heap.size)
    (ax : Option Addr) (l : List Int) (n cap : Nat) (hn : l.length = n) (hx : a.eval x = .slice ax n cap) (hr : Reads wr ax l) (hl : n < 2000000) (hL : L.length < 2000000)
    (h : ∀ v' w', Own w' base v' (L ++ l) → wr.grownBy w' v.ownBlock → wpList Tryz.prog ops Q rest (a.put o.dst v') w') :
    wpList Tryz.prog ops Q (o :: rest) a wr := by
  by_cases h0 : n = 0
  · subst h0
    have hl0 : l = [] := List.eq_nil_of_length_eq_zero hn
    subst hl0
    refine wpList_plain hgd fun _ hK => ?_
    unfold Oper.wp execOp
    simp only [ho, resolve, invoke, builtin, Sem.run_bind, Sem.run_pure, Result.andThen_ok, List.map_toArray, List.map_cons, List.map_nil, hs, hx, run_append_noneK _ _ _ _ _ _ _ hown]
    exact hK _ _ (h v wr (by rw [List.append_nil]; exact hown) ⟨rfl, rfl, rfl, Nat.le_refl _, fun _ _ _ => rfl⟩)
  · exact push_allK hgd s x ho base v L hs hown hb ax l n cap hn hx hr h0 hl hL h
end Go.Proofs.YtoaiaindcmihjaaGreatDoor
/-
  slices.Sort of ints, by the kit's shelf: what 'shelf_lay_g' lays, written out (wip/tools/laysay.py prints it).
-/
namespace Go.Proofs
open Go.RowKit
def Tryz.sortA_ren : Go.Shelf.Ren := ⟨fun | 5 => 54 | 8 => 85 | 7 => 84 | 19 => 117 | 20 => 118 | 10 => 108 | 11 => 109 | 12 => 110 | 13 => 111 | 14 => 112 | 15 => 113 | 16 => 114 | 17 => 115 | 18 => 116 | 30 => 136 | 31 => 137 | 32 => 138 | 33 => 139 | 34 => 140 | 35 => 141 | 40 => 166 | n => n, fun | 23 => 23 | 25 => 3 | 3 => 3 | 32 => 114 | 22 => 23 | 0 => 0 | 44 => 150 | 46 => 152 | 4 => 4 | 36 => 142 | 35 => 141 | 41 => 147 | 5 => 5 | 9 => 9 | 53 => 164 | 57 => 168 | 63 => 185 | 64 => 186 | n => n, fun | n => n⟩
theorem Tryz.sortA : Go.Proofs.SlLaysM.n5 Tryz.prog Tryz.sortA_ren where
  mixed := by kernel_rfl
  f5 := ⟨ "slices.Sort[[]int,int]", by decide, Tryz.func54.trans (congrArg some (by kernel_rfl))⟩
  f7 := ⟨ "slices.pdqsortOrdered[int]", by decide, Tryz.func84.trans (congrArg some (by kernel_rfl))⟩
  f8 := Tryz.func85.trans (congrArg some (by kernel_rfl))
  f10 := ⟨ "slices.insertionSortOrdered[int]", by decide, Tryz.func108.trans (congrArg some (by kernel_rfl))⟩
  f11 := ⟨ "slices.heapSortOrdered[int]", by decide, Tryz.func109.trans (congrArg some (by kernel_rfl))⟩
  f12 := ⟨ "slices.breakPatternsOrdered[int]", by decide, Tryz.func110.trans (congrArg some (by kernel_rfl))⟩
  f13 := ⟨ "slices.choosePivotOrdered[int]", by decide, Tryz.func111.trans (congrArg some (by kernel_rfl))⟩
  f14 := ⟨ "slices.reverseRangeOrdered[int]", by decide, Tryz.func112.trans (congrArg some (by kernel_rfl))⟩
  f15 := ⟨ "slices.partialInsertionSortOrdered[int]", by decide, Tryz.func113.trans (congrArg some (by kernel_rfl))⟩
  f16 := ⟨ "cmp.Less[int]", by decide, Tryz.func114.trans (congrArg some (by kernel_rfl))⟩
  f17 := ⟨ "slices.partitionEqualOrdered[int]", by decide, Tryz.func115.trans (congrArg some (by kernel_rfl))⟩
  f18 := ⟨ "slices.partitionOrdered[int]", by decide, Tryz.func116.trans (congrArg some (by kernel_rfl))⟩
  f19 := Tryz.func117.trans (congrArg some (by kernel_rfl))
  f20 := Tryz.func118.trans (congrArg some (by kernel_rfl))
  f30 := ⟨ "slices.siftDownOrdered[int]", by decide, Tryz.func136.trans (congrArg some (by kernel_rfl))⟩
  f31 := Tryz.func137.trans (congrArg some (by kernel_rfl))
  f32 := Tryz.func138.trans (congrArg some (by kernel_rfl))
  f33 := ⟨ "slices.medianAdjacentOrdered[int]", by decide, Tryz.func139.trans (congrArg some (by kernel_rfl))⟩
  f34 := ⟨ "slices.medianOrdered[int]", by decide, Tryz.func140.trans (congrArg some (by kernel_rfl))⟩
  f35 := ⟨ "cmp.isNaN[int]", by decide, Tryz.func141.trans (congrArg some (by kernel_rfl))⟩
  f40 := ⟨ "slices.order2Ordered[int]", by decide, Tryz.func166.trans (congrArg some (by kernel_rfl))⟩
  t0 := Tryz.underlying0
  a0 := Tryz.isAgg0
  z0 := Tryz.sizeOf0
  v0 := Tryz.zeroValue0
  t3 := Tryz.underlying3
  a3 := Tryz.isAgg3
  z3 := Tryz.sizeOf3
  v3 := Tryz.zeroValue3
  t4 := Tryz.underlying4
  a4 := Tryz.isAgg4
  z4 := Tryz.sizeOf4
  v4 := Tryz.zeroValue4
  t5 := Tryz.underlying5
  a5 := Tryz.isAgg5
  z5 := Tryz.sizeOf5
  v5 := Tryz.zeroValue5
  t9 := Tryz.underlying9
  a9 := Tryz.isAgg9
  z9 := Tryz.sizeOf9
  v9 := Tryz.zeroValue9
  t22 := Tryz.underlying23
  a22 := Tryz.isAgg23
  z22 := Tryz.sizeOf23
  v22 := Tryz.zeroValue23
  t23 := Tryz.underlying23
  a23 := Tryz.isAgg23
  z23 := Tryz.sizeOf23
  v23 := Tryz.zeroValue23
  t25 := Tryz.underlying3
  a25 := Tryz.isAgg3
  z25 := Tryz.sizeOf3
  v25 := Tryz.zeroValue3
  t32 := Tryz.underlying114
  a32 := Tryz.isAgg114
  z32 := Tryz.sizeOf114
  v32 := Tryz.zeroValue114
  t35 := Tryz.underlying141
  a35 := Tryz.isAgg141
  z35 := Tryz.sizeOf141
  v35 := Tryz.zeroValue141
  t36 := Tryz.underlying142
  a36 := Tryz.isAgg142
  z36 := Tryz.sizeOf142
  v36 := Tryz.zeroValue142
  t41 := Tryz.underlying147
  a41 := Tryz.isAgg147
  z41 := Tryz.sizeOf147
  v41 := Tryz.zeroValue147
  t44 := Tryz.underlying150
  a44 := Tryz.isAgg150
  z44 := Tryz.sizeOf150
  v44 := Tryz.zeroValue150
  t46 := Tryz.underlying152
  a46 := Tryz.isAgg152
  z46 := Tryz.sizeOf152
  v46 := Tryz.zeroValue152
  t53 := Tryz.underlying164
  a53 := Tryz.isAgg164
  z53 := Tryz.sizeOf164
  v53 := Tryz.zeroValue164
  t57 := Tryz.underlying168
  a57 := Tryz.isAgg168
  z57 := Tryz.sizeOf168
  v57 := Tryz.zeroValue168
  t63 := Tryz.underlying185
  a63 := Tryz.isAgg185
  z63 := Tryz.sizeOf185
  v63 := Tryz.zeroValue185
  t64 := Tryz.underlying186
  a64 := Tryz.isAgg186
  z64 := Tryz.sizeOf186
  v64 := Tryz.zeroValue186
end Go.Proofs
/-
  slices.Clone and slices.Sort of ints, impl.wholeOf.
-/
namespace Go.Proofs.YtoaiaindcmihjaaGreatDoor
open Go.RowKit

/-- A result that is a struct in a variable. -/
theorem ret_row {P : Program} {fn : Func} {R : Ending → World → Prop} {a : Act} {w : World} {p : Tmp} {ty : TypeId} (hf : fn.results = #[.cell p ty]) (hd : a.defers = [])
    (g : Nat) (hp : a.tmps.getD p undef = .pointer (some ⟨g, 0, none⟩)) (t : Nat) (cs : Array Value) (hg : w.heap[g]? = some (.cells cs t (0, 0))) (d : TypeDesc)
    (hu : P.underlying ty = some d) (hdd : (match d with | .struct _ | .array _ _ => true | _ => false) = true) (hi : (P.info? ty).map (·.size) = some cs.size) (hR : R (.returned (.agg cs)) w) : bodyPost P fn R .ret a w :=
  bodyPost_ret (results_cell_row hf a.tmps w g t cs (0, 0) _ hp hg hu hdd hi) hd hR
theorem eql_nil (w : World) (a : Option Addr) (n c : Nat) : (binOp .eql 23 (.slice a n c) (.slice none 0 0)).run Tryz.prog w = .ok (.bool a.isNone) w := Go.Lib.run_eql_slice_nil w _ _ a n c 0 0 Tryz.underlying23
set_option maxHeartbeats 2000000 in
set_option maxRecDepth 100000 in
theorem cloneI_any (a : Option Addr) (l : List Int) (cap : Nat) (w : World) (hr : Reads w a l) (hl : l.length < 2000000) :
    Calls Tryz.prog 53 #[.slice a l.length cap] w fun e w' => ∃ v, e = .returned v ∧ Own w' w.heap.size v l ∧ Below w.heap.size w w' := by
  cases a with
  | none =>
    have h0 : l = [] := by
      rcases hr with h | ⟨b, off, h, _⟩
      · exact h
      · cases h
    subst h0
    have q := fun w n c => eql_nil w none n c
    go_enter Tryz.func53, Tryz.ntmps53
    go_wp2
    go_ret
    exact ⟨_, rfl, Own.nil _ _, Below.refl _ _⟩
  | some A =>
    have o1 := Own.lit0 w w.heap.size (Nat.le_refl _)
    have b1 := (Below.refl w.heap.size w).alloc (Nat.le_refl _) (.cells #[] 3)
    have hr1 := hr.below b1
    obtain ⟨M, hM⟩ : ∃ M, M = l.length := ⟨_, rfl⟩
    rw [← hM] at hl ⊢
    have HM := Lib.hid hM
    clear hM
    have q := fun w n c => eql_nil w (some A) n c
    go_enter Tryz.func53, Tryz.ntmps53
    go_wp2_with (at_builtin; refine push_allZ rfl (.tmp 5) (.tmp 6) rfl w.heap.size _ [] rfl o1 b1.size (some A) l M cap HM.out.symm rfl hr1 hl (by simp) ?_)
    intro v2 w2 ho2 g2
    have b2 := Below.grownB b1 o1 g2 b1.size (Nat.le_refl _)
    go_wp2
    go_ret
    exact ⟨_, rfl, ho2, b2⟩
theorem srt_enc (l : List Int) : (l.mergeSort fun x y => decide (x ≤ y)) = srt l := rfl
theorem sortI_any (v : Value) (l : List Int) (base : Nat) (w : World) (ho : Own w base v l) (hl : l.length ≤ 1048586) :
    Calls Tryz.prog 54 #[v] w fun e w' => e = .returned (.tuple #[]) ∧ Own w' base v (srt l) ∧ w.grownBy w' v.ownBlock := by
  by_cases h0 : l = []
  · subst h0
    obtain ⟨a, cap, rfl, _, _, _, _⟩ := ho.form
    refine (AnyM.slices_Sort_int_none Tryz.sortA a cap w).mono ?_
    rintro e w' ⟨rfl, rfl⟩
    exact ⟨rfl, by rw [show srt [] = [] by simp [srt]]; exact ho, ⟨rfl, rfl, rfl, Nat.le_refl _, fun _ _ _ => rfl⟩⟩
  · have hne : l.length ≠ 0 := fun h => h0 (List.eq_nil_of_length_eq_zero h)
    rcases ho.2 with ⟨_, h1⟩ | ⟨g, cap, cur, rfl, hbg, hg, hnc, hcm, hsz, htk⟩
    · exact absurd h1 hne
    rw [Nat.mul_one] at htk
    have hH := Go.holds_of_blockI (ss := l) hg htk
    refine (AnyM.slices_Sort_int Tryz.sortA g 0 cap l w hH (Array.getElem?_eq_some_iff.1 hg).1 (by omega)).mono ?_
    rintro e w' ⟨rfl, n, os, rfl⟩
    rw [srt_enc]
    refine ⟨rfl, ?_, Go.grownBy_sortedI _⟩
    have := Go.ownsRow_sortedI (n := n) (os := os) (base := base) (ts := srt l) (ss := l) (srt_len l) hbg hg hnc hcm hsz
    unfold Own
    rw [srt_len]
    exact this
/-- A part in a variable. -/
def PBox (w : World) (g : Nat) (v : Value) (d e : Int) : Prop := w.heap[g]? = some (.cells #[v, .int .i64 d, .int .i64 e] 48 (0, 0))
section
variable {w : World} {g : Nat} {d e : Int} {v : Value}
theorem PBox.lt (h : PBox w g v d e) : g < w.heap.size := (Array.getElem?_eq_some_iff.1 h).1
theorem PBox.c0 (h : PBox w g v d e) : w.cell? ⟨g, 0, none⟩ = some v := by rw [cell_of_row w g 0 _ _ _ h]; rfl
theorem PBox.c1 (h : PBox w g v d e) : w.cell? ⟨g, 1, none⟩ = some (.int .i64 d) := by rw [cell_of_row w g 1 _ _ _ h]; rfl
theorem PBox.c2 (h : PBox w g v d e) : w.cell? ⟨g, 2, none⟩ = some (.int .i64 e) := by rw [cell_of_row w g 2 _ _ _ h]; rfl
theorem PBox.fz (h : PBox w g v d e) (k : Nat) : w.frozen? ⟨g, k, none⟩ = false := frozen_of_row w g k _ _ h
theorem PBox.other {g' : Nat} (h : PBox w g v d e) (hne : g ≠ g') (k : Nat) (x : Value) : PBox (w.setCell ⟨g', k, none⟩ x) g v d e := by
  unfold PBox
  rw [heap_setCell_other w ⟨g', k, none⟩ g x hne]; exact h
theorem PBox.alloc (h : PBox w g v d e) (o : Obj) : PBox (w.alloc o) g v d e := (Below.heap_alloc w o g h.lt).trans h
theorem PBox.belowAll {w' : World} (hb : Below w.heap.size w w') (h : PBox w g v d e) : PBox w' g v d e := (hb.block g h.lt).trans h
theorem PBox.below {w' : World} {B : Nat} (hb : Below B w w') (hg : g < B) (h : PBox w g v d e) : PBox w' g v d e := (hb.block g hg).trans h
theorem PBox.put (h : PBox w g v d e) (v' : Value) (d' e' : Int) : PBox (((w.setCell ⟨g, 0, none⟩ v').setCell ⟨g, 1, none⟩ (.int .i64 d')).setCell ⟨g, 2, none⟩ (.int .i64 e')) g v' d' e' := by
  unfold PBox at h ⊢
  have h1 := heap_setCell_same w g 0 _ _ v' h
  have h2 := heap_setCell_same _ g 1 _ _ (.int .i64 d') h1
  rw [heap_setCell_same _ g 2 _ _ (.int .i64 e') h2]
  rfl
end
theorem PBox.new (w : World) (v : Value) (d e : Int) : PBox (w.alloc (.cells #[v, .int .i64 d, .int .i64 e] 48)) w.heap.size v d e := heap_alloc_new w _
theorem below_put3p {B : Nat} {w w' : World} (h : Below B w w') {g : Nat} (hg : B ≤ g) (x y z : Value) : Below B w (((w'.setCell ⟨g, 0, none⟩ x).setCell ⟨g, 1, none⟩ y).setCell ⟨g, 2, none⟩ z) :=
  ((h.setCell (p := ⟨g, 0, none⟩) hg x).setCell (p := ⟨g, 1, none⟩) hg y).setCell (p := ⟨g, 2, none⟩) hg z
/-- A part, handed back out of a variable. -/
theorem ret_part {fn : Func} {R : Ending → World → Prop} {a : Act} {w : World} {p : Tmp} (hf : fn.results = #[.cell p 48]) (hd : a.defers = [])
    (g : Nat) (hp : a.tmps.getD p undef = .pointer (some ⟨g, 0, none⟩)) (v : Value) (d e : Int) (hg : PBox w g v d e) (hR : R (.returned (.agg #[v, .int .i64 d, .int .i64 e])) w) : bodyPost Tryz.prog fn R .ret a w :=
  bodyPost_ret (results_cell_row hf a.tmps w g _ _ (0, 0) _ hp hg Tryz.underlying48 rfl (by kernel_rfl)) hd hR
theorem grownBy_setP (w : World) (g k : Nat) (v : Value) : w.grownBy (w.setCell ⟨g, k, none⟩ v) (some g) := ⟨rfl, rfl, rfl, by simp, fun j _ hn => heap_setCell_other w ⟨g, k, none⟩ j _ (fun q => hn (by rw [q]))⟩
set_option maxHeartbeats 2000000 in
theorem wholeOf_any (a : Option Addr) (l : List Int) (cap : Nat) (w : World) (hr : Reads w a l) (hl : l.length ≤ 1048586) :
    Calls Tryz.prog 31 #[.slice a l.length cap] w fun e w' => ∃ v, e = .returned (.agg #[v, .int .i64 0, .int .i64 0]) ∧ Own w' (w.heap.size + 1) v (srt l) ∧ Below w.heap.size w w' ∧ w.heap.size + 1 ≤ w'.heap.size := by
  have b0 := (Below.refl w.heap.size w).alloc (Nat.le_refl _) (.cells #[.slice none 0 0, .int .i64 0, .int .i64 0] 48)
  have hr1 := hr.below b0
  have x0 := PBox.new w (.slice none 0 0) 0 0
  obtain ⟨w1, e1⟩ : ∃ w1, w1 = w.alloc (.cells #[.slice none 0 0, .int .i64 0, .int .i64 0] 48) := ⟨_, rfl⟩
  have hz1 : w1.heap.size = w.heap.size + 1 := by rw [e1]; simp
  rw [← e1] at b0 hr1 x0
  have cC := cloneI_any a l cap w1 hr1 (by omega)
  obtain ⟨M, hM⟩ : ∃ M, M = l.length := ⟨_, rfl⟩
  rw [← hM] at cC ⊢
  have C := Lib.hid cC
  have E1 := Lib.hid e1
  clear cC e1 hM
  go_enter Tryz.func31, Tryz.ntmps31
  go_wp2_with fail
  rw [← E1.out]
  refine C.out.mono ?_
  rintro e w2 ⟨v, rfl, o2, b2⟩
  have S := Lib.hid (sortI_any v l w1.heap.size w2 o2 hl)
  go_wp2_with fail
  refine S.out.mono ?_
  rintro e w3 ⟨rfl, o3, g3⟩
  have b3 := Below.grownB b2 o2 g3 b2.size (Nat.le_refl _)
  have x3 := PBox.belowAll b3 x0
  have B3 := b0.trans (b3.mono b0.size)
  have hz3 := b3.size
  obtain ⟨sa, sc, rfl, _, _, _, _⟩ := o3.form
  have y0 := x3.c0
  have y1 := x3.c1
  have y2 := x3.c2
  have z0 := x3.fz 0
  have z1 := x3.fz 1
  have z2 := x3.fz 2
  have x4 := x3.put (.slice sa (srt l).length sc) 0 0
  have B4 := below_put3p B3 (Nat.le_refl _) (.slice sa (srt l).length sc) (.int .i64 0) (.int .i64 0)
  have o4 : Own (((w3.setCell ⟨w.heap.size, 0, none⟩ (.slice sa (srt l).length sc)).setCell ⟨w.heap.size, 1, none⟩ (.int .i64 0)).setCell ⟨w.heap.size, 2, none⟩ (.int .i64 0)) (w.heap.size + 1) (.slice sa (srt l).length sc) (srt l) := by
    rw [← hz1]
    have hne : ∀ k, (Value.slice sa (srt l).length sc).ownBlock = some k → k ≠ w.heap.size := fun k hk => by have := (o3.lt k hk).1; omega
    have nn : (Value.slice sa (srt l).length sc).ownBlock = none ∨ (Value.slice sa (srt l).length sc).ownBlock ≠ some w.heap.size := .inr (fun h => hne _ h rfl)
    exact ((o3.kept (grownBy_setP _ _ _ _) nn).kept (grownBy_setP _ _ _ _) nn).kept (grownBy_setP _ _ _ _) nn
  have O4 := Lib.hid o4
  clear o2 b2 g3 o3 b3 o4
  go_wp2
  exact ret_part rfl rfl _ rfl _ _ _ x4 ⟨_, rfl, O4.out, B4, by simp; omega⟩
end Go.Proofs.YtoaiaindcmihjaaGreatDoor
/-
  Names in order: the parts of sorted names.
-/
namespace Go.Proofs.YtoaiaindcmihjaaGreatDoor

theorem tfl_sub {l : List Int} {d e e' : Nat} (he : e < 2 ^ d) (h : e' = e ∨ e' = e + 2 ^ d) : (tfl l d e).filter (fun x => decide (x.toNat % 2 ^ (d + 1) = e')) = tfl l (d + 1) e' := by
  unfold tfl
  rw [List.filter_filter]
  refine List.filter_congr fun x _ => ?_
  have hn := mod_next x.toNat d e he
  by_cases g : x.toNat % 2 ^ (d + 1) = e'
  · rw [decide_eq_true g, decide_eq_true (hn.2 (by rcases h with h | h <;> omega))]; rfl
  · rw [decide_eq_false g]; simp
theorem tfl_srt (l : List Int) (d e : Nat) : tfl (srt l) d e = srt (tfl l d e) :=
  srt_only (tfl_perm (srt_perm l) d e) ((srt_sorted l).filter _)
/-- Of sorted names the parts are sorted. -/
theorem spl_srt_one {l : List Int} {m : Nat} (f : Nat) {d e : Nat} (h : (tfl (srt l) d e).length ≤ m) : spl l m f d e = [(d, e, tfl (srt l) d e)] := by
  rw [tfl_srt, srt_len] at h
  rw [tfl_srt]
  cases f with
  | zero => rw [spl]
  | succ f => rw [spl, if_pos h]
theorem spl_srt_more {l : List Int} {m : Nat} (f : Nat) {d e : Nat} (h : ¬ (tfl (srt l) d e).length ≤ m) : spl l m (f + 1) d e = spl l m f (d + 1) e ++ spl l m f (d + 1) (e + 2 ^ d) := by
  rw [tfl_srt, srt_len] at h
  rw [spl, if_neg h]
theorem tfl_six_srt {l : List Int} (hn : l.Nodup) (hr : ∀ x ∈ l, 0 ≤ x ∧ x ≤ 63) (e : Nat) : (tfl (srt l) 6 e).length ≤ 1 := by
  rw [tfl_srt, srt_len]; exact tfl_six hn hr e
end Go.Proofs.YtoaiaindcmihjaaGreatDoor
/-
  impl.nameList.fits, endingIn, impl.part.halves.
-/
namespace Go.Proofs.YtoaiaindcmihjaaGreatDoor
open Go.RowKit

/-- 'append(s, y)' of one int onto a slice of the call's own: the new element lies in a block of its own. -/
theorem push_nm {wr : World} {ops : Array Oper} {rest : List Oper} {o : Oper} {a : Act} {Q : Exit → Act → World → Prop} (hgd : o.guard = none) (s x : Operand)
    (ho : o.op = .call { callee := .builtin .append, args := #[s, x], argTypes := #[46, 46] })
    (base : Nat) (v : Value) (l : List Int) (y : Int) (hs : a.eval s = v) (hown : Own wr base v l) (hx : a.eval x = .slice (some ⟨wr.heap.size, 0, none⟩) 1 1)
    (hl : l.length < 1000000000000) (hbase : base ≤ wr.heap.size)
    (h : ∀ v' w', Own w' base v' (l ++ [y]) → v' ≠ .slice none 0 0 → wr.grownBy w' v.ownBlock → wpList Tryz.prog ops Q rest (a.put o.dst v') w') :
    wpList Tryz.prog ops Q (o :: rest) a (wr.alloc (.cells #[.int .i64 y] 3)) := by
  obtain ⟨i0, hi, hz0, hz1, hz2⟩ := info_parts infoInt
  refine wpList_append_own _ hgd s x 46 ho base 3 i0 (.int .i64 0) 1 8 Tryz.underlying46 hi hz0 hz1 hz2 rfl (by decide) v l.length (l.map (Value.int .i64)) hs (World.ownsRow.alloc hown _) ⟨wr.heap.size, 0, none⟩ 1 1 [.int .i64 y] hx rfl (cell_one_new _ _ _) (fun u hu => by simp at hu; subst hu; rfl) (by unfold maxLen; omega) (by omega) (by simp; omega) fun v' w' h1 h2 h3 => h v' w' ?_ ?_ ?_
  · unfold Own
    rw [List.length_append, List.map_append]
    exact h1
  · intro e
    have := (h3.1 e).2
    omega
  · refine ⟨h2.os, h2.tape, h2.output, Nat.le_trans (by simp) h2.size, fun k hk hne => ?_⟩
    rw [h2.block k (by simp; omega) hne]; exact Below.heap_alloc _ _ _ hk
theorem fits_any (a : Option Addr) (n cap : Nat) (m : Int) (w : World) : Calls Tryz.prog 55 #[.slice a n cap, .int .i64 m] w fun e w' => e = .returned (.bool (decide ((n : Int) ≤ m))) ∧ w = w' := by
  go_enter Tryz.func55, Tryz.ntmps55
  go_wp2
  go_ret
  exact ⟨rfl, rfl⟩
theorem flt_take {l : List Int} {d e i : Nat} (h : i < l.length) : (l.take (i + 1)).filter (fun x => decide (x.toNat % 2 ^ d = e)) = (l.take i).filter (fun x => decide (x.toNat % 2 ^ d = e)) ++ if (l.getD i 0).toNat % 2 ^ d = e then [l.getD i 0] else [] := by
  rw [take_snocN h, List.filter_append]
  by_cases g : (l.getD i 0).toNat % 2 ^ d = e
  · rw [if_pos g, List.filter_cons_of_pos (by rw [decide_eq_true g]), List.filter_nil]
  · rw [if_neg g, List.filter_cons_of_neg (by rw [decide_eq_false g]; simp), List.filter_nil]
set_option maxHeartbeats 8000000 in
set_option maxRecDepth 100000 in
/-- endingIn: the names of a list that end so. -/
theorem endingIn_any (a : Option Addr) (l : List Int) (cap d e : Nat) (w : World) (hr : Reads w a l) (hl : l.length ≤ 1000) (hi : ∀ x ∈ l, 0 ≤ x ∧ x ≤ 63) (hd : d ≤ 40) :
    Calls Tryz.prog 86 #[.slice a l.length cap, .int .i64 (d : Int), .int .i64 (e : Int)] w fun en w' => ∃ v, en = .returned v ∧ Own w' w.heap.size v (l.filter (fun x => decide (x.toNat % 2 ^ d = e))) ∧ Below w.heap.size w w' := by
  have cE := fun (Y : Nat) wx (h : Y ≤ 63) => endOf_any d Y wx hd (by omega)
  have CE := Lib.hid cE
  obtain ⟨M, hM⟩ : ∃ M, M = l.length := ⟨_, rfl⟩
  have HM := Lib.hid hM
  have HI := Lib.hid hi
  rw [← hM] at hl ⊢
  have b0 := Below.refl w.heap.size w
  clear hM hi cE
  go_enter Tryz.func86, Tryz.ntmps86
  go_wp2
  go_loopw [7, 12] (fun sv iv wr => ∃ i : Nat, i ≤ M ∧ iv = .int .i64 (i : Int) ∧ Own wr w.heap.size sv ((l.take i).filter (fun x => decide (x.toNat % 2 ^ d = e))) ∧ Below w.heap.size w wr) (fun _ iv _ => M - (intOf iv).toNat)
  case atStart => exact ⟨0, by omega, rfl, by simpa using Own.nil _ _, b0⟩
  case round =>
    clear b0
    rename World => wo
    obtain ⟨i, hi, rfl, ho, hB⟩ := hrel
    by_cases hlt : i < M
    · have hi1 : (i : Int) < (M : Int) := by omega
      obtain ⟨b, off, y, rfl, hb, hc0, hy⟩ := hr.get (k := i) (by have := HM.out; omega)
      have hcell : wo.cell? ⟨b, off + i, none⟩ = some (.int .i64 y) := (hB.cell (by exact hb)).trans hc0
      have hyr := HI.out y (by rw [← hy.out]; exact getD_mem (by have := HM.out; omega))
      have htk := flt_take (l := l) (d := d) (e := e) (i := i) (by have := HM.out; omega)
      rw [hy.out] at htk
      have hz1 := hB.size
      have hlen := List.length_filter_le (fun x => decide (x.toNat % 2 ^ d = e)) (l.take i)
      rw [List.length_take] at hlen
      obtain ⟨T, hT⟩ : ∃ T, T = (l.take i).filter (fun x => decide (x.toNat % 2 ^ d = e)) := ⟨_, rfl⟩
      rw [← hT] at htk ho hlen
      have hl9 : T.length ≤ 1000 := by omega
      obtain ⟨sa, sc, rfl, _, _, _, _⟩ := ho.form
      obtain ⟨Y, rfl⟩ : ∃ Y : Nat, y = Y := ⟨y.toNat, by omega⟩
      rw [Int.toNat_natCast] at htk
      have ct := fun wx => CE.out Y wx (by omega)
      obtain ⟨q, hq⟩ : ∃ q, q = Y % 2 ^ d := ⟨_, rfl⟩
      rw [← hq] at htk ct
      have D := Lib.hid ct
      clear hc0 ct hq hlen hT
      by_cases hqe : q = e
      · rw [if_pos hqe] at htk
        have HTK := Lib.hid htk
        have hd1 : ((q : Int) == (e : Int)) = true := by simp [hqe]
        clear htk hqe
        go_wp2_with fail
        refine (D.out _).mono ?_
        rintro en w' ⟨rfl, rfl⟩
        go_wp2_with (at_builtin; refine push_nm rfl (.tmp 21) (.tmp 23) rfl w.heap.size _ T (Y : Int) rfl ho rfl (by omega) hz1 ?_)
        intro v' wf of _ gf
        rw [← HTK.out] at of
        have hBf := hB.grown gf hB.size (fun k hk => (ho.lt k hk).1)
        clear gf ho hB
        go_wp2
        go_roundw
        case rel => exact ⟨i + 1, by omega, by go_num, of, hBf⟩
        case measure => simp [intOf]; omega
      · rw [if_neg hqe, List.append_nil] at htk
        have HTK := Lib.hid htk
        have hd1 : ((q : Int) == (e : Int)) = false := by simp; omega
        clear htk
        go_wp2_with fail
        refine (D.out _).mono ?_
        rintro en w' ⟨rfl, rfl⟩
        go_wp2
        go_roundw
        case rel => exact ⟨i + 1, by omega, by go_num, by rw [HTK.out]; exact ho, hB⟩
        case measure => simp [intOf]; omega
    · obtain rfl : i = M := by omega
      rw [show l.take i = l by rw [HM.out, List.take_length]] at ho
      obtain ⟨sa, sc, rfl, _, _, _, _⟩ := ho.form
      go_wp2
      go_ret
      exact ⟨_, rfl, ho, hB⟩
end Go.Proofs.YtoaiaindcmihjaaGreatDoor
/-
  impl.part.halves.
-/
namespace Go.Proofs.YtoaiaindcmihjaaGreatDoor
open Go.RowKit

theorem PBox.put3 {w : World} {g g1 : Nat} {v : Value} {d e : Int} (h : PBox w g v d e) (h1 : g ≠ g1) (x y z : Value) : PBox (((w.setCell ⟨g1, 0, none⟩ x).setCell ⟨g1, 1, none⟩ y).setCell ⟨g1, 2, none⟩ z) g v d e :=
  ((h.other h1 0 x).other h1 1 y).other h1 2 z
theorem Own.put3 {w : World} {base g : Nat} {v : Value} {l : List Int} (h : Own w base v l) (hg : g < base) (x y z : Value) : Own (((w.setCell ⟨g, 0, none⟩ x).setCell ⟨g, 1, none⟩ y).setCell ⟨g, 2, none⟩ z) base v l := by
  have hne : ∀ k, v.ownBlock = some k → k ≠ g := fun k hk => by have := (h.lt k hk).1; omega
  have nn : v.ownBlock = none ∨ v.ownBlock ≠ some g := .inr (fun h => hne _ h rfl)
  exact ((h.kept (grownBy_setP _ _ _ _) nn).kept (grownBy_setP _ _ _ _) nn).kept (grownBy_setP _ _ _ _) nn
/-- Two parts, handed back out of variables. -/
theorem ret_part2 {fn : Func} {R : Ending → World → Prop} {a : Act} {w : World} {p q : Tmp} (hf : fn.results = #[.cell p 48, .cell q 48]) (hd : a.defers = [])
    (g g' : Nat) (hp : a.tmps.getD p undef = .pointer (some ⟨g, 0, none⟩)) (hq : a.tmps.getD q undef = .pointer (some ⟨g', 0, none⟩)) (v v' : Value) (d e d' e' : Int) (hg : PBox w g v d e) (hg' : PBox w g' v' d' e')
    (hR : R (.returned (.tuple #[.agg #[v, .int .i64 d, .int .i64 e], .agg #[v', .int .i64 d', .int .i64 e']])) w) : bodyPost Tryz.prog fn R .ret a w := by
  refine bodyPost_ret (v := .tuple #[.agg #[v, .int .i64 d, .int .i64 e], .agg #[v', .int .i64 d', .int .i64 e']]) ?_ hd hR
  have hp' : a.tmps[p]?.getD undef = .pointer (some ⟨g, 0, none⟩) := by simpa using hp
  have hq' : a.tmps[q]?.getD undef = .pointer (some ⟨g', 0, none⟩) := by simpa using hq
  have h1 := run_loadVar_row (P := Tryz.prog) w g _ 48 _ (0, 0) _ hg Tryz.underlying48 rfl (by kernel_rfl)
  have h2 := run_loadVar_row (P := Tryz.prog) w g' _ 48 _ (0, 0) _ hg' Tryz.underlying48 rfl (by kernel_rfl)
  simp [results, hf, hp', hq', asAddr, h1, h2]
set_option maxHeartbeats 8000000 in
set_option maxRecDepth 100000 in
/-- halves: the names of a part by the next digit. -/
theorem halves_any (a : Option Addr) (l : List Int) (cap d e : Nat) (w : World) (hr : Reads w a l) (hl : l.length ≤ 1000) (hi : ∀ x ∈ l, 0 ≤ x ∧ x ≤ 63) (hd : d ≤ 30) (he : e ≤ 1000000) :
    Calls Tryz.prog 56 #[.agg #[.slice a l.length cap, .int .i64 (d : Int), .int .i64 (e : Int)]] w fun en w' => ∃ z o, en = .returned (.tuple #[.agg #[z, .int .i64 ((d + 1 : Nat) : Int), .int .i64 (e : Int)], .agg #[o, .int .i64 ((d + 1 : Nat) : Int), .int .i64 ((e + 2 ^ d : Nat) : Int)]]) ∧
      Own w' w.heap.size z (l.filter (fun x => decide (x.toNat % 2 ^ (d + 1) = e))) ∧ Own w' w.heap.size o (l.filter (fun x => decide (x.toNat % 2 ^ (d + 1) = e + 2 ^ d))) ∧ (z.ownBlock = none ∨ z.ownBlock ≠ o.ownBlock) ∧ Below w.heap.size w w' := by
  obtain ⟨M, hM⟩ : ∃ M, M = l.length := ⟨_, rfl⟩
  obtain ⟨P, hP⟩ : ∃ P, P = 2 ^ d := ⟨_, rfl⟩
  obtain ⟨e1, e2, e3⟩ := shl1 d P (by omega) hP
  have hps : P ≤ 1099511627776 := by rw [hP]; exact pow40 (by omega)
  rw [← hP]
  obtain ⟨L1, hL1⟩ : ∃ L1, L1 = l.filter (fun x => decide (x.toNat % 2 ^ (d + 1) = e)) := ⟨_, rfl⟩
  obtain ⟨L2, hL2⟩ : ∃ L2, L2 = l.filter (fun x => decide (x.toNat % 2 ^ (d + 1) = e + P)) := ⟨_, rfl⟩
  rw [← hL1, ← hL2]
  have x0 := PBox.new w (.slice a M cap) d e
  obtain ⟨w1, ew1⟩ : ∃ w1, w1 = w.alloc (.cells #[.slice a M cap, .int .i64 (d : Int), .int .i64 (e : Int)] 48) := ⟨_, rfl⟩
  have b1 := (Below.refl w.heap.size w).alloc (Nat.le_refl _) (.cells #[.slice a M cap, .int .i64 (d : Int), .int .i64 (e : Int)] 48)
  have hz1 : w1.heap.size = w.heap.size + 1 := by rw [ew1]; simp
  rw [← ew1] at x0 b1
  have y1 := PBox.new w1 (.slice none 0 0) 0 0
  obtain ⟨w2, ew2⟩ : ∃ w2, w2 = w1.alloc (.cells #[.slice none 0 0, .int .i64 0, .int .i64 0] 48) := ⟨_, rfl⟩
  have hz2 : w2.heap.size = w.heap.size + 2 := by rw [ew2]; simp [hz1]
  have b2 := b1.alloc (by omega) (.cells #[.slice none 0 0, .int .i64 0, .int .i64 0] 48)
  have x1 := x0.alloc (.cells #[.slice none 0 0, .int .i64 0, .int .i64 0] 48)
  rw [← ew2] at y1 b2 x1
  rw [hz1] at y1
  have y2 := PBox.new w2 (.slice none 0 0) 0 0
  obtain ⟨w3, ew3⟩ : ∃ w3, w3 = w2.alloc (.cells #[.slice none 0 0, .int .i64 0, .int .i64 0] 48) := ⟨_, rfl⟩
  have hz3 : w3.heap.size = w.heap.size + 3 := by rw [ew3]; simp [hz2]
  have b3 := b2.alloc (by omega) (.cells #[.slice none 0 0, .int .i64 0, .int .i64 0] 48)
  have x2 := x1.alloc (.cells #[.slice none 0 0, .int .i64 0, .int .i64 0] 48)
  have y1' := y1.alloc (.cells #[.slice none 0 0, .int .i64 0, .int .i64 0] 48)
  rw [← ew3] at y2 b3 x2 y1'
  rw [hz2] at y2
  have cE : ∀ (q : Nat) (L : List Int), L = l.filter (fun x => decide (x.toNat % 2 ^ (d + 1) = q)) → ∀ wx, Below w3.heap.size w3 wx → Calls Tryz.prog 86 #[.slice a M cap, .int .i64 ((d + 1 : Nat) : Int), .int .i64 (q : Int)] wx fun en w' => ∃ sa sc, en = .returned (.slice sa L.length sc) ∧ Own w' wx.heap.size (.slice sa L.length sc) L ∧ Below wx.heap.size wx w' ∧ w'.cell? ⟨w.heap.size, 0, none⟩ = some (.slice a M cap) := by
    rintro q L rfl wx hb
    rw [hM]
    refine (endingIn_any a l cap (d + 1) q wx ((hr.below b3).below hb) hl hi (by omega)).mono ?_
    rintro en w' ⟨v, rfl, ho, hb'⟩
    obtain ⟨sa, sc, rfl, _, _, _, _⟩ := ho.form
    exact ⟨sa, sc, rfl, ho, hb', by rw [← hM]; exact (PBox.belowAll hb' (PBox.belowAll hb x2)).c0⟩
  have C1 := Lib.hid (cE e L1 hL1)
  have C2 := Lib.hid (cE (e + P) L2 (by rw [hL2]))
  have E1 := Lib.hid ew1
  have E2 := Lib.hid ew2
  have E3 := Lib.hid ew3
  rw [← hM]
  have wr1 : IntKind.i64.wrap ((e : Int) + (P : Int)) = ((e + P : Nat) : Int) := by rw [IntWalk.i64_in _ (by omega)]; rfl
  have wr2 : IntKind.i64.wrap ((d : Int) + 1) = ((d + 1 : Nat) : Int) := by rw [IntWalk.i64_in _ (by omega)]; rfl
  obtain ⟨D1, hD1⟩ : ∃ D1, D1 = d + 1 := ⟨_, rfl⟩
  obtain ⟨EP, hEP⟩ : ∃ EP, EP = e + P := ⟨_, rfl⟩
  rw [← hD1] at wr2 C1 C2
  rw [← hEP] at wr1 C2
  rw [← hD1, ← hEP] 
  have s0 := x2.c0
  have s1 := x2.c1
  have s2 := x2.c2
  clear ew1 ew2 ew3 cE hL1 hL2 hM hi hr x0 x1 y1 hP hD1 hEP
  go_enter Tryz.func56, Tryz.ntmps56
  go_upto_region 1 with fail
  rw [← E1.out, ← E2.out, ← E3.out]
  go_cut [4, 5, 6] (fun s4 s5 s6 wx => s4 = .int .i64 (D1 : Int) ∧ s5 = .int .i64 (e : Int) ∧ s6 = .int .i64 (EP : Int) ∧ ∃ n, wx = w3.drewN n)
  case first =>
    go_quiet (fail)
    all_goals
      go_wp2_with fail
      go_meet
      exact ⟨rfl, rfl, rfl, _, rfl⟩
  case rest =>
    obtain ⟨rfl, rfl, rfl, n, rfl⟩ := hcut
    have x3 : PBox (w3.drewN n) w.heap.size (.slice a M cap) d e := x2
    have y1'' : PBox (w3.drewN n) (w.heap.size + 1) (.slice none 0 0) 0 0 := y1'
    have y2'' : PBox (w3.drewN n) (w.heap.size + 2) (.slice none 0 0) 0 0 := y2
    have hbn : Below w3.heap.size w3 (w3.drewN n).drew := (Go.below_drewN (Below.refl _ _) n).drew
    obtain ⟨w4, hw4⟩ : ∃ w4, w4 = w3.drewN n := ⟨_, rfl⟩
    have hz4 : w4.heap.size = w.heap.size + 3 := by rw [hw4]; exact hz3
    rw [← hw4] at x3 y1'' y2'' hbn ⊢
    have s0' := x3.c0
    clear hw4 s0 s1 s2 y1'' y2'' e1 e2 e3 wr1 wr2 hps E1 E2 E3 b1 b2 hz1 hz2 hl hd he P
    go_upto_region 2 with fail
    go_region_held3 (fun w' => w'.cell? ⟨w.heap.size, 0, none⟩ = some (.slice a M cap)) (first | with_reducible exact s0 | with_reducible exact s0' | with_reducible exact k3 _ _ _ | with_reducible exact k6 _ _ _ _ _ _ | go_keep)
      (first
        | (have hbz := hbn.trans (bz.mono hbn.size); go_at_call 86; refine (C2.out _ hbz).mono ?_; rintro en w6 ⟨oa, oc, rfl, oo, bo, s0⟩; have hb6 := hbz.trans (bo.mono hbz.size); have v0 := PBox.belowAll hb6 x2; have k3 := fun x y z => (v0.put3 (g1 := w.heap.size + 1) (by omega) x y z).c0; have k6 := fun x y z x' y' z' => ((v0.put3 (g1 := w.heap.size + 1) (by omega) x y z).put3 (g1 := w.heap.size + 1 + 1) (by omega) x' y' z').c0; have v1 := PBox.belowAll hb6 y1'; have v2 : PBox w6 (w.heap.size + 1 + 1) _ _ _ := PBox.belowAll hb6 y2; have q0 := v1.c0; have q1 := v1.c1; have q2 := v1.c2; have q3 := v2.c0; have q4 := v2.c1; have q5 := v2.c2; have f0 := v1.fz 0; have f1 := v1.fz 1; have f2 := v1.fz 2; have f3 := v2.fz 0; have f4 := v2.fz 1; have f5 := v2.fz 2)
        | (go_at_call 86; refine (C1.out _ hbn).mono ?_; rintro en w5 ⟨za, zc, rfl, oz, bz, s0⟩))
    have hz5 := bz.size
    have hz6 := bo.size
    have hzd : (w4.drew).heap.size = w.heap.size + 3 := hz4
    rw [hzd] at oz bz hz5
    have p1 := (v1.put (.slice za L1.length zc) D1 e).put3 (g1 := w.heap.size + 1 + 1) (by omega) (.slice oa L2.length oc) (.int .i64 D1) (.int .i64 EP)
    have p2 := (v2.put3 (g1 := w.heap.size + 1) (by omega) (.slice za L1.length zc) (.int .i64 D1) (.int .i64 e)).put (.slice oa L2.length oc) D1 EP
    have oz6 := oz.below bo
    have r1 := ((oz6.put3 (g := w.heap.size + 1) (by omega) (.slice za L1.length zc) (.int .i64 D1) (.int .i64 e)).put3 (g := w.heap.size + 1 + 1) (by omega) (.slice oa L2.length oc) (.int .i64 D1) (.int .i64 EP)).mono (base' := w.heap.size) (by omega)
    have r2 := ((oo.put3 (g := w.heap.size + 1) (by omega) (.slice za L1.length zc) (.int .i64 D1) (.int .i64 e)).put3 (g := w.heap.size + 1 + 1) (by omega) (.slice oa L2.length oc) (.int .i64 D1) (.int .i64 EP)).mono (base' := w.heap.size) (by omega)
    have B6 := below_put3p (below_put3p (b3.trans (hb6.mono b3.size)) (g := w.heap.size + 1) (by omega) (.slice za L1.length zc) (.int .i64 D1) (.int .i64 e)) (g := w.heap.size + 1 + 1) (by omega) (.slice oa L2.length oc) (.int .i64 D1) (.int .i64 EP)
    have nn : (Value.slice za L1.length zc).ownBlock = none ∨ (Value.slice za L1.length zc).ownBlock ≠ (Value.slice oa L2.length oc).ownBlock := by
      by_cases h : (Value.slice za L1.length zc).ownBlock = none
      · exact .inl h
      · refine .inr fun e => ?_
        obtain ⟨k, hk⟩ := Option.ne_none_iff_exists'.1 h
        have i1 := (oz.lt k hk).2
        have i2 := (oo.lt k (by rw [← e]; exact hk)).1
        omega
    go_wp2
    exact ret_part2 rfl rfl _ _ rfl rfl _ _ _ _ _ _ p1 p2 ⟨_, _, rfl, r1, r2, nn, B6⟩
end Go.Proofs.YtoaiaindcmihjaaGreatDoor
/-
  impl.part.text.
-/
namespace Go.Proofs.YtoaiaindcmihjaaGreatDoor
open Go.RowKit

/-- What text gives, f parts deep. -/
def TXc (L : List Int) (f : Nat) : Prop := ∀ d e : Nat, f + d = 6 → e < 2 ^ d → ∀ (a : Option Addr) (cap : Nat) (w : World), Reads w a (tfl L d e) →
    Calls Tryz.prog 32 #[.agg #[.slice a (tfl L d e).length cap, .int .i64 (d : Int), .int .i64 (e : Int)]] w fun en w' => en = .returned (.string (B8 (ttr L f d e))) ∧ Below w.heap.size w w'
set_option maxHeartbeats 8000000 in
set_option maxRecDepth 100000 in
theorem text_few (L : List Int) (hr : ∀ x ∈ L, 0 ≤ x ∧ x ≤ 63) (f d e : Nat) (hd : d ≤ 6) (a : Option Addr) (cap : Nat) (w : World) (hR : Reads w a (tfl L d e)) (hfew : (tfl L d e).length ≤ 1) :
    Calls Tryz.prog 32 #[.agg #[.slice a (tfl L d e).length cap, .int .i64 (d : Int), .int .i64 (e : Int)]] w fun en w' => en = .returned (.string (B8 (ttr L f d e))) ∧ Below w.heap.size w w' := by
  have hN := fun h => ttr_none (l := L) (d := d) (e := e) h f
  have hO := fun x h => ttr_one (l := L) (d := d) (e := e) (x := x) h f
  have hTr : ∀ x ∈ tfl L d e, 0 ≤ x ∧ x ≤ 63 := fun x hx => hr x (tfl_mem.1 hx).1
  obtain ⟨R, hRR⟩ : ∃ R, R = ttr L f d e := ⟨_, rfl⟩
  rw [← hRR] at hN hO ⊢
  obtain ⟨T, hT⟩ : ∃ T, T = tfl L d e := ⟨_, rfl⟩
  rw [← hT] at hR hfew hN hO hTr ⊢
  clear hT hRR hr
  have x0 := fun n => PBox.new w (.slice a n cap) d e
  have b0 := fun n => (Below.refl w.heap.size w).alloc (Nat.le_refl _) (.cells #[.slice a n cap, .int .i64 (d : Int), .int .i64 (e : Int)] 48)
  cases T with
  | nil =>
    have hR0 := hN rfl
    subst hR0
    have x1 := x0 0
    have b1 := b0 0
    obtain ⟨w1, e1⟩ : ∃ w1, w1 = w.alloc (.cells #[.slice a 0 cap, .int .i64 (d : Int), .int .i64 (e : Int)] 48) := ⟨_, rfl⟩
    rw [← e1] at x1 b1
    have s0 := x1.c0
    have c1 := fun wx => fits_any a 0 cap 1 wx
    have c2 := fun wx => fits_any a 0 cap 0 wx
    rw [show decide (((0 : Nat) : Int) ≤ 1) = true from rfl] at c1
    rw [show decide (((0 : Nat) : Int) ≤ 0) = true from rfl] at c2
    have E1 := Lib.hid e1
    have C1 := Lib.hid c1
    have C2 := Lib.hid c2
    rw [show ([] : List Int).length = 0 from rfl]
    clear c1 c2 e1 x0 b0 hN hO hTr hfew hR x1
    go_enter Tryz.func32, Tryz.ntmps32
    go_wp2_with fail
    rw [← E1.out]
    refine (C1.out _).mono ?_
    rintro en w' ⟨rfl, rfl⟩
    go_wp2_with fail
    refine (C2.out _).mono ?_
    rintro en w' ⟨rfl, rfl⟩
    go_wp2
    go_ret
    exact ⟨rfl, b1⟩
  | cons x t =>
    obtain rfl : t = [] := List.eq_nil_of_length_eq_zero (by simpa using hfew)
    have hR0 := hO x rfl
    subst hR0
    obtain ⟨hx0, hx1⟩ := hTr x (by simp)
    obtain ⟨X, rfl⟩ : ∃ X : Nat, x = X := ⟨x.toNat, by omega⟩
    have x1 := x0 1
    have b1 := b0 1
    obtain ⟨w1, e1⟩ : ∃ w1, w1 = w.alloc (.cells #[.slice a 1 cap, .int .i64 (d : Int), .int .i64 (e : Int)] 48) := ⟨_, rfl⟩
    rw [← e1] at x1 b1
    have s0 := x1.c0
    obtain ⟨b, off, z, rfl, hb, hc0, hz⟩ := (hR.below b1).get (k := 0) (by simp)
    have hz2 : (X : Int) = z := hz.out
    subst hz2
    rw [Nat.add_zero] at hc0
    have c1 := fun wx => fits_any (some ⟨b, off, none⟩) 1 cap 1 wx
    have c2 := fun wx => fits_any (some ⟨b, off, none⟩) 1 cap 0 wx
    rw [show decide (((1 : Nat) : Int) ≤ 1) = true from rfl] at c1
    rw [show decide (((1 : Nat) : Int) ≤ 0) = false from rfl] at c2
    have ci := fun wx => itoaS_any X wx (by omega)
    have E1 := Lib.hid e1
    have C1 := Lib.hid c1
    have C2 := Lib.hid c2
    have CI := Lib.hid ci
    rw [show ([(X : Int)] : List Int).length = 1 from rfl, Int.toNat_natCast]
    obtain ⟨DX, hDX⟩ : ∃ DX, DX = B8 (dec X) := ⟨_, rfl⟩
    rw [← hDX] at CI ⊢
    clear c1 c2 ci e1 x0 b0 hN hO hTr hfew hR x1 hz hDX
    go_enter Tryz.func32, Tryz.ntmps32
    go_wp2_with fail
    rw [← E1.out]
    refine (C1.out _).mono ?_
    rintro en w' ⟨rfl, rfl⟩
    go_wp2_with fail
    refine (C2.out _).mono ?_
    rintro en w' ⟨rfl, rfl⟩
    go_wp2_with fail
    refine (CI.out _).mono ?_
    rintro en w' ⟨rfl, rfl⟩
    go_wp2
    go_ret
    exact ⟨rfl, b1⟩
end Go.Proofs.YtoaiaindcmihjaaGreatDoor
/-
  impl.part.text of more names, impl.TreeText.
-/
namespace Go.Proofs.YtoaiaindcmihjaaGreatDoor
open Go.RowKit

theorem B8_sizeT (x : List UInt8) : (B8 x).size = x.length := by show x.toArray.size = _; simp
theorem ttr_400 {L : List Int} (hn : L.Nodup) (hr : ∀ x ∈ L, 0 ≤ x ∧ x ≤ 63) (hl : L.length ≤ 12) (f d e : Nat) (hf : f + d = 6) (he : e < 2 ^ d) : (ttr L f d e).length ≤ 400 := by
  have h1 := ttr_len hn hr f d e hf he
  have h2 : (tfl L d e).length ≤ 12 := Nat.le_trans (List.length_filter_le _ _) hl
  have h3 : 5 * f * (tfl L d e).length ≤ 5 * 6 * 12 := Nat.mul_le_mul (by omega) h2
  omega
set_option maxHeartbeats 16000000 in
set_option maxRecDepth 100000 in
theorem text_more (L : List Int) (hn : L.Nodup) (hrng : ∀ x ∈ L, 0 ≤ x ∧ x ≤ 63) (hl12 : L.length ≤ 12) (g d e : Nat) (hgd : g + 1 + d = 6) (he : e < 2 ^ d) (ih : TXc L g) (sa : Option Addr) (sc : Nat) (w : World) (hrT : Reads w sa (tfl L d e)) (hmore : ¬ (tfl L d e).length ≤ 1) :
    Calls Tryz.prog 32 #[.agg #[.slice sa (tfl L d e).length sc, .int .i64 (d : Int), .int .i64 (e : Int)]] w fun en w' => en = .returned (.string (B8 (ttr L (g + 1) d e))) ∧ Below w.heap.size w w' := by
  have hps : 2 ^ (d + 1) = 2 * 2 ^ d := by rw [Nat.pow_succ]; omega
  have hp6 : 2 ^ d ≤ 2 ^ 6 := Nat.pow_le_pow_right (by omega) (by omega)
  have hR := ttr_more (l := L) (d := d) (e := e) (f := g) (by omega)
  have ih1 := ih (d + 1) e (by omega) (by omega)
  have ih2 := ih (d + 1) (e + 2 ^ d) (by omega) (by omega)
  rw [← tfl_sub he (.inl rfl)] at ih1
  rw [← tfl_sub he (.inr rfl)] at ih2
  have hA4 := ttr_400 hn hrng hl12 g (d + 1) e (by omega) (by omega)
  have hB4 := ttr_400 hn hrng hl12 g (d + 1) (e + 2 ^ d) (by omega) (by omega)
  have hT12 : (tfl L d e).length ≤ 12 := Nat.le_trans (List.length_filter_le _ _) hl12
  have hTr : ∀ x ∈ tfl L d e, 0 ≤ x ∧ x ≤ 63 := fun x hx => hrng x (tfl_mem.1 hx).1
  rw [hR]
  obtain ⟨T, hT⟩ : ∃ T, T = tfl L d e := ⟨_, rfl⟩
  rw [← hT] at hrT hmore ih1 ih2 hT12 hTr ⊢
  obtain ⟨A, hA⟩ : ∃ A, A = ttr L g (d + 1) e := ⟨_, rfl⟩
  obtain ⟨B, hB⟩ : ∃ B, B = ttr L g (d + 1) (e + 2 ^ d) := ⟨_, rfl⟩
  rw [← hA] at ih1 hA4
  rw [← hB] at ih2 hB4
  rw [← hA, ← hB]
  have x0 := PBox.new w (.slice sa T.length sc) d e
  have b0 := (Below.refl w.heap.size w).alloc (Nat.le_refl _) (.cells #[.slice sa T.length sc, .int .i64 (d : Int), .int .i64 (e : Int)] 48)
  obtain ⟨w1, e1⟩ : ∃ w1, w1 = w.alloc (.cells #[.slice sa T.length sc, .int .i64 (d : Int), .int .i64 (e : Int)] 48) := ⟨_, rfl⟩
  have hz1 : w1.heap.size = w.heap.size + 1 := by rw [e1]; simp
  rw [← e1] at x0 b0
  have E1 := Lib.hid e1
  have s0 := x0.c0
  have s1 := x0.c1
  have s2 := x0.c2
  have cf := fun wx => fits_any sa T.length sc 1 wx
  have hfi : ¬ (T.length : Int) ≤ 1 := by omega
  rw [decide_eq_false hfi] at cf
  have cH := fun wx (h : Below w1.heap.size w1 wx) => halves_any sa T sc d e wx ((hrT.below b0).below h) (by omega) hTr (by omega) (by omega)
  obtain ⟨D1, hD1⟩ : ∃ D1, D1 = d + 1 := ⟨_, rfl⟩
  obtain ⟨EP, hEP⟩ : ∃ EP, EP = e + 2 ^ d := ⟨_, rfl⟩
  rw [← hD1] at ih1 ih2
  rw [← hEP] at ih2
  simp only [← hD1, ← hEP] at cH
  obtain ⟨T1, hT1⟩ : ∃ T1, T1 = T.filter (fun x => decide (x.toNat % 2 ^ D1 = e)) := ⟨_, rfl⟩
  obtain ⟨T2, hT2⟩ : ∃ T2, T2 = T.filter (fun x => decide (x.toNat % 2 ^ D1 = EP)) := ⟨_, rfl⟩
  rw [← hT1] at ih1
  rw [← hT2] at ih2
  simp only [← hT1, ← hT2] at cH
  have zA := B8_sizeT A
  have zB := B8_sizeT B
  obtain ⟨SA, hSA⟩ : ∃ SA, SA = B8 A := ⟨_, rfl⟩
  obtain ⟨SB, hSB⟩ : ∃ SB, SB = B8 B := ⟨_, rfl⟩
  rw [← hSA] at ih1 zA
  rw [← hSB] at ih2 zB
  have CF := Lib.hid cf
  have CH := Lib.hid cH
  have I1 := Lib.hid ih1
  have I2 := Lib.hid ih2
  have HSA := Lib.hid hSA
  have HSB := Lib.hid hSB
  clear cf hfi e1 x0 hps hp6 hmore ih1 ih2 ih cH hA hB hD1 hEP hT1 hT2 hT hTr hrT hrng hn he hgd hT12 hR hSA hSB hl12 L
  go_enter Tryz.func32, Tryz.ntmps32
  go_wp2_with fail
  rw [← E1.out]
  refine (CF.out _).mono ?_
  rintro en w' ⟨rfl, rfl⟩
  go_wp2_with fail
  refine (CH.out _ (Below.refl _ _)).mono ?_
  rintro en w2 ⟨z, o, rfl, oz, oo, nn, b2⟩
  have hz2 := b2.size
  have B2 := b0.trans (b2.mono b0.size)
  obtain ⟨za, zc, rfl, rz, _, _, _⟩ := oz.form
  obtain ⟨oa, oc, rfl, ro, _, _, _⟩ := oo.form
  have y1 := PBox.new w2 (.slice za T1.length zc) D1 e
  obtain ⟨w3, e3⟩ : ∃ w3, w3 = w2.alloc (.cells #[.slice za T1.length zc, .int .i64 (D1 : Int), .int .i64 (e : Int)] 48) := ⟨_, rfl⟩
  have B3 := B2.alloc (by omega) (.cells #[.slice za T1.length zc, .int .i64 (D1 : Int), .int .i64 (e : Int)] 48)
  have hz3 : w3.heap.size = w2.heap.size + 1 := by rw [e3]; simp
  have b23 := (Below.refl w2.heap.size w2).alloc (Nat.le_refl _) (.cells #[.slice za T1.length zc, .int .i64 (D1 : Int), .int .i64 (e : Int)] 48)
  rw [← e3] at y1 B3 b23
  have p2 := PBox.new w3 (.slice oa T2.length oc) D1 EP
  obtain ⟨w5, e5⟩ : ∃ w5, w5 = w3.alloc (.cells #[.slice oa T2.length oc, .int .i64 (D1 : Int), .int .i64 (EP : Int)] 48) := ⟨_, rfl⟩
  have B5 := B3.alloc (by omega) (.cells #[.slice oa T2.length oc, .int .i64 (D1 : Int), .int .i64 (EP : Int)] 48)
  have hz5 : w5.heap.size = w2.heap.size + 2 := by rw [e5]; simp [hz3]
  have p1 := y1.alloc (.cells #[.slice oa T2.length oc, .int .i64 (D1 : Int), .int .i64 (EP : Int)] 48)
  have b24 := b23.alloc (by omega) (.cells #[.slice oa T2.length oc, .int .i64 (D1 : Int), .int .i64 (EP : Int)] 48)
  rw [← e5] at p1 p2 B5 b24
  rw [hz3] at p2
  have E3 := Lib.hid e3
  have E5 := Lib.hid e5
  have rz5 := rz.below b24
  have ro5 := ro.below b24
  have P1 := Lib.hid p1
  have P2 := Lib.hid p2
  have RO := Lib.hid ro5
  clear e3 e5 B2 B3 b23 p1 p2 y1 oz oo nn b24 rz ro ro5
  go_upto_region 3 with fail
  rw [← E3.out, ← E5.out]
  clear s0 s1 s2 E3 E5 E1
  have s0 := P1.out.c0
  have s1 := P1.out.c1
  have s2 := P1.out.c2
  have s3 := P2.out.c0
  have s4 := P2.out.c1
  have s5 := P2.out.c2
  have bd : Below w5.heap.size w5 w5.drew := (Below.refl _ _).drew
  have rzd : Reads w5.drew za T1 := rz5
  have k1 : ¬ 9223372036854775807 < 1 + A.length := by omega
  have k2 : ¬ 9223372036854775807 < 1 + A.length + 1 := by omega
  have k3 : ¬ 9223372036854775807 < 1 + A.length + 1 + B.length := by omega
  have k4 : ¬ 9223372036854775807 < 1 + A.length + 1 + B.length + 1 := by omega
  go_region_held3 (fun w' => w'.cell? ⟨w2.heap.size, 0, none⟩ = some (.slice za T1.length zc) ∧ w'.cell? ⟨w2.heap.size, 1, none⟩ = some (.int .i64 D1) ∧ w'.cell? ⟨w2.heap.size, 2, none⟩ = some (.int .i64 e) ∧ w'.cell? ⟨w2.heap.size + 1, 0, none⟩ = some (.slice oa T2.length oc) ∧ w'.cell? ⟨w2.heap.size + 1, 1, none⟩ = some (.int .i64 D1) ∧ w'.cell? ⟨w2.heap.size + 1, 2, none⟩ = some (.int .i64 EP))
    (first | with_reducible exact ⟨s0, s1, s2, s3, s4, s5⟩ | go_keep)
    (first
      | (have ho6 := RO6.out; go_at_call 32; refine (I2.out _ _ _ ho6).mono ?_; rintro en w7 ⟨rfl, b7⟩; have hb57 := b56.trans (b7.mono hz6); have v1 := PBox.belowAll hb57 P1.out; have v2 := PBox.belowAll hb57 P2.out; have s0 := v1.c0; have s1 := v1.c1; have s2 := v1.c2; have s3 := v2.c0; have s4 := v2.c1; have s5 := v2.c2)
      | (go_at_call 32; refine (I1.out _ _ _ rzd).mono ?_; rintro en w6 ⟨rfl, b6⟩; have b56 := bd.trans (b6.mono bd.size); have hz6 := b56.size; have RO6 := Lib.hid (Reads.below b56 RO.out); have u1 := PBox.belowAll b56 P1.out; have u2 := PBox.belowAll b56 P2.out; have s0 := u1.c0; have s1 := u1.c1; have s2 := u1.c2; have s3 := u2.c0; have s4 := u2.c1; have s5 := u2.c2))
  all_goals
    have BB := Lib.hid (B5.trans (hb57.mono B5.size))
    have hfin : (⟨#[40]⟩ : ByteArray) ++ SA ++ ⟨#[32]⟩ ++ SB ++ ⟨#[41]⟩ = B8 ([40] ++ A ++ [32] ++ B ++ [41]) := by
      rw [HSA.out, HSB.out, ← B8_app, ← B8_app, ← B8_app, ← B8_app]
    have HF := Lib.hid hfin
    clear hfin
    go_wp2
    go_ret
    exact ⟨congrArg (fun z => Ending.returned (.string z)) HF.out, BB.out⟩
theorem text_any (L : List Int) (hv : VNm L = true) : ∀ f, TXc L f := by
  obtain ⟨h12, hrng, hnd⟩ := VNm_iff.1 hv
  intro f
  induction f with
  | zero =>
    intro d e hfd he a cap w hr
    obtain rfl : d = 6 := by omega
    exact text_few L hrng 0 6 e (by omega) a cap w hr (tfl_six hnd hrng e)
  | succ f ih =>
    intro d e hfd he a cap w hr
    by_cases h : (tfl L d e).length ≤ 1
    · exact text_few L hrng (f + 1) d e (by omega) a cap w hr h
    · exact text_more L hnd hrng h12 f d e hfd he ih a cap w hr h
set_option maxHeartbeats 4000000 in
set_option maxRecDepth 100000 in
theorem implTreeText_e (a : Option Addr) (l : List Int) (cap : Nat) (w : World) (hr : Reads w a l) (_hi : ∀ n ∈ l, In64 n) (hl : l.length ≤ 1048586) (_hcap : l.length ≤ cap) :
    Calls Tryz.prog 9 #[.slice a l.length cap] w fun e w' => e = .returned (.string (B8 (TXT l))) ∧ Below w.heap.size w w' := by
  have cv := implvalidNames_any a l cap w hr hl
  cases hv : VNm l with
  | false =>
    rw [hv] at cv
    have hR : TXT l = [] := by unfold TXT; rw [hv]; rfl
    rw [hR]
    have CV := Lib.hid cv
    clear cv hv hR
    go_enter Tryz.func9, Tryz.ntmps9
    go_wp2_with fail
    refine CV.out.mono ?_
    rintro en w1 ⟨rfl, b1⟩
    go_wp2
    go_ret
    exact ⟨rfl, b1⟩
  | true =>
    rw [hv] at cv
    have hR : TXT l = ttr (srt l) 6 0 0 := by
      rw [TXT_perm (srt_perm l).symm]
      unfold TXT
      rw [if_pos (by rw [VNm_perm (srt_perm l)]; exact hv)]
    have hvs : VNm (srt l) = true := by rw [VNm_perm (srt_perm l)]; exact hv
    have cw := fun wx (h : Below w.heap.size w wx) => wholeOf_any a l cap wx (hr.below h) hl
    have ct := text_any (srt l) hvs 6 0 0 rfl (by simp)
    rw [tfl_zero] at ct
    rw [hR]
    obtain ⟨R, hRR⟩ : ∃ R, R = B8 (ttr (srt l) 6 0 0) := ⟨_, rfl⟩
    rw [← hRR] at ct ⊢
    obtain ⟨M, hM⟩ : ∃ M, M = l.length := ⟨_, rfl⟩
    rw [← hM] at cv cw ⊢
    obtain ⟨L, hL⟩ : ∃ L, L = srt l := ⟨_, rfl⟩
    simp only [← hL] at cw ct
    have CV := Lib.hid cv
    have CW := Lib.hid cw
    have CT := Lib.hid ct
    clear cv cw ct hv hvs hR hRR hM hL hr _hi hl _hcap
    go_enter Tryz.func9, Tryz.ntmps9
    go_wp2_with fail
    refine CV.out.mono ?_
    rintro en w1 ⟨rfl, b1⟩
    go_wp2_with fail
    refine (CW.out _ b1).mono ?_
    rintro en w2 ⟨v, rfl, o2, b2, _⟩
    obtain ⟨sa, sc, rfl, r2, _, _, _⟩ := o2.form
    have B2 := b1.trans (b2.mono b1.size)
    go_wp2_with fail
    refine (CT.out sa sc _ r2).mono ?_
    rintro en w3 ⟨rfl, b3⟩
    have B3 := B2.trans (b3.mono B2.size)
    go_wp2
    go_ret
    exact ⟨rfl, B3⟩
end Go.Proofs.YtoaiaindcmihjaaGreatDoor
/-
  The desk's five answerers: the closures, apartText, answererOf.
-/
namespace Go.Proofs.YtoaiaindcmihjaaGreatDoor
open Go.RowKit

/-- A list that slotsText takes. -/
def okT (T : List Int) : Prop := T.length ≤ 1000 ∧ (∀ x ∈ T, In64 x ∧ -1 ≤ x) ∧ (ltx T).length ≤ 100000
theorem okT_nil : okT [] := ⟨by simp, by simp, by simp [ltx]⟩
theorem okT_of {T : List Int} (hl : T.length ≤ 1000) (h : ∀ x ∈ T, -1 ≤ x ∧ x < 1000000) : okT T := by
  refine ⟨hl, fun x hx => ?_, ?_⟩
  · have := h x hx
    exact ⟨by unfold In64; omega, by omega⟩
  · have := ltx_len T (fun x hx => (h x hx).2)
    omega
theorem keys_m1 {k : Nat} {t : List Int} (h : Keys k t) : ∀ x ∈ t, -1 ≤ x := by
  intro x hx
  obtain ⟨i, hi, rfl⟩ := List.getElem_of_mem hx
  have := h i hi
  rw [show t.getD i 0 = t[i] by simp [List.getD, hi]] at this
  omega
theorem okT_keys {k : Nat} {t : List Int} (h : Keys k t) (hk : k ≤ 1000) (hl : t.length ≤ 1000) : okT t :=
  okT_of hl fun x hx => ⟨keys_m1 h x hx, keys_lt h hk x hx⟩
theorem okT_LT (l : List Int) : okT (LT 10 l).1 := by
  unfold LT
  split
  · rename_i hv
    have hh := VH_homes hv
    exact okT_keys (lin_keys 10 l l.length) (by have := hh.len; omega) (by show (lin 10 l l.length).1.length ≤ 1000; rw [lin_len]; omega)
  · exact okT_nil
theorem okT_FT (l : List Int) : okT (FT 10 l) := by
  unfold FT
  split
  · rename_i hv
    have hh := VH_homes hv
    have hri := rob_inv hh l.length (Nat.le_refl _)
    exact okT_keys hri.2.1 (by have := hh.len; omega) (by have := hri.1; exact Nat.le_trans (Nat.le_of_eq this) (by decide))
  · exact okT_nil
theorem okT_SH (l : List Int) : okT (SH l) := by
  by_cases hv : VR l = true
  · have h := SH_lt hv
    refine okT_of (by omega) fun x hx => ⟨?_, h.2 x hx⟩
    obtain ⟨i, hi, rfl⟩ := List.getElem_of_mem hx
    have h2 := SH_one hv (s := i) (by unfold SH at hi; rw [if_pos hv, shr_len] at hi; exact hi)
    rw [show (SH l).getD i 0 = (SH l)[i] by simp [List.getD, hi]] at h2
    omega
  · unfold SH; rw [if_neg hv]; exact okT_nil
theorem LA_le (l : List Int) : LA l = -1 ∨ (1 ≤ LA l ∧ LA l ≤ 31) := by
  by_cases hv : VK l = true
  · have := LA_facts hv; exact .inr ⟨this.1, this.2.1⟩
  · left; unfold LA; rw [if_neg hv]
set_option maxHeartbeats 4000000 in
theorem ansLinear_any (a : Option Addr) (l : List Int) (cap : Nat) (w : World) (hr : Reads w a l) (hi : ∀ n ∈ l, In64 n) (hl : l.length ≤ 1048586) (_hcap : l.length ≤ cap) (hG : GN w) :
    Calls Tryz.prog 94 #[.slice a l.length cap] w fun e w' => e = .returned (.string (B8 (ltx (LT 10 l).1))) ∧ Below w.heap.size w w' := by
  have cL := implLinearTable_any 10 a l cap w (by unfold In64; omega) hr hi hl
  have cS := fun ax cx wx h hg => slotsText_any ax (LT 10 l).1 cx wx h (okT_LT l).2.1 (okT_LT l).1 (okT_LT l).2.2 hg
  obtain ⟨T, hT⟩ : ∃ T, T = (LT 10 l).1 := ⟨_, rfl⟩
  obtain ⟨k, hk⟩ : ∃ k, k = (LT 10 l).2 := ⟨_, rfl⟩
  rw [← hT, ← hk] at cL
  rw [← hT] at cS ⊢
  have CL := Lib.hid cL
  have CS := Lib.hid cS
  have HG := Lib.hid hG
  clear cL cS hT hk hG
  go_enter Tryz.func94, Tryz.ntmps94
  go_wp2_with fail
  refine CL.out.mono ?_
  rintro e w1 ⟨v, rfl, o1, b1⟩
  obtain ⟨a1, c1, rfl, r1, _, _, _⟩ := o1.form
  have c2 := CS.out a1 c1 w1 r1 (GN.below HG.out b1)
  have C2 := Lib.hid c2
  clear c2 CS CL o1
  go_wp2_with fail
  refine C2.out.mono ?_
  rintro e w2 ⟨rfl, b2⟩
  have B2 := b1.trans (b2.mono b1.size)
  go_wp2
  go_ret
  exact ⟨rfl, B2⟩
set_option maxHeartbeats 4000000 in
theorem ansFair_any (a : Option Addr) (l : List Int) (cap : Nat) (w : World) (hr : Reads w a l) (hi : ∀ n ∈ l, In64 n) (hl : l.length ≤ 1048586) (_hcap : l.length ≤ cap) (hG : GN w) :
    Calls Tryz.prog 97 #[.slice a l.length cap] w fun e w' => e = .returned (.string (B8 (ltx (FT 10 l)))) ∧ Below w.heap.size w w' := by
  have cL := implFairTable_any 10 a l cap w (by unfold In64; omega) hr hi hl
  have cS := fun ax cx wx h hg => slotsText_any ax (FT 10 l) cx wx h (okT_FT l).2.1 (okT_FT l).1 (okT_FT l).2.2 hg
  obtain ⟨T, hT⟩ : ∃ T, T = FT 10 l := ⟨_, rfl⟩
  rw [← hT] at cL
  rw [← hT] at cS ⊢
  have CL := Lib.hid cL
  have CS := Lib.hid cS
  have HG := Lib.hid hG
  clear cL cS hT hG
  go_enter Tryz.func97, Tryz.ntmps97
  go_wp2_with fail
  refine CL.out.mono ?_
  rintro e w1 ⟨v, rfl, o1, b1⟩
  obtain ⟨a1, c1, rfl, r1, _, _, _⟩ := o1.form
  have c2 := CS.out a1 c1 w1 r1 (GN.below HG.out b1)
  have C2 := Lib.hid c2
  clear c2 CS CL o1
  go_wp2_with fail
  refine C2.out.mono ?_
  rintro e w2 ⟨rfl, b2⟩
  have B2 := b1.trans (b2.mono b1.size)
  go_wp2
  go_ret
  exact ⟨rfl, B2⟩
set_option maxHeartbeats 4000000 in
theorem ansShares_any (a : Option Addr) (l : List Int) (cap : Nat) (w : World) (hr : Reads w a l) (hi : ∀ n ∈ l, In64 n) (hl : l.length ≤ 1048586) (hcap : l.length ≤ cap) (hG : GN w) :
    Calls Tryz.prog 99 #[.slice a l.length cap] w fun e w' => e = .returned (.string (B8 (ltx (SH l)))) ∧ Below w.heap.size w w' := by
  have cL := implSharesOf_any a l cap w hr hi hl hcap
  have cS := fun ax cx wx h hg => slotsText_any ax (SH l) cx wx h (okT_SH l).2.1 (okT_SH l).1 (okT_SH l).2.2 hg
  obtain ⟨T, hT⟩ : ∃ T, T = SH l := ⟨_, rfl⟩
  rw [← hT] at cL
  rw [← hT] at cS ⊢
  have CL := Lib.hid cL
  have CS := Lib.hid cS
  have HG := Lib.hid hG
  clear cL cS hT hG
  go_enter Tryz.func99, Tryz.ntmps99
  go_wp2_with fail
  refine CL.out.mono ?_
  rintro e w1 ⟨v, rfl, o1, b1⟩
  obtain ⟨a1, c1, rfl, r1, _, _, _⟩ := o1.form
  have c2 := CS.out a1 c1 w1 r1 (GN.below HG.out b1)
  have C2 := Lib.hid c2
  clear c2 CS CL o1
  go_wp2_with fail
  refine C2.out.mono ?_
  rintro e w2 ⟨rfl, b2⟩
  have B2 := b1.trans (b2.mono b1.size)
  go_wp2
  go_ret
  exact ⟨rfl, B2⟩
set_option maxHeartbeats 4000000 in
theorem apartText_any (a : Option Addr) (l : List Int) (cap : Nat) (w : World) (hr : Reads w a l) (hi : ∀ n ∈ l, In64 n) (hl : l.length ≤ 1048586) (_hcap : l.length ≤ cap) (hG : GN w) :
    Calls Tryz.prog 101 #[.slice a l.length cap] w fun e w' => e = .returned (.string (B8 (if LA l < 0 then [] else dec (LA l).toNat))) ∧ Below w.heap.size w w' := by
  have cL := implLeastApart_any a l cap w hr hi hl
  have hb := LA_le l
  obtain ⟨k, hk⟩ : ∃ k, k = LA l := ⟨_, rfl⟩
  rw [← hk] at cL hb ⊢
  have CL := Lib.hid cL
  have HG := Lib.hid hG
  clear cL hG hk
  by_cases hn : k < 0
  · rw [if_pos hn]
    clear hb
    go_enter Tryz.func101, Tryz.ntmps101
    go_wp2_with fail
    refine CL.out.mono ?_
    rintro e w1 ⟨rfl, b1⟩
    go_wp2
    go_ret
    exact ⟨rfl, b1⟩
  · rw [if_neg hn]
    have cI := fun wx h => itoaAll_any k wx (by unfold In64; omega) h
    rw [itoa_num1 (by omega), show num1 k = dec k.toNat by unfold num1; rw [if_neg hn]] at cI
    have CI := Lib.hid cI
    clear cI hb
    go_enter Tryz.func101, Tryz.ntmps101
    go_wp2_with fail
    refine CL.out.mono ?_
    rintro e w1 ⟨rfl, b1⟩
    have c2 := CI.out w1 (GN.below HG.out b1)
    have C2 := Lib.hid c2
    clear c2 CI CL
    go_wp2_with fail
    refine C2.out.mono ?_
    rintro e w2 ⟨rfl, b2⟩
    have B2 := b1.trans (b2.mono b1.size)
    go_wp2
    go_ret
    exact ⟨rfl, B2⟩
end Go.Proofs.YtoaiaindcmihjaaGreatDoor
/-
  impl.answererOf. (Written by genok5.py.)
-/
namespace Go.Proofs.YtoaiaindcmihjaaGreatDoor
open Go.RowKit

set_option maxHeartbeats 4000000 in
theorem answererOf_Linear (w : World) : Calls Tryz.prog 72 #[.string (B8 wLinear)] w fun e w' => e = .returned (.func (.func 94) #[] #[]) ∧ w' = w := by
  have hta := B8_list wLinear
  obtain ⟨Sa, hSa⟩ : ∃ S, S = B8 wLinear := ⟨_, rfl⟩
  obtain ⟨a, ha⟩ : ∃ a, a = wLinear := ⟨_, rfl⟩
  rw [← hSa, ← ha] at hta
  rw [← hSa]
  have bLinear : (a == ([108, 105, 110, 101, 97, 114] : List UInt8)) = true := by rw [ha]; rfl
  have bFair : (a == ([102, 97, 105, 114] : List UInt8)) = false := by rw [ha]; rfl
  have bShares : (a == ([115, 104, 97, 114, 101, 115] : List UInt8)) = false := by rw [ha]; rfl
  have bApart : (a == ([97, 112, 97, 114, 116] : List UInt8)) = false := by rw [ha]; rfl
  have bTree : (a == ([116, 114, 101, 101] : List UInt8)) = false := by rw [ha]; rfl
  clear hSa ha
  go_enter Tryz.func72, Tryz.ntmps72
  go_wp2
  go_ret
  exact ⟨rfl, rfl⟩
set_option maxHeartbeats 4000000 in
theorem answererOf_Fair (w : World) : Calls Tryz.prog 72 #[.string (B8 wFair)] w fun e w' => e = .returned (.func (.func 97) #[] #[]) ∧ w' = w := by
  have hta := B8_list wFair
  obtain ⟨Sa, hSa⟩ : ∃ S, S = B8 wFair := ⟨_, rfl⟩
  obtain ⟨a, ha⟩ : ∃ a, a = wFair := ⟨_, rfl⟩
  rw [← hSa, ← ha] at hta
  rw [← hSa]
  have bLinear : (a == ([108, 105, 110, 101, 97, 114] : List UInt8)) = false := by rw [ha]; rfl
  have bFair : (a == ([102, 97, 105, 114] : List UInt8)) = true := by rw [ha]; rfl
  have bShares : (a == ([115, 104, 97, 114, 101, 115] : List UInt8)) = false := by rw [ha]; rfl
  have bApart : (a == ([97, 112, 97, 114, 116] : List UInt8)) = false := by rw [ha]; rfl
  have bTree : (a == ([116, 114, 101, 101] : List UInt8)) = false := by rw [ha]; rfl
  clear hSa ha
  go_enter Tryz.func72, Tryz.ntmps72
  go_wp2
  go_ret
  exact ⟨rfl, rfl⟩
set_option maxHeartbeats 4000000 in
theorem answererOf_Shares (w : World) : Calls Tryz.prog 72 #[.string (B8 wShares)] w fun e w' => e = .returned (.func (.func 99) #[] #[]) ∧ w' = w := by
  have hta := B8_list wShares
  obtain ⟨Sa, hSa⟩ : ∃ S, S = B8 wShares := ⟨_, rfl⟩
  obtain ⟨a, ha⟩ : ∃ a, a = wShares := ⟨_, rfl⟩
  rw [← hSa, ← ha] at hta
  rw [← hSa]
  have bLinear : (a == ([108, 105, 110, 101, 97, 114] : List UInt8)) = false := by rw [ha]; rfl
  have bFair : (a == ([102, 97, 105, 114] : List UInt8)) = false := by rw [ha]; rfl
  have bShares : (a == ([115, 104, 97, 114, 101, 115] : List UInt8)) = true := by rw [ha]; rfl
  have bApart : (a == ([97, 112, 97, 114, 116] : List UInt8)) = false := by rw [ha]; rfl
  have bTree : (a == ([116, 114, 101, 101] : List UInt8)) = false := by rw [ha]; rfl
  clear hSa ha
  go_enter Tryz.func72, Tryz.ntmps72
  go_wp2
  go_ret
  exact ⟨rfl, rfl⟩
set_option maxHeartbeats 4000000 in
theorem answererOf_Apart (w : World) : Calls Tryz.prog 72 #[.string (B8 wApart)] w fun e w' => e = .returned (.func (.func 101) #[] #[]) ∧ w' = w := by
  have hta := B8_list wApart
  obtain ⟨Sa, hSa⟩ : ∃ S, S = B8 wApart := ⟨_, rfl⟩
  obtain ⟨a, ha⟩ : ∃ a, a = wApart := ⟨_, rfl⟩
  rw [← hSa, ← ha] at hta
  rw [← hSa]
  have bLinear : (a == ([108, 105, 110, 101, 97, 114] : List UInt8)) = false := by rw [ha]; rfl
  have bFair : (a == ([102, 97, 105, 114] : List UInt8)) = false := by rw [ha]; rfl
  have bShares : (a == ([115, 104, 97, 114, 101, 115] : List UInt8)) = false := by rw [ha]; rfl
  have bApart : (a == ([97, 112, 97, 114, 116] : List UInt8)) = true := by rw [ha]; rfl
  have bTree : (a == ([116, 114, 101, 101] : List UInt8)) = false := by rw [ha]; rfl
  clear hSa ha
  go_enter Tryz.func72, Tryz.ntmps72
  go_wp2
  go_ret
  exact ⟨rfl, rfl⟩
set_option maxHeartbeats 4000000 in
theorem answererOf_Tree (w : World) : Calls Tryz.prog 72 #[.string (B8 wTree)] w fun e w' => e = .returned (.func (.func 9) #[] #[]) ∧ w' = w := by
  have hta := B8_list wTree
  obtain ⟨Sa, hSa⟩ : ∃ S, S = B8 wTree := ⟨_, rfl⟩
  obtain ⟨a, ha⟩ : ∃ a, a = wTree := ⟨_, rfl⟩
  rw [← hSa, ← ha] at hta
  rw [← hSa]
  have bLinear : (a == ([108, 105, 110, 101, 97, 114] : List UInt8)) = false := by rw [ha]; rfl
  have bFair : (a == ([102, 97, 105, 114] : List UInt8)) = false := by rw [ha]; rfl
  have bShares : (a == ([115, 104, 97, 114, 101, 115] : List UInt8)) = false := by rw [ha]; rfl
  have bApart : (a == ([97, 112, 97, 114, 116] : List UInt8)) = false := by rw [ha]; rfl
  have bTree : (a == ([116, 114, 101, 101] : List UInt8)) = true := by rw [ha]; rfl
  clear hSa ha
  go_enter Tryz.func72, Tryz.ntmps72
  go_wp2
  go_ret
  exact ⟨rfl, rfl⟩
set_option maxHeartbeats 4000000 in
theorem answererOf_no (a : List UInt8) (w : World) (h : isW a = false) : Calls Tryz.prog 72 #[.string (B8 a)] w fun e w' => e = .returned .nilFunc ∧ w' = w := by
  have hta := B8_list a
  obtain ⟨Sa, hSa⟩ : ∃ S, S = B8 a := ⟨_, rfl⟩
  rw [← hSa] at hta ⊢
  unfold isW at h
  simp only [Bool.or_eq_false_iff, decide_eq_false_iff_not] at h
  obtain ⟨⟨⟨⟨h1, h2⟩, h3⟩, h4⟩, h5⟩ := h
  have bLinear : (a == ([108, 105, 110, 101, 97, 114] : List UInt8)) = false := beq_false_of_ne h1
  have bFair : (a == ([102, 97, 105, 114] : List UInt8)) = false := beq_false_of_ne h2
  have bShares : (a == ([115, 104, 97, 114, 101, 115] : List UInt8)) = false := beq_false_of_ne h3
  have bApart : (a == ([97, 112, 97, 114, 116] : List UInt8)) = false := beq_false_of_ne h4
  have bTree : (a == ([116, 114, 101, 101] : List UInt8)) = false := beq_false_of_ne h5
  clear hSa h1 h2 h3 h4 h5
  go_enter Tryz.func72, Tryz.ntmps72
  go_wp2
  go_ret
  exact ⟨rfl, rfl⟩
/-- Whatever the word: some function, and nothing is changed. -/
theorem answererOf_any (a : List UInt8) (w : World) : Calls Tryz.prog 72 #[.string (B8 a)] w fun e w' => ∃ v, e = .returned v ∧ w' = w := by
  cases h : isW a with
  | false => exact (answererOf_no a w h).mono fun e w' ⟨h1, h2⟩ => ⟨_, h1, h2⟩
  | true =>
    unfold isW at h
    simp only [Bool.or_eq_true, decide_eq_true_eq] at h
    rcases h with (((h | h) | h) | h) | h <;> subst h
    · exact (answererOf_Linear w).mono fun e w' ⟨h1, h2⟩ => ⟨_, h1, h2⟩
    · exact (answererOf_Fair w).mono fun e w' ⟨h1, h2⟩ => ⟨_, h1, h2⟩
    · exact (answererOf_Shares w).mono fun e w' ⟨h1, h2⟩ => ⟨_, h1, h2⟩
    · exact (answererOf_Apart w).mono fun e w' ⟨h1, h2⟩ => ⟨_, h1, h2⟩
    · exact (answererOf_Tree w).mono fun e w' ⟨h1, h2⟩ => ⟨_, h1, h2⟩
end Go.Proofs.YtoaiaindcmihjaaGreatDoor
/-
  impl.readNumbers.
-/
namespace Go.Proofs.YtoaiaindcmihjaaGreatDoor
open Go.RowKit

theorem rds_take {fs : List (List UInt8)} {i : Nat} (h : i < fs.length) : fs.take (i + 1) = fs.take i ++ [fs.getD i []] := by
  rw [List.take_succ_eq_append_getElem h]; simp [List.getD, h]
theorem rds_all {fs : List (List UInt8)} {i : Nat} (h : rds (fs.take i) = none) : rds fs = none := by
  rw [← List.take_append_drop i fs]; exact rds_none h
theorem rds_in64 : ∀ {fs : List (List UInt8)} {N : List Int}, rds fs = some N → ∀ x ∈ N, In64 x := by
  intro fs
  induction fs with
  | nil => intro N h; rw [rds] at h; injection h with h; rw [← h]; simp
  | cons p fs ih =>
    intro N h
    rw [rds] at h
    split at h
    · rename_i v r h1 h2
      injection h with h
      subst h
      intro x hx
      rcases List.mem_cons.1 hx with rfl | hx
      · exact atoi_in64 (rnb_some h1).1
      · exact ih h2 x hx
    · cases h
set_option maxHeartbeats 8000000 in
set_option maxRecDepth 100000 in
theorem readNumbers_any (a : Option Addr) (fs : List (List UInt8)) (cap : Nat) (w : World) (hr : ReadsX w a fs) (hl : fs.length ≤ 1048600) (hs : ∀ p ∈ fs, p.length ≤ 100000000) (hG : GN w) :
    Calls Tryz.prog 62 #[.slice a fs.length cap] w fun e w' => ∃ v, e = .returned (.tuple #[v, .bool (rds fs).isSome]) ∧ Own w' w.heap.size v ((rds fs).getD []) ∧ Below w.heap.size w w' := by
  obtain ⟨M, hM⟩ : ∃ M, M = fs.length := ⟨_, rfl⟩
  have HM := Lib.hid hM
  have HS := Lib.hid hs
  obtain ⟨R, hR⟩ : ∃ R, R = rds fs := ⟨_, rfl⟩
  have HR := Lib.hid hR
  rw [← hM] at hl ⊢
  rw [← hR]
  have HG := Lib.hid hG
  have b0 := Below.refl w.heap.size w
  clear hM hs hR hG
  go_enter Tryz.func62, Tryz.ntmps62
  go_wp2
  go_loopw [4, 11] (fun sv iv wr => ∃ (i : Nat) (N : List Int), i ≤ M ∧ iv = .int .i64 (i : Int) ∧ Hid (rds (fs.take i) = some N) ∧ Own wr w.heap.size sv N ∧ Below w.heap.size w wr) (fun _ iv _ => M - (intOf iv).toNat)
  case atStart => exact ⟨0, [], by omega, rfl, rfl, Own.nil _ _, b0⟩
  case round =>
    clear b0
    rename World => wo
    obtain ⟨i, N, hi, rfl, hN, ho, hB⟩ := hrel
    have hNl : N.length ≤ i := by have := rds_len hN.out; rw [List.length_take] at this; omega
    by_cases hlt : i < M
    · have hi1 : (i : Int) < (M : Int) := by omega
      obtain ⟨b, off, rfl, hb, hc0⟩ := hr.get (k := i) (by have := HM.out; omega)
      have hcell := (hB.cell (p := ⟨b, off + i, none⟩) hb).trans hc0
      have htk := rds_take (fs := fs) (i := i) (by have := HM.out; omega)
      have hps := HS.out (fs.getD i []) (by
        have hlt' : i < fs.length := by have := HM.out; omega
        simp only [List.getD, List.getElem?_eq_getElem hlt', Option.getD_some]
        exact List.getElem_mem hlt')
      obtain ⟨p, hp⟩ : ∃ p, p = fs.getD i [] := ⟨_, rfl⟩
      rw [← hp] at hcell htk hps
      have hz1 := hB.size
      have hGo : GN wo := HG.out.below hB
      have ca := atoiAll_any p wo hps hGo
      have hpl := B8_list p
      obtain ⟨S, hS⟩ : ∃ S, S = B8 p := ⟨_, rfl⟩
      rw [← hS] at hcell ca hpl
      have CA := Lib.hid ca
      have HTK := Lib.hid htk
      have GO := Lib.hid hGo
      obtain ⟨sa, sc, rfl, _, _, _, _⟩ := ho.form
      clear hc0 hp hS ca htk hGo hps
      go_wp2_with fail
      refine CA.out.mono ?_
      rintro en w2 ⟨⟨v, er, rfl, hcase⟩, b2⟩
      have B2 := hB.trans (b2.mono hB.size)
      have G2 := GN.below GO.out b2
      have o2 := ho.below b2
      have hz2 := B2.size
      clear hB ho CA
      rcases hcase with ⟨hA, rfl⟩ | ⟨hA, t, q, rfl⟩
      · have hv := atoi_in64 hA
        have ci := itoaAll_any v w2 hv G2
        obtain ⟨T, hT⟩ : ∃ T, T = Go.Lib.itoa v := ⟨_, rfl⟩
        rw [← hT] at ci
        have hTl := B8_list T
        obtain ⟨ST, hST⟩ : ∃ ST, ST = B8 T := ⟨_, rfl⟩
        rw [← hST] at ci hTl
        have CI := Lib.hid ci
        have HT := Lib.hid hT
        have HA := Lib.hid hA
        clear ci hT hST hA
        by_cases hTp : T = p
        · have hrn : rnb p = some v := by
            unfold rnb; rw [HA.out]; simp only; rw [if_pos (by rw [← HT.out]; exact hTp)]
          have hnx : rds (fs.take (i + 1)) = some (N ++ [v]) := by rw [HTK.out, rds_snoc, hN.out, hrn]
          have HNX := Lib.hid hnx
          have hb : (T == p) = true := by rw [hTp]; simp
          have hb2 : (T != p) = false := by rw [hTp]; simp
          clear hTp hrn hnx
          go_wp2_with fail
          refine CI.out.mono ?_
          rintro en w3 ⟨rfl, b3⟩
          have B3 := B2.trans (b3.mono B2.size)
          have o3 := o2.below b3
          have hz3 := B3.size
          clear B2 o2 CI
          go_wp2_with (at_builtin; refine push_int rfl (.tmp 28) (.tmp 30) rfl w.heap.size _ N v rfl o3 rfl (by omega) hz3 ?_)
          intro v' wf of _ gf
          have hBf := B3.grown gf B3.size (fun k hk => (o3.lt k hk).1)
          clear gf o3 B3
          go_wp2
          go_roundw
          case rel => exact ⟨i + 1, N ++ [v], by omega, by go_num, HNX.out, of, hBf⟩
          case measure => simp [intOf]; omega
        · have hrn : rnb p = none := by
            unfold rnb; rw [HA.out]; simp only; rw [if_neg (by rw [← HT.out]; exact hTp)]
          have hnx : R = none := by rw [HR.out]; exact rds_all (i := i + 1) (by rw [HTK.out, rds_snoc, hN.out, hrn])
          subst hnx
          have hb : (T == p) = false := by simpa using hTp
          have hb2 : (T != p) = true := by simpa using hTp
          clear hTp hrn
          go_wp2_with fail
          refine CI.out.mono ?_
          rintro en w3 ⟨rfl, b3⟩
          have B3 := B2.trans (b3.mono B2.size)
          clear B2 o2 CI
          go_wp2
          go_ret2
          exact ⟨_, rfl, Own.nil _ _, B3⟩
      · have hrn : rnb p = none := by
          unfold rnb
          cases hx : Go.Lib.atoiAll p with
          | ok x => exact absurd hx (hA x)
          | _ => rfl
        have hnx : R = none := by rw [HR.out]; exact rds_all (i := i + 1) (by rw [HTK.out, rds_snoc, hN.out, hrn])
        subst hnx
        clear hrn hA
        go_wp2
        go_ret2
        exact ⟨_, rfl, Own.nil _ _, B2⟩
    · obtain rfl : i = M := by omega
      have hRN : R = some N := by rw [HR.out, ← hN.out, HM.out, List.take_length]
      subst hRN
      obtain ⟨sa, sc, rfl, _, _, _, _⟩ := ho.form
      go_wp2
      go_ret2
      exact ⟨_, rfl, ho, hB⟩
end Go.Proofs.YtoaiaindcmihjaaGreatDoor
