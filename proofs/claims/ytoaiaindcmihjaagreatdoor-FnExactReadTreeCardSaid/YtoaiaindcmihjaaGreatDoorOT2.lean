/-
  impl.part.text of more names, impl.TreeText.
-/
import Derived.Test.YtoaiaindcmihjaaGreatDoorOT1
import Derived.Deep.RegionHeld3
namespace Go.Proofs.YtoaiaindcmihjaaGreatDoor
open Go.RowKit

theorem B8_sizeT (x : List UInt8) : (B8 x).size = x.length := by show x.toArray.size = _; simp
theorem ttr_400 {L : List Int} (hn : L.Nodup) (hr : ∀ x ∈ L, 0 ≤ x ∧ x ≤ 63) (hl : L.length ≤ 12) (f d e : Nat) (hf : f + d = 6) (he : e < 2 ^ d) : (ttr L f d e).length ≤ 400 := by
  have h1 := ttr_len hn hr f d e hf he
  have h2 : (tfl L d e).length ≤ 12 := Nat.le_trans (List.length_filter_le _ _) hl
  have h3 : 5 * f * (tfl L d e).length ≤ 5 * 6 * 12 := Nat.mul_le_mul (by omega) h2
  omega
set_option maxHeartbeats 16000000 in
set_option maxRecDepth 100000 in
theorem text_more (L : List Int) (hn : L.Nodup) (hrng : ∀ x ∈ L, 0 ≤ x ∧ x ≤ 63) (hl12 : L.length ≤ 12) (g d e : Nat) (hgd : g + 1 + d = 6) (he : e < 2 ^ d) (ih : TXc L g) (sa : Option Addr) (sc : Nat) (w : World) (hrT : Reads w sa (tfl L d e)) (hmore : ¬ (tfl L d e).length ≤ 1) :
    Calls Tryz.prog 32 #[.agg #[.slice sa (tfl L d e).length sc, .int .i64 (d : Int), .int .i64 (e : Int)]] w fun en w' => en = .returned (.string (B8 (ttr L (g + 1) d e))) ∧ Below w.heap.size w w' := by
  have hps : 2 ^ (d + 1) = 2 * 2 ^ d := by rw [Nat.pow_succ]; omega
  have hp6 : 2 ^ d ≤ 2 ^ 6 := Nat.pow_le_pow_right (by omega) (by omega)
  have hR := ttr_more (l := L) (d := d) (e := e) (f := g) (by omega)
  have ih1 := ih (d + 1) e (by omega) (by omega)
  have ih2 := ih (d + 1) (e + 2 ^ d) (by omega) (by omega)
  rw [← tfl_sub he (.inl rfl)] at ih1
  rw [← tfl_sub he (.inr rfl)] at ih2
  have hA4 := ttr_400 hn hrng hl12 g (d + 1) e (by omega) (by omega)
  have hB4 := ttr_400 hn hrng hl12 g (d + 1) (e + 2 ^ d) (by omega) (by omega)
  have hT12 : (tfl L d e).length ≤ 12 := Nat.le_trans (List.length_filter_le _ _) hl12
  have hTr : ∀ x ∈ tfl L d e, 0 ≤ x ∧ x ≤ 63 := fun x hx => hrng x (tfl_mem.1 hx).1
  rw [hR]
  obtain ⟨T, hT⟩ : ∃ T, T = tfl L d e := ⟨_, rfl⟩
  rw [← hT] at hrT hmore ih1 ih2 hT12 hTr ⊢
  obtain ⟨A, hA⟩ : ∃ A, A = ttr L g (d + 1) e := ⟨_, rfl⟩
  obtain ⟨B, hB⟩ : ∃ B, B = ttr L g (d + 1) (e + 2 ^ d) := ⟨_, rfl⟩
  rw [← hA] at ih1 hA4
  rw [← hB] at ih2 hB4
  rw [← hA, ← hB]
  have x0 := PBox.new w (.slice sa T.length sc) d e
  have b0 := (Below.refl w.heap.size w).alloc (Nat.le_refl _) (.cells #[.slice sa T.length sc, .int .i64 (d : Int), .int .i64 (e : Int)] 48)
  obtain ⟨w1, e1⟩ : ∃ w1, w1 = w.alloc (.cells #[.slice sa T.length sc, .int .i64 (d : Int), .int .i64 (e : Int)] 48) := ⟨_, rfl⟩
  have hz1 : w1.heap.size = w.heap.size + 1 := by rw [e1]; simp
  rw [← e1] at x0 b0
  have E1 := Lib.hid e1
  have s0 := x0.c0
  have s1 := x0.c1
  have s2 := x0.c2
  have cf := fun wx => fits_any sa T.length sc 1 wx
  have hfi : ¬ (T.length : Int) ≤ 1 := by omega
  rw [decide_eq_false hfi] at cf
  have cH := fun wx (h : Below w1.heap.size w1 wx) => halves_any sa T sc d e wx ((hrT.below b0).below h) (by omega) hTr (by omega) (by omega)
  obtain ⟨D1, hD1⟩ : ∃ D1, D1 = d + 1 := ⟨_, rfl⟩
  obtain ⟨EP, hEP⟩ : ∃ EP, EP = e + 2 ^ d := ⟨_, rfl⟩
  rw [← hD1] at ih1 ih2
  rw [← hEP] at ih2
  simp only [← hD1, ← hEP] at cH
  obtain ⟨T1, hT1⟩ : ∃ T1, T1 = T.filter (fun x => decide (x.toNat % 2 ^ D1 = e)) := ⟨_, rfl⟩
  obtain ⟨T2, hT2⟩ : ∃ T2, T2 = T.filter (fun x => decide (x.toNat % 2 ^ D1 = EP)) := ⟨_, rfl⟩
  rw [← hT1] at ih1
  rw [← hT2] at ih2
  simp only [← hT1, ← hT2] at cH
  have zA := B8_sizeT A
  have zB := B8_sizeT B
  obtain ⟨SA, hSA⟩ : ∃ SA, SA = B8 A := ⟨_, rfl⟩
  obtain ⟨SB, hSB⟩ : ∃ SB, SB = B8 B := ⟨_, rfl⟩
  rw [← hSA] at ih1 zA
  rw [← hSB] at ih2 zB
  have CF := Lib.hid cf
  have CH := Lib.hid cH
  have I1 := Lib.hid ih1
  have I2 := Lib.hid ih2
  have HSA := Lib.hid hSA
  have HSB := Lib.hid hSB
  clear cf hfi e1 x0 hps hp6 hmore ih1 ih2 ih cH hA hB hD1 hEP hT1 hT2 hT hTr hrT hrng hn he hgd hT12 hR hSA hSB hl12 L
  go_enter Tryz.func32, Tryz.ntmps32
  go_wp2_with fail
  rw [← E1.out]
  refine (CF.out _).mono ?_
  rintro en w' ⟨rfl, rfl⟩
  go_wp2_with fail
  refine (CH.out _ (Below.refl _ _)).mono ?_
  rintro en w2 ⟨z, o, rfl, oz, oo, nn, b2⟩
  have hz2 := b2.size
  have B2 := b0.trans (b2.mono b0.size)
  obtain ⟨za, zc, rfl, rz, _, _, _⟩ := oz.form
  obtain ⟨oa, oc, rfl, ro, _, _, _⟩ := oo.form
  have y1 := PBox.new w2 (.slice za T1.length zc) D1 e
  obtain ⟨w3, e3⟩ : ∃ w3, w3 = w2.alloc (.cells #[.slice za T1.length zc, .int .i64 (D1 : Int), .int .i64 (e : Int)] 48) := ⟨_, rfl⟩
  have B3 := B2.alloc (by omega) (.cells #[.slice za T1.length zc, .int .i64 (D1 : Int), .int .i64 (e : Int)] 48)
  have hz3 : w3.heap.size = w2.heap.size + 1 := by rw [e3]; simp
  have b23 := (Below.refl w2.heap.size w2).alloc (Nat.le_refl _) (.cells #[.slice za T1.length zc, .int .i64 (D1 : Int), .int .i64 (e : Int)] 48)
  rw [← e3] at y1 B3 b23
  have p2 := PBox.new w3 (.slice oa T2.length oc) D1 EP
  obtain ⟨w5, e5⟩ : ∃ w5, w5 = w3.alloc (.cells #[.slice oa T2.length oc, .int .i64 (D1 : Int), .int .i64 (EP : Int)] 48) := ⟨_, rfl⟩
  have B5 := B3.alloc (by omega) (.cells #[.slice oa T2.length oc, .int .i64 (D1 : Int), .int .i64 (EP : Int)] 48)
  have hz5 : w5.heap.size = w2.heap.size + 2 := by rw [e5]; simp [hz3]
  have p1 := y1.alloc (.cells #[.slice oa T2.length oc, .int .i64 (D1 : Int), .int .i64 (EP : Int)] 48)
  have b24 := b23.alloc (by omega) (.cells #[.slice oa T2.length oc, .int .i64 (D1 : Int), .int .i64 (EP : Int)] 48)
  rw [← e5] at p1 p2 B5 b24
  rw [hz3] at p2
  have E3 := Lib.hid e3
  have E5 := Lib.hid e5
  have rz5 := rz.below b24
  have ro5 := ro.below b24
  have P1 := Lib.hid p1
  have P2 := Lib.hid p2
  have RO := Lib.hid ro5
  clear e3 e5 B2 B3 b23 p1 p2 y1 oz oo nn b24 rz ro ro5
  go_upto_region 3 with fail
  rw [← E3.out, ← E5.out]
  clear s0 s1 s2 E3 E5 E1
  have s0 := P1.out.c0
  have s1 := P1.out.c1
  have s2 := P1.out.c2
  have s3 := P2.out.c0
  have s4 := P2.out.c1
  have s5 := P2.out.c2
  have bd : Below w5.heap.size w5 w5.drew := (Below.refl _ _).drew
  have rzd : Reads w5.drew za T1 := rz5
  have k1 : ¬ 9223372036854775807 < 1 + A.length := by omega
  have k2 : ¬ 9223372036854775807 < 1 + A.length + 1 := by omega
  have k3 : ¬ 9223372036854775807 < 1 + A.length + 1 + B.length := by omega
  have k4 : ¬ 9223372036854775807 < 1 + A.length + 1 + B.length + 1 := by omega
  go_region_held3 (fun w' => w'.cell? ⟨w2.heap.size, 0, none⟩ = some (.slice za T1.length zc) ∧ w'.cell? ⟨w2.heap.size, 1, none⟩ = some (.int .i64 D1) ∧ w'.cell? ⟨w2.heap.size, 2, none⟩ = some (.int .i64 e) ∧ w'.cell? ⟨w2.heap.size + 1, 0, none⟩ = some (.slice oa T2.length oc) ∧ w'.cell? ⟨w2.heap.size + 1, 1, none⟩ = some (.int .i64 D1) ∧ w'.cell? ⟨w2.heap.size + 1, 2, none⟩ = some (.int .i64 EP))
    (first | with_reducible exact ⟨s0, s1, s2, s3, s4, s5⟩ | go_keep)
    (first
      | (have ho6 := RO6.out; go_at_call 32; refine (I2.out _ _ _ ho6).mono ?_; rintro en w7 ⟨rfl, b7⟩; have hb57 := b56.trans (b7.mono hz6); have v1 := PBox.belowAll hb57 P1.out; have v2 := PBox.belowAll hb57 P2.out; have s0 := v1.c0; have s1 := v1.c1; have s2 := v1.c2; have s3 := v2.c0; have s4 := v2.c1; have s5 := v2.c2)
      | (go_at_call 32; refine (I1.out _ _ _ rzd).mono ?_; rintro en w6 ⟨rfl, b6⟩; have b56 := bd.trans (b6.mono bd.size); have hz6 := b56.size; have RO6 := Lib.hid (Reads.below b56 RO.out); have u1 := PBox.belowAll b56 P1.out; have u2 := PBox.belowAll b56 P2.out; have s0 := u1.c0; have s1 := u1.c1; have s2 := u1.c2; have s3 := u2.c0; have s4 := u2.c1; have s5 := u2.c2))
  all_goals
    have BB := Lib.hid (B5.trans (hb57.mono B5.size))
    have hfin : (⟨#[40]⟩ : ByteArray) ++ SA ++ ⟨#[32]⟩ ++ SB ++ ⟨#[41]⟩ = B8 ([40] ++ A ++ [32] ++ B ++ [41]) := by
      rw [HSA.out, HSB.out, ← B8_app, ← B8_app, ← B8_app, ← B8_app]
    have HF := Lib.hid hfin
    clear hfin
    go_wp2
    go_ret
    exact ⟨congrArg (fun z => Ending.returned (.string z)) HF.out, BB.out⟩
theorem text_any (L : List Int) (hv : VNm L = true) : ∀ f, TXc L f := by
  obtain ⟨h12, hrng, hnd⟩ := VNm_iff.1 hv
  intro f
  induction f with
  | zero =>
    intro d e hfd he a cap w hr
    obtain rfl : d = 6 := by omega
    exact text_few L hrng 0 6 e (by omega) a cap w hr (tfl_six hnd hrng e)
  | succ f ih =>
    intro d e hfd he a cap w hr
    by_cases h : (tfl L d e).length ≤ 1
    · exact text_few L hrng (f + 1) d e (by omega) a cap w hr h
    · exact text_more L hnd hrng h12 f d e hfd he ih a cap w hr h
set_option maxHeartbeats 4000000 in
set_option maxRecDepth 100000 in
theorem implTreeText_e (a : Option Addr) (l : List Int) (cap : Nat) (w : World) (hr : Reads w a l) (_hi : ∀ n ∈ l, In64 n) (hl : l.length ≤ 1048586) (_hcap : l.length ≤ cap) :
    Calls Tryz.prog 9 #[.slice a l.length cap] w fun e w' => e = .returned (.string (B8 (TXT l))) ∧ Below w.heap.size w w' := by
  have cv := implvalidNames_any a l cap w hr hl
  cases hv : VNm l with
  | false =>
    rw [hv] at cv
    have hR : TXT l = [] := by unfold TXT; rw [hv]; rfl
    rw [hR]
    have CV := Lib.hid cv
    clear cv hv hR
    go_enter Tryz.func9, Tryz.ntmps9
    go_wp2_with fail
    refine CV.out.mono ?_
    rintro en w1 ⟨rfl, b1⟩
    go_wp2
    go_ret
    exact ⟨rfl, b1⟩
  | true =>
    rw [hv] at cv
    have hR : TXT l = ttr (srt l) 6 0 0 := by
      rw [TXT_perm (srt_perm l).symm]
      unfold TXT
      rw [if_pos (by rw [VNm_perm (srt_perm l)]; exact hv)]
    have hvs : VNm (srt l) = true := by rw [VNm_perm (srt_perm l)]; exact hv
    have cw := fun wx (h : Below w.heap.size w wx) => wholeOf_any a l cap wx (hr.below h) hl
    have ct := text_any (srt l) hvs 6 0 0 rfl (by simp)
    rw [tfl_zero] at ct
    rw [hR]
    obtain ⟨R, hRR⟩ : ∃ R, R = B8 (ttr (srt l) 6 0 0) := ⟨_, rfl⟩
    rw [← hRR] at ct ⊢
    obtain ⟨M, hM⟩ : ∃ M, M = l.length := ⟨_, rfl⟩
    rw [← hM] at cv cw ⊢
    obtain ⟨L, hL⟩ : ∃ L, L = srt l := ⟨_, rfl⟩
    simp only [← hL] at cw ct
    have CV := Lib.hid cv
    have CW := Lib.hid cw
    have CT := Lib.hid ct
    clear cv cw ct hv hvs hR hRR hM hL hr _hi hl _hcap
    go_enter Tryz.func9, Tryz.ntmps9
    go_wp2_with fail
    refine CV.out.mono ?_
    rintro en w1 ⟨rfl, b1⟩
    go_wp2_with fail
    refine (CW.out _ b1).mono ?_
    rintro en w2 ⟨v, rfl, o2, b2, _⟩
    obtain ⟨sa, sc, rfl, r2, _, _, _⟩ := o2.form
    have B2 := b1.trans (b2.mono b1.size)
    go_wp2_with fail
    refine (CT.out sa sc _ r2).mono ?_
    rintro en w3 ⟨rfl, b3⟩
    have B3 := B2.trans (b3.mono B2.size)
    go_wp2
    go_ret
    exact ⟨rfl, B3⟩
end Go.Proofs.YtoaiaindcmihjaaGreatDoor
