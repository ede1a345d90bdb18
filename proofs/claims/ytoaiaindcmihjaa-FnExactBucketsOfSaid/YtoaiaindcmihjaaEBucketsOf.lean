/-
  laws.FnExactBucketsOf: the walk. (Written by genbuckets.py.)
-/
import Derived.Test.YtoaiaindcmihjaaOB7
namespace Go.Proofs.Ytoaiaindcmihjaa
open Go.RowKit

set_option maxHeartbeats 8000000 in
set_option maxRecDepth 100000 in
theorem markB0 (a : Option Addr) (C : Nat) (k : Nat) (w : World) : Calls Try.prog 33 #[.slice a 0 C, .int .i64 (k : Int)] w fun e w' => e = .returned (.int .i64 (k : Int)) ∧ w = w' := by
  go_enter Try.func33, Try.ntmps33
  go_wp2
  refine wp_loop_rounds 1 ?_
  rw [rounds_succ]
  go_wp2
  go_ret
  exact ⟨rfl, rfl⟩
theorem eqB0 (a a' : Option Addr) (c c' : Nat) (w : World) : Calls Try.prog 30 #[.slice a 0 c, .slice a' 0 c'] w fun e w' => e = .returned (.bool true) ∧ Below w.heap.size w w' :=
  eqBucketS_self a a' [] c c' w (.inl rfl) (.inl rfl) (by simp) (fun b hb => by simp at hb)
theorem heldB0 (a : Option Addr) (C : Nat) (k : Nat) (w : World) : Calls Try.prog 34 #[.slice a 0 C, .int .i64 (k : Int)] w fun e w' => e = .returned (.int .i64 (k : Int)) ∧ w = w' := by
  go_enter Try.func34, Try.ntmps34
  go_wp2
  refine wp_loop_rounds 1 ?_
  rw [rounds_succ]
  go_wp2
  go_ret
  exact ⟨rfl, rfl⟩
set_option maxHeartbeats 8000000 in
set_option maxRecDepth 100000 in
theorem lawExactBucketsOf (al : Option Addr) (l : List Int) (capl : Nat) (m : Int) (w : World) (rl : Reads w al l) (il : ∀ n ∈ l, In64 n) (_sl : l.length ≤ 9223372036854775807) (hm : In64 m) :
    Calls Try.prog 7 #[.slice al l.length capl, .int .i64 m] w fun e w' => e = .returned (.bool true) ∧ Below w.heap.size w w' := by
  by_cases bigl : 1048576 < l.length
  · go_enter Try.func7, Try.ntmps7
    go_wp2
    go_ret
    exact ⟨rfl, Below.refl _ _⟩
  have ll : l.length ≤ 1048586 := by omega
  have hbl := BKs_len l m
  have hn4 := fun b (hb : b ∈ BKs l m) => (BKs_ok hb).2.2.2.1
  obtain ⟨bs, hbs⟩ : ∃ bs, bs = BKs l m := ⟨_, rfl⟩
  rw [← hbs] at hbl hn4
  have hn : ∀ b ∈ bs, b.2.2.length ≤ 1000 := fun b hb => by have := hn4 b hb; omega
  have HBS := Lib.hid hbs
  have HN4 := Lib.hid hn4
  have HN := Lib.hid hn
  clear hbs hn4 hn
  have el := eqL_self l
  have Bw := Below.refl w.heap.size w
  go_enter Try.func7, Try.ntmps7
  go_wp2_with fail
  refine (toIntS_any _ _ _ _ (rl.below Bw) ll).mono ?_
  rintro e w1 ⟨rfl, Ocl, bw1, sw1⟩
  have Bw1 := Bw.trans (bw1.mono Bw.size)
  go_wp2_with fail
  refine (specBucketsOf_any _ l _ m _ Ocl.reads ll (Nat.le_refl _)).mono ?_
  rw [← HBS.out]
  rintro e w2 ⟨vp, rfl, Op, bw2⟩
  have Bw2 := Bw1.trans (bw2.mono Bw1.size)
  obtain ⟨ap, cp, rfl, _, _, RP⟩ := Op.form
  clear Op Ocl
  go_wp2_with fail
  refine (toIntS_any _ _ _ _ (rl.below Bw2) ll).mono ?_
  rintro e w3 ⟨rfl, Oxl, bw3, sw3⟩
  have Bw3 := Bw2.trans (bw3.mono Bw2.size)
  have Kxl := Lib.hid (fun k hk => (Oxl.lt k hk).2)
  go_wp2_with fail
  refine (implBucketsOf_d _ l _ m _ Oxl.reads il hm ll (Nat.le_refl _)).mono ?_
  rw [← HBS.out]
  rintro e w4 ⟨⟨hE, ag, cg, rfl, -, -⟩ | ⟨g, C, cs, rfl, OG⟩, bw4⟩
  · subst hE
    have BD := (Below.refl w2.heap.size w2).trans (bw3.mono (Nat.le_refl _)) |>.trans (bw4.mono (by omega))
    have Bw4 := Bw3.trans (bw4.mono Bw3.size)
    replace Oxl := Oxl.below bw4
    have HRP := Lib.hid RP
    clear RP
    clear HRP HN4 HN hbl
    rw [show ([] : List Bk).length = 0 from rfl]
    go_wp2_with fail
    refine (eqB0 _ _ _ _ _).mono ?_
    rintro e w5 ⟨rfl, bw5⟩
    have Bw5 := Bw4.trans (bw5.mono Bw4.size)
    replace BD := BD.trans (bw5.mono BD.size)
    replace Oxl := Oxl.below bw5
    go_wp2_with fail
    refine (toIntS_any _ _ _ _ (rl.below Bw5) ll).mono ?_
    rintro e w6 ⟨rfl, Odl, bw6, sw6⟩
    have Bw6 := Bw5.trans (bw6.mono Bw5.size)
    replace BD := BD.trans (bw6.mono BD.size)
    replace Oxl := Oxl.below bw6
    go_wp2_with fail
    refine (eqIntS_any _ _ _ _ _ _ _ Oxl.reads Odl.reads ll ll).mono ?_
    rintro e w7x ⟨rfl, nw7, rfl⟩
    have bw7 := below_drewN (Below.refl w6.heap.size w6) nw7
    obtain ⟨w7, qw7⟩ : ∃ x, x = w6.drewN nw7 := ⟨_, rfl⟩
    rw [← qw7] at bw7 ⊢
    clear qw7 Odl
    have Bw7 := Bw6.trans (bw7.mono Bw6.size)
    replace BD := BD.trans (bw7.mono BD.size)
    replace Oxl := Oxl.below bw7
    go_wp2_with fail
    refine (markIntS_any _ _ _ _ _ Oxl ll (by omega) (by omega)).mono ?_
    rintro e w8 ⟨rfl, Nxl, gw8⟩
    have Bw8 := Below.grownB Bw7 Oxl gw8 Bw7.size (by have := Bw2.size; omega)
    replace BD := Below.grownB BD Oxl gw8 BD.size (Nat.le_refl _)
    clear Nxl gw8 Oxl
    have kp : ¬ (1 : Int) + (l.length : Int) < 0 := by omega
    go_wp2_with fail
    refine (eqB0 _ _ _ _ _).mono ?_
    rintro e w9 ⟨rfl, bw9⟩
    have Bw9 := Bw8.trans (bw9.mono Bw8.size)
    replace BD := BD.trans (bw9.mono BD.size)
    go_wp2_with fail
    refine (markB0 _ _ _ _).mono ?_
    rintro e w10 ⟨rfl, rfl⟩
    have Bw10 := Bw9
    have CH := Lib.hid (fun wx => heldB0 ag cg 1 wx)
    have k1 : ¬ (1 : Int) < 0 := by omega
    have k2 : ((1 : Int) != (1 : Int)) = false := by simp
    go_wp2_with fail
    refine (CH.out _).mono ?_
    rintro e w' ⟨rfl, rfl⟩
    go_wp2_with fail
    refine (toIntS_any _ _ _ _ (rl.below Bw10) ll).mono ?_
    rintro e w11 ⟨rfl, Oyl, bw11, sw11⟩
    have Bw11 := Bw10.trans (bw11.mono Bw10.size)
    replace BD := BD.trans (bw11.mono BD.size)
    go_wp2_with fail
    refine (implBucketsOf_d _ l _ m _ Oyl.reads il hm ll (Nat.le_refl _)).mono ?_
    rw [← HBS.out]
    rintro e w12 ⟨hh, bw12⟩
    obtain ⟨ah, ch, rfl, RH⟩ := hh.reads
    have Bw12 := Bw11.trans (bw12.mono Bw11.size)
    replace BD := BD.trans (bw12.mono BD.size)
    clear hh Oyl
    rw [show ([] : List Bk).length = 0 from rfl]
    go_wp2_with fail
    refine (eqB0 _ _ _ _ _).mono ?_
    rintro e w13 ⟨rfl, bw13⟩
    have Bw13 := Bw12.trans (bw13.mono Bw12.size)
    go_wp2_with fail
    refine (CH.out _).mono ?_
    rintro e w' ⟨rfl, rfl⟩
    go_wp2
    go_ret
    exact ⟨rfl, Bw13⟩
  · have BD := (Below.refl w2.heap.size w2).trans (bw3.mono (Nat.le_refl _)) |>.trans (bw4.mono (by omega))
    have Bw4 := Bw3.trans (bw4.mono Bw3.size)
    replace Oxl := Oxl.below bw4
    have HRP := Lib.hid RP
    clear RP
    go_wp2_with fail
    refine (eqBucketS_self _ _ bs _ _ _ OG.reads (HRP.out.below BD) (by omega) HN.out).mono ?_
    rintro e w5 ⟨rfl, bw5⟩
    have Bw5 := Bw4.trans (bw5.mono Bw4.size)
    replace BD := BD.trans (bw5.mono BD.size)
    replace Oxl := Oxl.below bw5
    replace OG := OG.below bw5
    go_wp2_with fail
    refine (toIntS_any _ _ _ _ (rl.below Bw5) ll).mono ?_
    rintro e w6 ⟨rfl, Odl, bw6, sw6⟩
    have Bw6 := Bw5.trans (bw6.mono Bw5.size)
    replace BD := BD.trans (bw6.mono BD.size)
    replace Oxl := Oxl.below bw6
    replace OG := OG.below bw6
    go_wp2_with fail
    refine (eqIntS_any _ _ _ _ _ _ _ Oxl.reads Odl.reads ll ll).mono ?_
    rintro e w7x ⟨rfl, nw7, rfl⟩
    have bw7 := below_drewN (Below.refl w6.heap.size w6) nw7
    obtain ⟨w7, qw7⟩ : ∃ x, x = w6.drewN nw7 := ⟨_, rfl⟩
    rw [← qw7] at bw7 ⊢
    clear qw7 Odl
    have Bw7 := Bw6.trans (bw7.mono Bw6.size)
    replace BD := BD.trans (bw7.mono BD.size)
    replace Oxl := Oxl.below bw7
    replace OG := OG.below bw7
    go_wp2_with fail
    refine (markIntS_any _ _ _ _ _ Oxl ll (by omega) (by omega)).mono ?_
    rintro e w8 ⟨rfl, Nxl, gw8⟩
    have Bw8 := Below.grownB Bw7 Oxl gw8 Bw7.size (by have := Bw2.size; omega)
    replace BD := Below.grownB BD Oxl gw8 BD.size (Nat.le_refl _)
    replace OG := OG.out ((Out.refl w2.heap.size w3.heap.size w7).stepV gw8 (fun k hk => ⟨(Oxl.lt k hk).1, Kxl.out k hk⟩)) (.inr (Nat.le_refl _))
    clear Nxl gw8 Oxl
    have kp : ¬ (1 : Int) + (l.length : Int) < 0 := by omega
    go_wp2_with fail
    refine (eqBucketS_self _ _ bs _ _ _ OG.reads (HRP.out.below BD) (by omega) HN.out).mono ?_
    rintro e w9 ⟨rfl, bw9⟩
    have Bw9 := Bw8.trans (bw9.mono Bw8.size)
    replace BD := BD.trans (bw9.mono BD.size)
    replace OG := OG.below bw9
    go_wp2_with fail
    refine (markBucketS_any _ _ _ _ _ bs 1 _ OG (by omega) HN4.out (by omega)).mono ?_
    rintro e w10 ⟨rfl, ⟨cs2, OG2⟩, ow10⟩
    have Bw10 := Below.out Bw9 ow10 Bw9.size (by have := Bw3.size; omega)
    replace BD := Below.out BD ow10 BD.size (by have := bw3.size; omega)
    have hkk := kAt_le HN4.out 1 bs.length
    obtain ⟨KK, hKK⟩ : ∃ KK, KK = kAt bs 1 bs.length := ⟨_, rfl⟩
    have HKK := Lib.hid hKK
    rw [← hKK] at hkk ⊢
    clear hKK OG ow10
    have CH := Lib.hid (fun wx (h : ReadsB wx (some ⟨g, 0, none⟩) (mkd bs 1 bs.length)) => heldBucketS_any (some ⟨g, 0, none⟩) C bs 1 wx h (by omega) HN4.out (by omega))
    rw [← HKK.out] at CH
    have HG2 := Lib.hid OG2
    clear OG2
    have k1 : ¬ (KK : Int) < 0 := by omega
    have k2 : ((KK : Int) != (KK : Int)) = false := by simp
    go_wp2_with fail
    refine (CH.out _ HG2.out.reads).mono ?_
    rintro e w' ⟨rfl, rfl⟩
    go_wp2_with fail
    refine (toIntS_any _ _ _ _ (rl.below Bw10) ll).mono ?_
    rintro e w11 ⟨rfl, Oyl, bw11, sw11⟩
    have Bw11 := Bw10.trans (bw11.mono Bw10.size)
    replace BD := BD.trans (bw11.mono BD.size)
    have HG3 := Lib.hid (OwnD.below bw11 HG2.out)
    go_wp2_with fail
    refine (implBucketsOf_d _ l _ m _ Oyl.reads il hm ll (Nat.le_refl _)).mono ?_
    rw [← HBS.out]
    rintro e w12 ⟨hh, bw12⟩
    obtain ⟨ah, ch, rfl, RH⟩ := hh.reads
    have Bw12 := Bw11.trans (bw12.mono Bw11.size)
    replace BD := BD.trans (bw12.mono BD.size)
    have HG4 := Lib.hid (OwnD.below bw12 HG3.out)
    clear hh Oyl
    go_wp2_with fail
    refine (eqBucketS_self _ _ bs _ _ _ RH (HRP.out.below BD) (by omega) HN.out).mono ?_
    rintro e w13 ⟨rfl, bw13⟩
    have Bw13 := Bw12.trans (bw13.mono Bw12.size)
    have HG5 := Lib.hid (OwnD.below bw13 HG4.out)
    go_wp2_with fail
    refine (CH.out _ HG5.out.reads).mono ?_
    rintro e w' ⟨rfl, rfl⟩
    go_wp2
    go_ret
    exact ⟨rfl, Bw13⟩
end Go.Proofs.Ytoaiaindcmihjaa
