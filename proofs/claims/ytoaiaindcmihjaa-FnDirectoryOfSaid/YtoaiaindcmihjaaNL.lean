/-
  The law of BucketsOf, from what impl's function gives.
-/
import Derived.Test.YtoaiaindcmihjaaNF
import Derived.Test.YtoaiaindcmihjaaNS
import Derived.Test.YtoaiaindcmihjaaNI
import Derived.Test.YtoaiaindcmihjaaDL
import Derived.Test.YtoaiaindcmihjaaLT
namespace Go.Proofs.Ytoaiaindcmihjaa
open Go.RowKit

def BucketsGive : Prop := ∀ (a : Option Addr) (l : List Int) (cap : Nat) (m : Int) (w : World), Reads w a l → (∀ x ∈ l, In64 x) → In64 m → l.length ≤ 1048586 → l.length ≤ cap →
    Calls Try.prog 12 #[.slice a l.length cap, .int .i64 m] w fun e w' => ∃ v, e = .returned v ∧ OwnB w' w.heap.size v (BKs l m) ∧ Below w.heap.size w w'
theorem BKs_some {l : List Int} {m : Int} (h : BKs l m ≠ []) : VNm l = true ∧ 1 ≤ m ∧ m ≤ 4 := by
  by_cases g : VNm l = true ∧ 1 ≤ m ∧ m ≤ 4
  · exact g
  · unfold BKs at h; rw [if_neg g] at h; exact absurd rfl h
theorem BKs_perm {l l' : List Int} (h : l.Perm l') (m : Int) : BKs l m = BKs l' m := by
  unfold BKs
  rw [← VNm_perm h, spl_perm h]
theorem BKs_ok {l : List Int} {m : Int} {b : Bk} (h : b ∈ BKs l m) : b.1 ≤ 6 ∧ b.2.1 < 2 ^ b.1 ∧ (b.2.2.length : Int) ≤ m ∧ b.2.2.length ≤ 4 ∧ ∀ x ∈ b.2.2, (0 ≤ x ∧ x ≤ 63) ∧ x.toNat % 2 ^ b.1 = b.2.1 := by
  have hv := BKs_some (l := l) (m := m) (fun e => by rw [e] at h; simp at h)
  unfold BKs at h
  rw [if_pos hv] at h
  obtain ⟨h1, h2, h3⟩ := VNm_iff.1 hv.1
  obtain ⟨k1, k2, k3, k4⟩ := spl_ok h3 h2 (by omega) 6 0 0 rfl (by simp) b h
  refine ⟨k1.2, k2, by omega, by omega, fun x hx => ?_⟩
  rw [k3, srt_mem, tfl_mem] at hx
  exact ⟨h2 x hx.1, hx.2⟩
theorem BKs_all {l : List Int} {m : Int} (h : BKs l m ≠ []) : ((BKs l m).flatMap (fun b => b.2.2)).Perm l := by
  have hv := BKs_some h
  unfold BKs
  rw [if_pos hv]
  have := spl_all l m.toNat 6 0 0 (by simp)
  rwa [tfl_zero] at this
theorem alln_take {bs : List Bk} {i : Nat} (h : i < bs.length) : (bs.take (i + 1)).flatMap (fun b => b.2.2) = (bs.take i).flatMap (fun b => b.2.2) ++ (bkt bs i).2.2 := by
  rw [List.take_succ_eq_append_getElem h, List.flatMap_append, bkt_eq h]; simp
theorem alln_len {bs : List Bk} (h : ∀ b ∈ bs, b.2.2.length ≤ 4) : (bs.flatMap (fun b => b.2.2)).length ≤ 4 * bs.length := by
  induction bs with
  | nil => simp
  | cons b bs ih =>
    rw [List.flatMap_cons, List.length_append, List.length_cons]
    have h1 := h b (by simp)
    have h2 := ih (fun b hb => h b (by simp [hb]))
    omega
set_option maxHeartbeats 16000000 in
set_option maxRecDepth 100000 in
theorem lawFnBucketsOf_of (HI : BucketsGive) (a : Option Addr) (n cap : Nat) (w : World) (hB : Bytes w w.heap.size a n) (hn : n ≤ 9223372036854775807) (hc : n ≤ cap) :
    Calls Try.prog 3 #[.slice a n cap] w fun e w' => e = .returned (.bool true) ∧ Below w.heap.size w w' := by
  by_cases hbig : 1048576 < n
  · go_enter Try.func3, Try.ntmps3
    go_wp2
    go_ret
    exact ⟨rfl, Below.refl _ _⟩
  go_enter Try.func3, Try.ntmps3
  go_wp2_with fail
  refine (drawBucketsOf_any a n cap w hB hn hc).mono ?_
  rintro e w1 ⟨v1, l, m, rfl, hm, o1, hl, hel, B1⟩
  obtain ⟨a1, c1, rfl, r1, hlc, _, _⟩ := o1.form
  have hi64 : ∀ x ∈ l, In64 x := fun x hx => by have := hel x hx; unfold In64; omega
  have hi64r : ∀ x ∈ l.reverse, In64 x := fun x hx => hi64 x (List.mem_reverse.1 hx)
  clear hB hn hc o1
  have ci := fun wx h => HI a1 l c1 m wx h hi64 (by unfold In64; omega) (by omega) hlc
  have ci2 := fun ax cx wx h (hx : l.length ≤ cx) => HI ax l.reverse cx m wx h hi64r (by unfold In64; omega) (by rw [List.length_reverse]; omega) (by rw [List.length_reverse]; exact hx)
  rw [← BKs_perm (List.reverse_perm l).symm] at ci2
  simp only [List.length_reverse] at ci2
  have cs := fun wx h => specBucketsOf_any a1 l c1 m wx h (by omega) hlc
  have hbl := BKs_len l m
  have hok := fun b (hb : b ∈ BKs l m) => BKs_ok hb
  have hall := fun (h : BKs l m ≠ []) => BKs_all h
  obtain ⟨bs, hbs⟩ : ∃ bs, bs = BKs l m := ⟨_, rfl⟩
  rw [← hbs] at ci ci2 cs hbl hok hall
  have CI := Lib.hid ci
  have CI2 := Lib.hid ci2
  have CS := Lib.hid cs
  have HOK := Lib.hid hok
  have HALL := Lib.hid hall
  have CE := Lib.hid (fun a1 a2 c1 c2 wx (h1 : ReadsB wx a1 bs) (h2 : ReadsB wx a2 bs) => equalBuckets_same a1 a2 bs c1 c2 wx h1 h2 (by omega) (fun b hb => by have := (hok b hb).2.2.2.1; omega))
  clear ci ci2 cs hok hall hbs HI hel hi64 hi64r
  go_wp2_with fail
  refine (CI.out _ r1).mono ?_
  rintro e w2 ⟨v2, rfl, o2, b2⟩
  obtain ⟨a2, c2, rfl, _, _, r2⟩ := o2.form
  have r1b := r1.below b2
  have B2 := B1.trans (b2.mono B1.size)
  clear b2 B1 o2 r1
  go_wp2_with fail
  refine (CS.out _ r1b).mono ?_
  rintro e w3 ⟨v3, rfl, o3, b3⟩
  obtain ⟨a3, c3, rfl, _, _, r3⟩ := o3.form
  have r1c := r1b.below b3
  have r2b := r2.below b3
  have B3 := B2.trans (b3.mono B2.size)
  clear b3 B2 r2 o3 r1b
  go_wp2_with fail
  refine (CE.out a2 a3 c2 c3 w3 r2b r3).mono ?_
  rintro e w4 ⟨rfl, q4, rfl⟩
  have r1d := r1c.below (below_drewN (Below.refl _ _) q4)
  have r4 := r2b.below (below_drewN (Below.refl _ _) q4)
  have B4 := below_drewN B3 q4
  clear r1c r2b r3 B3
  obtain ⟨w4, e4⟩ : ∃ w4, w4 = w3.drewN q4 := ⟨_, rfl⟩
  rw [← e4] at r1d r4 B4
  have E4 := Lib.hid e4
  rw [← e4]
  clear e4
  by_cases h0 : bs.length = 0
  · obtain rfl : bs = [] := List.eq_nil_of_length_eq_zero h0
    clear h0 hbl
    rw [show ([] : List Bk).length = 0 from rfl]
    go_wp2_with fail
    refine (CS.out _ r1d).mono ?_
    rintro e w5 ⟨v5, rfl, o5, b5⟩
    obtain ⟨a5, c5, rfl, _, _, r5⟩ := o5.form
    have B5 := B4.trans (b5.mono B4.size)
    have r4b := r4.below b5
    have cE := CE.out a2 a5 c2 c5 w5 r4b r5
    go_wp2_with fail
    refine cE.mono ?_
    rintro e w6 ⟨rfl, q6, rfl⟩
    go_wp2
    go_ret
    exact ⟨rfl, below_drewN B5 q6⟩
  · have hz : ((bs.length : Int) == 0) = false := by
      rw [beq_eq_false_iff_ne]; omega
    have hperm := HALL.out (fun e => h0 (by rw [e]; rfl))
    have hsrt := srt_congr hperm
    have HSRT := Lib.hid hsrt
    obtain ⟨M, hM⟩ : ∃ M, M = bs.length := ⟨_, rfl⟩
    have HM := Lib.hid hM
    rw [← hM] at hz hbl
    have o5 := Own.lit0 w4 w4.heap.size (Nat.le_refl _)
    have b5 := (Below.refl w4.heap.size w4).alloc (Nat.le_refl _) (.cells #[] 3)
    rw [← HM.out]
    clear h0 hM hperm hsrt HALL CS CI
    go_wp2
    go_loopw [6, 7] (fun av iv wr => ∃ i : Nat, i ≤ M ∧ iv = .int .i64 (i : Int) ∧ Own wr w4.heap.size av ((bs.take i).flatMap (fun b => b.2.2)) ∧ Below w4.heap.size w4 wr) (fun _ iv _ => M - (intOf iv).toNat)
    case atStart => exact ⟨0, by omega, rfl, o5, b5⟩
    case round =>
      clear o5 b5
      rename World => wo
      obtain ⟨i, hi, rfl, ho, hB⟩ := hrel
      by_cases hlt : i < M
      · have hi1 : (i : Int) < (M : Int) := by omega
        have hib : i < bs.length := by have := HM.out; omega
        obtain ⟨b, off, A, C, rfl, hbb, hc0, hc1, hc2, hrA, hlA⟩ := (r4.below hB).get hib
        obtain ⟨k1, k2, k3, k4, k5⟩ := HOK.out _ (bkt_mem hib)
        have hat := alln_take hib
        have hal : ((bs.take i).flatMap (fun b => b.2.2)).length ≤ 4 * i := by
          have := alln_len (bs := bs.take i) (fun b hb => (HOK.out b (List.mem_of_mem_take hb)).2.2.2.1)
          rw [List.length_take] at this; omega
        obtain ⟨p, hp⟩ : ∃ p, p = (bkt bs i).1 := ⟨_, rfl⟩
        obtain ⟨q, hq⟩ : ∃ q, q = (bkt bs i).2.1 := ⟨_, rfl⟩
        obtain ⟨L, hL⟩ : ∃ L, L = (bkt bs i).2.2 := ⟨_, rfl⟩
        rw [← hp] at hc0 k1 k2 k5
        rw [← hq] at hc1 k2 k5
        rw [← hL] at hc2 hrA hlA k3 k4 k5 hat
        obtain ⟨T, hT⟩ : ∃ T, T = (bs.take i).flatMap (fun b => b.2.2) := ⟨_, rfl⟩
        rw [← hT] at hat hal ho
        have HAT := Lib.hid hat
        have HK5 := Lib.hid k5
        have cpw := fun wx => lawspow_any p wx (by omega)
        have hP0 := Nat.two_pow_pos p
        have hPs : 2 ^ p ≤ 2 ^ 6 := Nat.pow_le_pow_right (by omega) k1
        obtain ⟨P, hP⟩ : ∃ P, P = 2 ^ p := ⟨_, rfl⟩
        rw [← hP] at cpw hP0 hPs k2
        have HP := Lib.hid hP
        have D1 := Lib.hid (fun k => cpw (wo.drewN k))
        have g1 : ¬ (L.length : Int) > m := by omega
        have g2 : ¬ (q : Int) ≥ (P : Int) := by omega
        clear hp hq hL hT hat k5 cpw hP hib
        go_wp2_with fail
        go_quiet ((with_reducible first | (go_at_call 15; exact quiet_pfN (D1.out _))))
        all_goals
          have q0 : (wo.drewN nq).cell? ⟨b, off + i * 3, none⟩ = some (.int .i64 (p : Int)) := hc0
          have q1 : (wo.drewN nq).cell? ⟨b, off + i * 3 + 1, none⟩ = some (.int .i64 (q : Int)) := hc1
          have q2 : (wo.drewN nq).cell? ⟨b, off + i * 3 + 2, none⟩ = some (.slice A L.length C) := hc2
          have q3 := hrA.below (below_drewN (Below.refl wo.heap.size wo) nq)
          have q4 := ho.below (below_drewN (Below.refl wo.heap.size wo) nq)
          have q5 := below_drewN hB nq
          clear hc0 hc1 hc2 hrA ho hB D1
          revert q0 q1 q2 q3 q4 q5
          generalize wo.drewN nq = wp
          intro hc0 hc1 hc2 hrA ho hB
          have D1 := Lib.hid (fun k => lawspow_any p (wp.drewN k) (by omega))
          rw [← HP.out] at D1
          have HO := Lib.hid ho
          clear ho
          go_wp2
          go_loopw [8] (fun kv wr => ∃ k m' : Nat, k ≤ L.length ∧ kv = .int .i64 (k : Int) ∧ wr = wp.drewN m') (fun kv _ => L.length - (intOf kv).toNat)
          case atStart => exact ⟨0, 0, by omega, rfl, rfl⟩
          case round =>
            obtain ⟨k, m', hk, rfl, rfl⟩ := hrel
            by_cases hkl : k < L.length
            · have hk1 : (k : Int) < (L.length : Int) := by omega
              obtain ⟨bA, oA, x, rfl, _, hcx, hx⟩ := hrA.get hkl
              have hx5 := HK5.out x (by rw [← hx.out]; exact getD_mem hkl)
              obtain ⟨X, rfl⟩ : ∃ X : Nat, x = X := ⟨x.toNat, by omega⟩
              have hmod : ((X : Int)).tmod (P : Int) = (q : Int) := by
                have h2 := hx5.2
                rw [Int.toNat_natCast, ← HP.out] at h2
                rw [Int.tmod_eq_emod_of_nonneg (by omega)]; omega
              have hqq : ((q : Int) != (q : Int)) = false := by simp
              have hPz : ¬ P = 0 := by omega
              have hPi : ((P : Int) == 0) = false := by simp; omega
              clear hx5 hx
              go_wp2_with fail
              go_quiet ((with_reducible first | (go_at_call 15; exact quiet_lf (D1.out _))))
              all_goals
                go_wp2
                go_roundw
                case rel => exact ⟨k + 1, _, by omega, by go_num, rfl⟩
                case measure => simp [intOf]; omega
            · have hkL : k = L.length := by omega
              have hkn : ¬ (k : Int) < (L.length : Int) := by omega
              have ho2 := HO.out.below (below_drewN (Below.refl wp.heap.size wp) m')
              have hB2 := below_drewN hB m'
              have hrA2 := hrA.below (below_drewN (Below.refl wp.heap.size wp) m')
              have hz2 := hB2.size
              clear hB HO hkL
              go_wp2_with (at_builtin; refine push_allN rfl (.tmp 96) (.tmp 101) rfl w4.heap.size _ T rfl ho2 hz2 A L L.length C rfl rfl hrA2 (by omega) (by omega) ?_)
              intro v' wf of gf
              rw [← HAT.out] at of
              have hBf := hB2.grown gf hB2.size (fun k hk => (ho2.lt k hk).1)
              clear gf ho2 hB2 hrA2 hrA
              go_wp2
              go_roundw
              case rel => exact ⟨i + 1, by omega, by go_num, of, hBf⟩
              case measure => simp [intOf]; omega
      · obtain rfl : i = M := by omega
        have hall : (bs.take i).flatMap (fun b => b.2.2) = bs.flatMap (fun b => b.2.2) := by rw [HM.out, List.take_length]
        rw [hall] at ho
        have hal := alln_len (fun b hb => (HOK.out b hb).2.2.2.1)
        obtain ⟨T, hT⟩ : ∃ T, T = bs.flatMap (fun b => b.2.2) := ⟨_, rfl⟩
        rw [← hT] at ho hal HSRT
        have hTl : T.length ≤ 1000 := by have := HM.out; omega
        obtain ⟨a6, c6, rfl, r6, _, _, _⟩ := ho.form
        have r1e := r1d.below hB
        have r4e := r4.below hB
        have B5 := B4.trans (hB.mono B4.size)
        have csT := fun wx (h : Reads wx a6 T) => sorted_any a6 T c6 wx h (by omega)
        rw [HSRT.out] at csT
        have CST := Lib.hid csT
        clear hall hT hal ho r1d r4 hB B4 csT HSRT HOK
        go_wp2_with fail
        refine (CST.out _ r6).mono ?_
        rintro e w7 ⟨v7, rfl, o7, b7⟩
        obtain ⟨a7, c7, rfl, r7, _, _, _⟩ := o7.form
        have r1f := r1e.below b7
        have r4f := r4e.below b7
        have B7 := B5.trans (b7.mono B5.size)
        clear b7 r1e r4e B5 o7
        go_wp2_with fail
        refine (sorted_any a1 l c1 w7 r1f (by omega)).mono ?_
        rintro e w8 ⟨v8, rfl, o8, b8⟩
        obtain ⟨a8, c8, rfl, r8, _, _, _⟩ := o8.form
        have r1g := r1f.below b8
        have r4g := r4f.below b8
        have r7g := r7.below b8
        have B8 := B7.trans (b8.mono B7.size)
        have hsl := srt_len l
        obtain ⟨S, hS⟩ : ∃ S, S = srt l := ⟨_, rfl⟩
        rw [← hS] at r8 r7g hsl
        have cE := equalInts_any a7 a8 S S c7 c8 w8 r7g r8 (by omega) (by omega)
        rw [eqL_self] at cE
        have HSS := Lib.hid hS
        rw [← hS]
        clear b8 r1f r4f B7 o8 r7 r7g r8 hS hsl
        go_wp2_with fail
        refine cE.mono ?_
        rintro e w9 ⟨rfl, q9, rfl⟩
        have r1h := r1g.below (below_drewN (Below.refl _ _) q9)
        have r4h := r4g.below (below_drewN (Below.refl _ _) q9)
        have B9 := below_drewN B8 q9
        clear cE r1g r4g B8
        revert r1h r4h B9
        generalize w8.drewN q9 = w9
        intro r1h r4h B9
        go_wp2_with fail
        refine (turned_any a1 l c1 w9 r1h (by omega)).mono ?_
        rintro e wa ⟨va, rfl, oa, ba⟩
        obtain ⟨aa, ca, rfl, ra, hca, _, _⟩ := oa.form
        have r4i := r4h.below ba
        have Ba := B9.trans (ba.mono B9.size)
        clear ba r4h B9 oa
        go_wp2_with fail
        refine (CI2.out aa ca _ ra (by rw [List.length_reverse] at hca; exact hca)).mono ?_
        rintro e wb ⟨vb, rfl, ob, bb⟩
        obtain ⟨ab, cb, rfl, _, _, rb⟩ := ob.form
        have r4j := r4i.below bb
        have Bb := Ba.trans (bb.mono Ba.size)
        have cE2 := CE.out ab a2 cb c2 wb rb r4j
        rw [← HM.out] at cE2 ⊢
        clear bb r4i Ba ob
        go_wp2_with fail
        refine cE2.mono ?_
        rintro e wc ⟨rfl, qc, rfl⟩
        go_wp2
        go_ret
        exact ⟨rfl, below_drewN Bb qc⟩
end Go.Proofs.Ytoaiaindcmihjaa
