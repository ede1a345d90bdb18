/-
  laws.FnFilterOf: the walk.
-/
import Derived.Test.YtbldfhfciihddabDB
import Derived.Test.YtbldfhfciihddabPF
import Derived.Test.YtbldfhfciihddabQE
import Derived.Test.YtbldfhfciihddabQT
import Derived.Test.YtbldfhfciihddabLG
import Derived.Test.YtbldfhfciihddabG11
import Derived.Laws.Cover1
import Derived.BigRegion
import Derived.BigQuiet
namespace Go.Proofs.Ytbldfhfciihddab
open Go.RowKit

set_option maxHeartbeats 2000000 in
set_option maxRecDepth 100000 in
theorem lawFnFilterOf (a : Option Addr) (n cap : Nat) (w : World) (hBy : Bytes w w.heap.size a n) (hn : n ≤ 9223372036854775807) (hc : n ≤ cap) :
    Calls Try.prog 3 #[.slice a n cap] w fun e w' => e = .returned (.bool true) ∧ Below w.heap.size w w' := by
  by_cases hbig : 1048576 < n
  · go_enter Try.func3, Try.ntmps3
    go_wp2
    go_ret
    exact ⟨rfl, Below.refl _ _⟩
  go_enter Try.func3, Try.ntmps3
  go_wp2_with fail
  refine (drawFilterOf_any a n cap w hBy hn hc).mono ?_
  rintro e w1 ⟨m, v, ts, pv, ps, rfl, hm, ho, hbu, hop, hpl, hps, hb⟩
  obtain ⟨av, cv, rfl, hcv, hcv2, hr⟩ := ho.form
  obtain ⟨ap, cp, rfl, hrp, _, _, _⟩ := hop.form
  have hm64 : In64 m := by unfold In64; omega
  have hip : ∀ x ∈ ps, In64 x := fun x hx => by have := hps x hx; unfold In64; omega
  have hlen := bulk_len ts
  have z1 := hb.size
  clear ho hBy hop
  obtain ⟨R, hR⟩ : ∃ R, R = (FO m ts ps).1 := ⟨_, rfl⟩
  obtain ⟨K, hK⟩ : ∃ K, K = (FO m ts ps).2 := ⟨_, rfl⟩
  have hRl : R.length ≤ 1048586 := by rw [hR]; exact FO_len m ts ps
  have eR := eqL_self R
  have i1 := fun wx (h : ReadsS wx av ts) (hp : Reads wx ap ps) => implFilterOf_any m av ts cv ap ps cp wx hm64 h (by omega) hp hip (by omega)
  have s1 := fun wx (h : ReadsS wx av ts) (hp : Reads wx ap ps) => specFilterOf_any m av ts cv ap ps cp wx hm64 h (by omega) hp hip (by omega)
  rw [← hR, ← hK] at i1 s1
  have CI := Lib.hid i1
  have CS := Lib.hid s1
  have HR := Lib.hid hR
  have HK := Lib.hid hK
  have HRL := Lib.hid hRl
  have ER := Lib.hid eR
  clear hR hK i1 s1 hip hps hRl eR
  go_wp2_with fail
  refine (CI.out _ hr hrp).mono ?_
  rintro e w2 ⟨v1, rfl, ho1, hb2⟩
  have B2 := hb.trans (hb2.mono z1)
  have hr2 := hr.below hb2
  have hp2 := hrp.below hb2
  obtain ⟨a1, c1, rfl, r1, _, _, _⟩ := ho1.form
  have z2 := B2.size
  clear hb2 hb hr hrp ho1
  go_wp2_with fail
  refine (CS.out _ hr2 hp2).mono ?_
  rintro e w3 ⟨v3, rfl, ho3, hb3⟩
  have B3 := B2.trans (hb3.mono z2)
  have hr3 := hr2.below hb3
  have hp3 := hp2.below hb3
  replace r1 := r1.below hb3
  obtain ⟨a3, c3, rfl, r3, _, _, _⟩ := ho3.form
  have z3 := B3.size
  clear hb3 hr2 hp2 B2 ho3 CI CS
  have ce := fun wx (h1 : Reads wx a1 R) (h3 : Reads wx a3 R) => equalInts_any a1 a3 R R c1 c3 wx h1 h3 HRL.out HRL.out
  rw [ER.out] at ce
  have CE := Lib.hid ce
  clear ce
  cases K with
  | false =>
    go_wp2_with fail
    refine (CE.out _ r1 r3).mono ?_
    rintro e w4 ⟨rfl, n4, rfl⟩
    go_wp2_with fail
    refine (CE.out _ (show Reads (w3.drewN n4) _ _ from r1) (show Reads (w3.drewN n4) _ _ from r3)).mono ?_
    rintro e w5 ⟨rfl, n5, rfl⟩
    go_wp2
    go_ret
    exact ⟨rfl, below_drewN B3 _⟩
  | true =>
    obtain ⟨M, qs, rfl, rfl, hT, hql, hq256, hall, hFO⟩ := FO_ok HK.out.symm
    obtain ⟨L, hL⟩ : ∃ L, L = flt M ts qs := ⟨_, rfl⟩
    have hRL : R = ints L := by rw [HR.out, hFO, hL]
    have hLl : L.length = M := by rw [hL]; exact fl_len _ _ _ _ _ _
    have htell := fun k hk => flt_tells (ps := qs) hT hall (k := k) hk
    rw [← hL] at htell
    have hkl : (plk M ts).1.length = ts.length := by have := (plk_taken M ts).count; omega
    have l1 : (ints L).length = M := by rw [ints_len, hLl]
    have lp : (ints qs).length = ts.length := by rw [ints_len, hql]
    have hL256 : ∀ j, L.getD j 0 < 256 := by rw [hL]; exact fun j => getD_lt (fl_lt _ _ _ _ _ hq256 _) (by omega) j
    have hPK : PK M ts = (ints (plk M ts).1, ints (plk M ts).2) := by unfold PK; rw [if_pos hT.TV]; rfl
    obtain ⟨ks, hks⟩ : ∃ ks, ks = (plk M ts).1 := ⟨_, rfl⟩
    obtain ⟨ss, hss⟩ : ∃ ss, ss = (plk M ts).2 := ⟨_, rfl⟩
    rw [← hks] at hkl
    rw [← hks, ← hss] at hPK
    have l2 : (ints ks).length = ts.length := by rw [ints_len, hkl]
    have cp' := fun wx (h : ReadsS wx av ts) => implPeelKeys_any M av ts cv wx hm64 h (by omega)
    unfold PKPost2 at cp'
    rw [hPK] at cp'
    have CP := Lib.hid cp'
    have HT := Lib.hid hT
    have HTE := Lib.hid htell
    have HLL := Lib.hid hLl
    have HQL := Lib.hid hql
    have H256 := Lib.hid hL256
    have L1 := Lib.hid l1
    have LP := Lib.hid lp
    have L2 := Lib.hid l2
    subst hRL
    have ce2 := CE.out
    rw [l1] at ce2 ⊢
    rw [lp]
    have CE2 := Lib.hid ce2
    clear CE ce2 l1 lp l2
    clear hT hFO hall hq256 hks hss hkl hL htell hLl hql hL256 hPK cp' HR HK
    go_wp2_with fail
    refine (CE2.out _ r1 r3).mono ?_
    rintro e w4 ⟨rfl, n4, rfl⟩
    obtain ⟨w5, hw5⟩ : ∃ w5, w5 = w3.drewN n4 := ⟨_, rfl⟩
    rw [← hw5]
    have B5 : Below w.heap.size w w5 := by rw [hw5]; exact below_drewN B3 _
    have hr5 : ReadsS w5 av ts := by rw [hw5]; exact hr3
    have q1 : Reads w5 a1 (ints L) := by rw [hw5]; exact r1
    have q2 : Reads w5 ap (ints qs) := by rw [hw5]; exact hp3
    clear hw5 hr3 r1 r3 hp3 B3 z3 CE2 ER
    have hM10 := HT.out.le
    have ht8 := HT.out.len
    have hMM : ((M : Int) == (M : Int)) = true := by simp
    have htt : ((ts.length : Int) == (ts.length : Int)) = true := by simp
    go_wp2_with fail
    go_loopw [10] (fun i wr => ∃ k n : Nat, k ≤ ts.length ∧ i = .int .i64 k ∧ wr = w5.drewN n) (fun i _ => ts.length - (intOf i).toNat)
    case atStart => exact ⟨0, 0, Nat.zero_le _, rfl, rfl⟩
    case round =>
      obtain ⟨k, n, hk, rfl, rfl⟩ := hrel
      by_cases hlt : k < ts.length
      · obtain ⟨b, off, A, C, rfl, hbb, hc, hrow, hcap⟩ := hr5.get hlt
        have h3 := (HT.out.three hlt).1
        have hth0 := HT.out.th hlt (j := 0) (by omega)
        have hth1 := HT.out.th hlt (j := 1) (by omega)
        have hth2 := HT.out.th hlt (j := 2) (by omega)
        have hx := HTE.out k hlt
        unfold x3 at hx
        obtain ⟨b', off', y0, rfl, hbb', hc0, hy0⟩ := hrow.get (k := 0) (by omega)
        obtain ⟨y1, hc1, hy1⟩ := hrow.at_ (k := 1) (by omega)
        obtain ⟨y2, hc2, hy2⟩ := hrow.at_ (k := 2) (by omega)
        rw [Nat.add_zero] at hc0
        rw [hy0.out] at hth0
        rw [hy1.out] at hth1
        rw [hy2.out] at hth2
        rw [h3] at hc hcap
        obtain ⟨t0, ht0⟩ : ∃ t, t = th ts k 0 := ⟨_, rfl⟩
        obtain ⟨t1, ht1⟩ : ∃ t, t = th ts k 1 := ⟨_, rfl⟩
        obtain ⟨t2, ht2⟩ : ∃ t, t = th ts k 2 := ⟨_, rfl⟩
        rw [← ht0] at hth0 hx
        rw [← ht1] at hth1 hx
        rw [← ht2] at hth2 hx
        obtain ⟨rfl, j0⟩ := hth0
        obtain ⟨rfl, j1⟩ := hth1
        obtain ⟨rfl, j2⟩ := hth2
        obtain ⟨b1, o1, z0, rfl, hb1, hd0, hz0⟩ := q1.get (k := t0) (by rw [L1.out]; exact j0)
        obtain ⟨z1', hd1, hz1⟩ := q1.at_ (k := t1) (by rw [L1.out]; exact j1)
        obtain ⟨z2', hd2, hz2⟩ := q1.at_ (k := t2) (by rw [L1.out]; exact j2)
        obtain ⟨b2, o2, q0, rfl, hb2, hdq, hq⟩ := q2.get (k := k) (by rw [LP.out]; exact hlt)
        have u0 := H256.out t0
        have u1 := H256.out t1
        have u2 := H256.out t2
        have e0 : z0 = ((L.getD t0 0 : Nat) : Int) := by rw [← hz0.out, ints_get (by rw [HLL.out]; exact j0)]
        have e1 : z1' = ((L.getD t1 0 : Nat) : Int) := by rw [← hz1.out, ints_get (by rw [HLL.out]; exact j1)]
        have e2 : z2' = ((L.getD t2 0 : Nat) : Int) := by rw [← hz2.out, ints_get (by rw [HLL.out]; exact j2)]
        have eq : q0 = ((qs.getD k 0 : Nat) : Int) := by rw [← hq.out, ints_get (by rw [HQL.out]; exact hlt)]
        obtain ⟨p0, hp0⟩ : ∃ p, p = L.getD t0 0 := ⟨_, rfl⟩
        obtain ⟨p1, hp1⟩ : ∃ p, p = L.getD t1 0 := ⟨_, rfl⟩
        obtain ⟨p2, hp2⟩ : ∃ p, p = L.getD t2 0 := ⟨_, rfl⟩
        obtain ⟨pq, hpq⟩ : ∃ p, p = qs.getD k 0 := ⟨_, rfl⟩
        rw [← hp0] at u0 e0 hx
        rw [← hp1] at u1 e1 hx
        rw [← hp2] at u2 e2 hx
        rw [← hpq] at eq hx
        subst e0 e1 e2 eq
        have hx1 := bits_xor_i64_nat p0 p1 (by omega) (by omega)
        have hx01 : p0 ^^^ p1 < 256 := Nat.xor_lt_two_pow (n := 8) u0 u1
        obtain ⟨p01, hp01⟩ : ∃ p, p = p0 ^^^ p1 := ⟨_, rfl⟩
        rw [← hp01] at hx hx1 hx01
        have hx2 := bits_xor_i64_nat p01 p2 (by omega) (by omega)
        rw [hx] at hx2
        have hne : ((pq : Int) != (pq : Int)) = false := by simp
        have g0 : (t0 : Int) < (M : Int) := by omega
        have g1 : (t1 : Int) < (M : Int) := by omega
        have g2 : (t2 : Int) < (M : Int) := by omega
        have g3 : (k : Int) < (ts.length : Int) := by omega
        clear hx hp01 hp0 hp1 hp2 hpq ht0 ht1 ht2 hz0 hz1 hz2 hq hy0 hy1 hy2 u0 u1 u2 hx01 h3 j0 j1 j2
        go_upto_region 11 with fail
        go_quiet (fail)
        all_goals
          go_wp2
          go_roundw
          case rel => exact ⟨k + 1, _, by omega, by go_num, by first | rfl | exact World.drewN_drewN _ _ _⟩
          case measure => simp [intOf]; omega
      · obtain rfl : k = ts.length := by omega
        go_wp2_with fail
        refine (CP.out _ (show ReadsS (w5.drewN n) _ _ from hr5)).mono ?_
        rintro e w6 ⟨v6, v7, rfl, o6, o7, b6, _⟩
        have B6 := (below_drewN B5 n).trans (b6.mono (below_drewN B5 n).size)
        obtain ⟨a6, c6, rfl, _, _, _, _⟩ := o6.form
        obtain ⟨a7, c7, rfl, _, _, _, _⟩ := o7.form
        rw [L2.out]
        go_wp2
        go_ret
        exact ⟨rfl, B6⟩
end Go.Proofs.Ytbldfhfciihddab
