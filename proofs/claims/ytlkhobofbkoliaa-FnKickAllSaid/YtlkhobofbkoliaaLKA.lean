/-
  laws.FnKickAll: the walk.
-/
import Derived.Test.YtlkhobofbkoliaaDp
import Derived.Test.YtlkhobofbkoliaaPK
import Derived.Test.YtlkhobofbkoliaaQK
import Derived.Test.YtlkhobofbkoliaaQR
import Derived.Test.YtlkhobofbkoliaaLH
import Derived.Test.YtlkhobofbkoliaaG9
namespace Go.Proofs.Ytlkhobofbkoliaa
open Go.RowKit

set_option maxHeartbeats 4000000 in
set_option maxRecDepth 100000 in
theorem lawFnKickAll (a : Option Addr) (n cap : Nat) (w : World) (hBy : Bytes w w.heap.size a n) (hn : n ≤ 9223372036854775807) (hc : n ≤ cap) :
    Calls Try.prog 9 #[.slice a n cap] w fun e w' => e = .returned (.bool true) ∧ Below w.heap.size w w' := by
  by_cases hbig : 1048576 < n
  · go_enter Try.func9, Try.ntmps9
    go_wp2
    go_ret
    exact ⟨rfl, Below.refl _ _⟩
  go_enter Try.func9, Try.ntmps9
  go_wp2_with fail
  refine (drawKickAll_any a n cap w hBy hn hc).mono ?_
  rintro e w1 ⟨m, v, l, rfl, hm, ho, hl, hb⟩
  obtain ⟨av, cv, rfl, hr, _, _, _⟩ := ho.form
  have hm64 : In64 m := by unfold In64; omega
  have z1 := hb.size
  clear ho
  obtain ⟨G, hG⟩ : ∃ G, G = (KA m l).1 := ⟨_, rfl⟩
  obtain ⟨c0, hc0⟩ : ∃ c0, c0 = (KA m l).2.1 := ⟨_, rfl⟩
  obtain ⟨b0, hb0⟩ : ∃ b0, b0 = (KA m l).2.2 := ⟨_, rfl⟩
  have hGl : G.length ≤ 1048586 := by rw [hG]; exact KA_len m l
  have eG := eqL_self G
  have ec1 : (c0 != c0) = false := by simp
  have ec2 : (c0 == c0) = true := by simp
  have HG := Lib.hid hG
  have HC0 := Lib.hid hc0
  have HB0 := Lib.hid hb0
  clear hG hb0 hc0
  have ci := implKickAll_any m av l cv w1 hm64 hr (by omega)
  rw [← HG.out, ← HC0.out, ← HB0.out] at ci
  go_wp2_with fail
  refine ci.mono ?_
  rintro e w2 ⟨v2, rfl, ho2, hb2⟩
  clear ci
  obtain ⟨a2, c2, rfl, _, _, _, _⟩ := ho2.form
  have B2 := hb.trans (hb2.mono z1)
  have z2 := B2.size
  have hr2 := hr.below hb2
  have cs := specKickAll_any m av l cv w2 hm64 hr2 (by omega)
  rw [← HG.out, ← HC0.out, ← HB0.out] at cs
  go_wp2_with fail
  refine cs.mono ?_
  rintro e w3 ⟨v3, rfl, ho3, hb3⟩
  clear cs
  obtain ⟨a3, c3, rfl, _, _, _, _⟩ := ho3.form
  have B3 := B2.trans (hb3.mono z2)
  have z3 := B3.size
  replace ho2 := ho2.below hb3
  have hr3 := hr2.below hb3
  clear hb2 hb3 hr2 B2 hr hb
  go_wp2_with fail
  refine (equalInts_any _ _ _ _ _ _ _ ho2.reads ho3.reads hGl hGl).mono ?_
  rintro e w4x ⟨rfl, n4, rfl⟩
  rw [eG]
  cases b0 with
  | true =>
    have hV : VP m l = true := by
      cases h : VP m l with
      | true => rfl
      | false => have := HB0.out; unfold KA at this; rw [h] at this; simp at this
    obtain ⟨M, rfl, hP⟩ := Prs.of_VP hV
    have hp : ∃ d, kall M l l.length = some (G, d) ∧ c0 = (d : Int) := by
      have h1 := HG.out
      have h2 := HB0.out
      have h3 := HC0.out
      rw [KA_yes hV] at h1 h2 h3
      cases h : kall M l l.length with
      | none => rw [h] at h2; simp [kaOf] at h2
      | some r => rw [h] at h1 h3; exact ⟨r.2, by rw [h1]; rfl, h3⟩
    obtain ⟨d, hp, hcd⟩ := hp
    obtain ⟨ht, hheld, hrm, hdl, hdu⟩ := kall_law hP hp
    have hM := hP.le
    have hM1 := hP.pos
    have hlen := hP.len
    have hGM := ht.len
    have hIR : IRm M l = true := by unfold IRm; rw [hV]; simpa using hrm
    obtain ⟨g2, cc2, e2, hT⟩ := ho2.tab (by rw [hGM]; omega)
    rw [hGM] at hT e2 ⊢
    injection e2 with e2a e2b e2c
    subst e2a
    subst e2c
    have HT := Lib.hid ht
    have HH : Hid (held G = l.length) := hheld
    have HIR := Lib.hid hIR
    have HGM := Lib.hid hGM
    have hd0 : (true != true) = false := by decide
    clear hV hp ht hheld hrm hGM hIR ho2 ho3 e2b
    subst hcd
    go_wp2_with fail
    go_loop [11] (fun i => ∃ k : Nat, k ≤ M ∧ i = .int .i64 k) (fun i => M - (intOf i).toNat)
    case atStart => exact ⟨0, Nat.zero_le _, rfl⟩
    case round =>
      obtain ⟨k, hk, rfl⟩ := hrel
      by_cases hlt : k < M
      · obtain ⟨x, hcx, hx⟩ := hT.get hlt
        rcases HT.out.key k hlt with e | ⟨q, hq, e, hh⟩
        · rw [hx.out] at e
          subst e
          have hcx' : (w3.drewN n4).cell? ⟨g2, k, none⟩ = some (.int .i64 (-1)) := hcx
          clear hx hcx
          go_wp2
          go_round
          case rel => exact ⟨k + 1, by omega, by go_num⟩
          case measure => simp [intOf]; omega
        · rw [hx.out] at e
          subst e
          obtain ⟨bb, off, x1, y1, rfl, hbb, hc1, hc2, hx1, hy1⟩ := hr3.get hq
          have fA := hP.cA hq
          have fB := hP.cB hq
          rw [hx1.out] at fA
          rw [hy1.out] at fB
          obtain ⟨p, hp⟩ : ∃ p, p = hA l q := ⟨_, rfl⟩
          obtain ⟨r, hr⟩ : ∃ r, r = hB l q := ⟨_, rfl⟩
          rw [← hp] at fA
          rw [← hr] at fB
          rw [← hp, ← hr] at hh
          subst fA fB
          clear hp hr hx1 hy1 hx
          by_cases hkp : k = p
          · subst hkp
            have hd1 : ((k : Int) != (k : Int)) = false := by simp
            clear hh
            go_wp2
            go_round
            case rel => exact ⟨k + 1, by omega, by go_num⟩
            case measure => simp [intOf]; omega
          · obtain rfl : k = r := by omega
            have hd1 : ((p : Int) != (k : Int)) = true := by simp; omega
            have hd2 : ((k : Int) != (k : Int)) = false := by simp
            clear hh hkp
            go_wp2
            go_round
            case rel => exact ⟨k + 1, by omega, by go_num⟩
            case measure => simp [intOf]; omega
      · obtain rfl : M = k := by omega
        have hr4 := hr3.below (below_drewN (Below.refl w3.heap.size w3) n4)
        have c5 := implIsRoomy_any M av l cv (w3.drewN n4) hm64 hr4 (by omega)
        rw [HIR.out] at c5
        go_wp2_with fail
        refine c5.mono ?_
        rintro e w5 ⟨rfl, hb5⟩
        clear c5
        have B5 := (below_drewN B3 n4).trans (hb5.mono z3)
        have hT5 := (show Tab (w3.drewN n4) _ _ _ _ _ from hT).below hb5
        have c6 := keysIn_any (some ⟨g2, 0, none⟩) G c2 w5 hT5.reads hGl
        rw [HGM.out, HH.out] at c6
        have hd3 : ((l.length : Int) == (l.length : Int)) = true := by simp
        go_wp2_with fail
        refine c6.mono ?_
        rintro e w6 ⟨rfl, rfl⟩
        clear c6
        go_wp2
        go_ret
        exact ⟨rfl, B5⟩
  | false =>
    have hno : G = [] ∧ c0 = -1 ∧ IRm m l = false := by
      have h1 := HG.out
      have h2 := HB0.out
      have h3 := HC0.out
      by_cases hV : VP m l = true
      · obtain ⟨M, rfl, hP⟩ := Prs.of_VP hV
        rw [KA_yes hV] at h1 h2 h3
        have hkr := kall_rmy hP
        cases h : kall M l l.length with
        | none =>
          rw [h] at h1 h3 hkr
          refine ⟨h1, h3, ?_⟩
          unfold IRm
          rw [hV, Int.toNat_natCast, ← hkr]; rfl
        | some r => rw [h] at h2; simp [kaOf] at h2
      · unfold KA at h1 h3
        rw [if_neg hV] at h1 h3
        refine ⟨h1, h3, ?_⟩
        unfold IRm
        rw [show VP m l = false by simpa using hV]; rfl
    obtain ⟨rfl, rfl, hIR⟩ := hno
    have HIR := Lib.hid hIR
    have hd0 : (false != false) = false := by decide
    have hd1 : (false == false) = true := by decide
    clear hIR
    have hr4 : ReadsP (w3.drewN n4) av l := hr3.below (below_drewN (Below.refl w3.heap.size w3) n4)
    go_wp2_with fail
    refine (equalInts_any _ _ _ _ _ _ _ (show Reads (w3.drewN n4) _ _ from ho2.reads) (show Reads (w3.drewN n4) _ _ from ho3.reads) hGl hGl).mono ?_
    rintro e w6 ⟨rfl, n6, rfl⟩
    rw [eG]
    obtain ⟨w7, hw7⟩ : ∃ w7, w7 = (w3.drewN n4).drewN n6 := ⟨_, rfl⟩
    have B7 : Below w.heap.size w w7 := by rw [hw7]; exact below_drewN (below_drewN B3 n4) n6
    have hr7 : ReadsP w7 av l := by rw [hw7]; exact hr4.below (below_drewN (Below.refl _ _) n6)
    rw [← hw7]
    have z7 := B7.size
    clear hw7 hr4
    obtain ⟨b1, hb1⟩ : ∃ b1, b1 = VP m l := ⟨_, rfl⟩
    have cv1 := implValidPairs_any m av l cv w7 hm64 hr7 (by omega)
    rw [← hb1] at cv1
    clear hb1
    go_wp2_with fail
    refine cv1.mono ?_
    rintro e w8 ⟨rfl, hb8⟩
    clear cv1
    have B8 := B7.trans (hb8.mono z7)
    cases b1 with
    | false =>
      go_wp2
      go_ret
      exact ⟨rfl, B8⟩
    | true =>
      have c9 := implIsRoomy_any m av l cv w8 hm64 (hr7.below hb8) (by omega)
      rw [HIR.out] at c9
      go_wp2_with fail
      refine c9.mono ?_
      rintro e w9 ⟨rfl, hb9⟩
      clear c9
      have B9 := B8.trans (hb9.mono B8.size)
      go_wp2
      go_ret
      exact ⟨rfl, B9⟩
end Go.Proofs.Ytlkhobofbkoliaa
