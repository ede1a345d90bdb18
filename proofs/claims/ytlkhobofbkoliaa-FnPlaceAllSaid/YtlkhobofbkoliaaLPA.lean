/-
  laws.FnPlaceAll: the walk.
-/
import Derived.Test.YtlkhobofbkoliaaDp
import Derived.Test.YtlkhobofbkoliaaPP
import Derived.Test.YtlkhobofbkoliaaQP
import Derived.Test.YtlkhobofbkoliaaQR
import Derived.Test.YtlkhobofbkoliaaLH
import Derived.Test.YtlkhobofbkoliaaG7
namespace Go.Proofs.Ytlkhobofbkoliaa
open Go.RowKit

set_option maxHeartbeats 4000000 in
set_option maxRecDepth 100000 in
theorem lawFnPlaceAll (a : Option Addr) (n cap : Nat) (w : World) (hBy : Bytes w w.heap.size a n) (hn : n ≤ 9223372036854775807) (hc : n ≤ cap) :
    Calls Try.prog 8 #[.slice a n cap] w fun e w' => e = .returned (.bool true) ∧ Below w.heap.size w w' := by
  by_cases hbig : 1048576 < n
  · go_enter Try.func8, Try.ntmps8
    go_wp2
    go_ret
    exact ⟨rfl, Below.refl _ _⟩
  go_enter Try.func8, Try.ntmps8
  go_wp2_with fail
  refine (drawPlaceAll_any a n cap w hBy hn hc).mono ?_
  rintro e w1 ⟨m, v, l, rfl, hm, ho, hl, hb⟩
  obtain ⟨av, cv, rfl, hr, _, _, _⟩ := ho.form
  have hm64 : In64 m := by unfold In64; omega
  have z1 := hb.size
  clear ho
  obtain ⟨G, hG⟩ : ∃ G, G = (PL m l).1 := ⟨_, rfl⟩
  obtain ⟨b0, hb0⟩ : ∃ b0, b0 = (PL m l).2 := ⟨_, rfl⟩
  have hGl : G.length ≤ 1048586 := by rw [hG]; exact PL_len m l
  have eG := eqL_self G
  have HG := Lib.hid hG
  have HB0 := Lib.hid hb0
  clear hG hb0
  have ci := implPlaceAll_any m av l cv w1 hm64 hr (by omega)
  rw [← HG.out, ← HB0.out] at ci
  go_wp2_with fail
  refine ci.mono ?_
  rintro e w2 ⟨v2, rfl, ho2, hb2⟩
  clear ci
  obtain ⟨a2, c2, rfl, _, _, _, _⟩ := ho2.form
  have B2 := hb.trans (hb2.mono z1)
  have z2 := B2.size
  have hr2 := hr.below hb2
  have cs := specPlaceAll_any m av l cv w2 hm64 hr2 (by omega)
  rw [← HG.out, ← HB0.out] at cs
  go_wp2_with fail
  refine cs.mono ?_
  rintro e w3 ⟨v3, rfl, ho3, hb3⟩
  clear cs
  obtain ⟨a3, c3, rfl, _, _, _, _⟩ := ho3.form
  have B3 := B2.trans (hb3.mono z2)
  have z3 := B3.size
  replace ho2 := ho2.below hb3
  have hr3 := hr2.below hb3
  clear hb2 hb3 hr2 B2 hr hb
  go_wp2_with fail
  refine (equalInts_any _ _ _ _ _ _ _ ho2.reads ho3.reads hGl hGl).mono ?_
  rintro e w4x ⟨rfl, n4, rfl⟩
  rw [eG]
  cases b0 with
  | true =>
    have hV : VP m l = true := by
      cases h : VP m l with
      | true => rfl
      | false => have := HB0.out; unfold PL at this; rw [h] at this; simp at this
    obtain ⟨M, rfl, hP⟩ := Prs.of_VP hV
    have hp : pla M l = some G := by
      have h1 := HG.out
      have h2 := HB0.out
      unfold PL at h1 h2
      rw [if_pos hV, Int.toNat_natCast] at h1 h2
      cases h : pla M l with
      | none => rw [h] at h2; simp at h2
      | some r => rw [h] at h1; simp at h1; rw [h1]
    obtain ⟨ht, hheld, hrm⟩ := pla_law hP hp
    have hM := hP.le
    have hM1 := hP.pos
    have hlen := hP.len
    have hGM := ht.len
    have hIR : IRm M l = true := by unfold IRm; rw [hV]; simpa using hrm
    obtain ⟨g2, cc2, e2, hT⟩ := ho2.tab (by rw [hGM]; omega)
    rw [hGM] at hT e2 ⊢
    injection e2 with e2a e2b e2c
    subst e2a
    subst e2c
    have HT := Lib.hid ht
    have HH : Hid (held G = l.length) := hheld
    have HIR := Lib.hid hIR
    have HGM := Lib.hid hGM
    have hd0 : (true != true) = false := by decide
    clear hV hp ht hheld hrm hGM hIR ho2 ho3 e2b
    go_wp2_with fail
    go_loop [9] (fun i => ∃ k : Nat, k ≤ M ∧ i = .int .i64 k) (fun i => M - (intOf i).toNat)
    case atStart => exact ⟨0, Nat.zero_le _, rfl⟩
    case round =>
      obtain ⟨k, hk, rfl⟩ := hrel
      by_cases hlt : k < M
      · obtain ⟨x, hcx, hx⟩ := hT.get hlt
        rcases HT.out.key k hlt with e | ⟨q, hq, e, hh⟩
        · rw [hx.out] at e
          subst e
          have hcx' : (w3.drewN n4).cell? ⟨g2, k, none⟩ = some (.int .i64 (-1)) := hcx
          clear hx hcx
          go_wp2
          go_round
          case rel => exact ⟨k + 1, by omega, by go_num⟩
          case measure => simp [intOf]; omega
        · rw [hx.out] at e
          subst e
          obtain ⟨bb, off, x1, y1, rfl, hbb, hc1, hc2, hx1, hy1⟩ := hr3.get hq
          have fA := hP.cA hq
          have fB := hP.cB hq
          rw [hx1.out] at fA
          rw [hy1.out] at fB
          obtain ⟨p, hp⟩ : ∃ p, p = hA l q := ⟨_, rfl⟩
          obtain ⟨r, hr⟩ : ∃ r, r = hB l q := ⟨_, rfl⟩
          rw [← hp] at fA
          rw [← hr] at fB
          rw [← hp, ← hr] at hh
          subst fA fB
          clear hp hr hx1 hy1 hx
          by_cases hkp : k = p
          · subst hkp
            have hd1 : ((k : Int) != (k : Int)) = false := by simp
            clear hh
            go_wp2
            go_round
            case rel => exact ⟨k + 1, by omega, by go_num⟩
            case measure => simp [intOf]; omega
          · obtain rfl : k = r := by omega
            have hd1 : ((p : Int) != (k : Int)) = true := by simp; omega
            have hd2 : ((k : Int) != (k : Int)) = false := by simp
            clear hh hkp
            go_wp2
            go_round
            case rel => exact ⟨k + 1, by omega, by go_num⟩
            case measure => simp [intOf]; omega
      · obtain rfl : M = k := by omega
        have hr4 := hr3.below (below_drewN (Below.refl w3.heap.size w3) n4)
        have c5 := implIsRoomy_any M av l cv (w3.drewN n4) hm64 hr4 (by omega)
        rw [HIR.out] at c5
        go_wp2_with fail
        refine c5.mono ?_
        rintro e w5 ⟨rfl, hb5⟩
        clear c5
        have B5 := (below_drewN B3 n4).trans (hb5.mono z3)
        have hT5 := (show Tab (w3.drewN n4) _ _ _ _ _ from hT).below hb5
        have c6 := keysIn_any (some ⟨g2, 0, none⟩) G c2 w5 hT5.reads hGl
        rw [HGM.out, HH.out] at c6
        have hd3 : ((l.length : Int) == (l.length : Int)) = true := by simp
        go_wp2_with fail
        refine c6.mono ?_
        rintro e w6 ⟨rfl, rfl⟩
        clear c6
        go_wp2
        go_ret
        exact ⟨rfl, B5⟩
  | false =>
    have eGO : G = [] := by
      have h1 := HG.out
      have h2 := HB0.out
      unfold PL at h1 h2
      by_cases hV : VP m l = true
      · rw [if_pos hV] at h1 h2
        cases h : pla m.toNat l with
        | none => rw [h] at h1; exact h1
        | some r => rw [h] at h2; simp at h2
      · rw [if_neg hV] at h1; exact h1
    subst eGO
    have hd0 : (false != false) = false := by decide
    have hd1 : (false == false) = true := by decide
    go_wp2_with fail
    refine (equalInts_any _ _ _ _ _ _ _ (show Reads (w3.drewN n4) _ _ from ho2.reads) (show Reads (w3.drewN n4) _ _ from ho3.reads) hGl hGl).mono ?_
    rintro e w6 ⟨rfl, n6, rfl⟩
    rw [eG]
    go_wp2
    go_ret
    exact ⟨rfl, below_drewN B3 _⟩
end Go.Proofs.Ytlkhobofbkoliaa
