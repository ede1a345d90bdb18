/-
  laws.FnGroupsOf: the walk.
-/
import Derived.Test.YtlkhobofbkoliaaDp
import Derived.Test.YtlkhobofbkoliaaPG
import Derived.Test.YtlkhobofbkoliaaQG
import Derived.Test.YtlkhobofbkoliaaLH
import Derived.Test.YtlkhobofbkoliaaG6
namespace Go.Proofs.Ytlkhobofbkoliaa
open Go.RowKit

set_option maxHeartbeats 4000000 in
set_option maxRecDepth 100000 in
theorem lawFnGroupsOf (a : Option Addr) (n cap : Nat) (w : World) (hBy : Bytes w w.heap.size a n) (hn : n ≤ 9223372036854775807) (hc : n ≤ cap) :
    Calls Try.prog 6 #[.slice a n cap] w fun e w' => e = .returned (.bool true) ∧ Below w.heap.size w w' := by
  by_cases hbig : 1048576 < n
  · go_enter Try.func6, Try.ntmps6
    go_wp2
    go_ret
    exact ⟨rfl, Below.refl _ _⟩
  go_enter Try.func6, Try.ntmps6
  go_wp2_with fail
  refine (drawGroupsOf_any a n cap w hBy hn hc).mono ?_
  rintro e w1 ⟨m, v, l, rfl, hm, ho, hl, hb⟩
  obtain ⟨av, cv, rfl, hr, _, _, _⟩ := ho.form
  have hm64 : In64 m := by unfold In64; omega
  have z1 := hb.size
  clear ho
  obtain ⟨G, hG⟩ : ∃ G, G = GO m l := ⟨_, rfl⟩
  have hGl : G.length ≤ 1048586 := by rw [hG]; exact GO_len m l
  have eG := eqL_self G
  have HG := Lib.hid hG
  clear hG
  go_wp2_with fail
  refine (implGroupsOf_any m _ l _ _ hm64 hr (by omega)).mono ?_
  rintro e w2 ⟨v2, rfl, ho2, hb2⟩
  rw [← HG.out] at ho2
  obtain ⟨a2, c2, rfl, _, _, _, _⟩ := ho2.form
  have B2 := hb.trans (hb2.mono z1)
  have z2 := B2.size
  have hr2 := hr.below hb2
  go_wp2_with fail
  refine (specGroupsOf_any m _ l _ _ hm64 hr2 (by omega)).mono ?_
  rintro e w3 ⟨v3, rfl, ho3, hb3⟩
  rw [← HG.out] at ho3
  obtain ⟨a3, c3, rfl, _, _, _, _⟩ := ho3.form
  have B3 := B2.trans (hb3.mono z2)
  have z3 := B3.size
  replace ho2 := ho2.below hb3
  have hr3 := hr2.below hb3
  clear hb2 hb3 hr2 B2 hr hb
  go_wp2_with fail
  refine (equalInts_any _ _ _ _ _ _ _ ho2.reads ho3.reads hGl hGl).mono ?_
  rintro e w4x ⟨rfl, n4, rfl⟩
  rw [eG]
  by_cases hV : VP m l = true
  · obtain ⟨M, rfl, hP⟩ := Prs.of_VP hV
    have hM := hP.le
    have hM1 := hP.pos
    have hlen := hP.len
    obtain ⟨law1, law2⟩ := gra_law hP
    have hS := (gra_inv hP).2
    have eGO : G = gra M l := by rw [HG.out]; unfold GO; rw [if_pos hV]; rfl
    have hGM : G.length = M := by rw [eGO, gra_len]
    rw [← eGO] at law1 law2 hS
    obtain ⟨g2, cc2, e2, hT⟩ := ho2.tab (by rw [hGM]; omega)
    rw [hGM] at hT e2 ⊢
    injection e2 with e2a e2b e2c
    subst e2a
    subst e2c
    have L1 := Lib.hid law1
    have L2 := Lib.hid law2
    have HS := Lib.hid hS
    have HGM := Lib.hid hGM
    have hd0 : ((M : Int) == 0) = false := by simp; omega
    clear hV eGO hGM law1 law2 hS ho2 ho3 e2b
    go_wp2_with fail
    go_loopw [6, 7] (fun c i wr => ∃ k nd : Nat, k ≤ M ∧ i = .int .i64 k ∧ c = .int .i64 (reps G k : Nat) ∧ wr = w3.drewN nd) (fun _ i _ => M - (intOf i).toNat)
    case atStart => exact ⟨0, n4, Nat.zero_le _, rfl, rfl, rfl⟩
    case round =>
      obtain ⟨k, nd, hk, rfl, rfl, rfl⟩ := hrel
      have hrl := reps_le G k
      by_cases hlt : k < M
      · obtain ⟨x, hcx, hx⟩ := hT.get hlt
        obtain ⟨l1, l2, l3⟩ := L1.out k hlt
        rw [hx.out] at l1 l2 l3
        obtain ⟨y, rfl⟩ := Int.eq_ofNat_of_zero_le l1
        rw [show ((y : Int)).toNat = y by omega] at l3
        obtain ⟨z, hcz, hz⟩ := hT.get (k := y) (by omega)
        rw [hz.out] at l3
        subst l3
        have hd1 : decide ((k : Int) < y) = false := by simp; omega
        have hd1' : decide (k < y) = false := by simp; omega
        have hd2 : ((y : Int) != (y : Int)) = false := by simp
        have hyM : (y : Int) < M := by omega
        clear hz
        by_cases e : y = k
        · subst e
          have hrep := reps_yes (X := G) (k := y) hx.out
          have hd3 : ((y : Int) == (y : Int)) = true := by simp
          have HR := Lib.hid hrep
          clear hrep
          go_wp2
          go_quiet (fail)
          go_wp2
          go_roundw
          case rel => exact ⟨y + 1, _, by omega, by go_num, by rw [HR.out]; go_num, by first | rfl | rw [World.drewN_drewN]⟩
          case measure => simp [intOf]; omega
        · have hrep := reps_no (X := G) (k := k) (by rw [hx.out]; omega)
          have hd3 : ((y : Int) == (k : Int)) = false := by simp; omega
          have HR := Lib.hid hrep
          clear hrep e
          go_wp2
          go_quiet (fail)
          go_wp2
          go_roundw
          case rel => exact ⟨k + 1, _, by omega, by go_num, by rw [HR.out], by first | rfl | rw [World.drewN_drewN]⟩
          case measure => simp [intOf]; omega
      · obtain rfl : M = k := by omega
        obtain ⟨c, hc'⟩ : ∃ c, c = reps G M := ⟨_, rfl⟩
        rw [← hc'] at hrl ⊢
        have hcl : M ≤ c + l.length := by rw [hc']; exact L2.out
        clear hc'
        go_wp2_with fail
        go_loopw [8] (fun i wr => ∃ j nd : Nat, j ≤ l.length ∧ i = .int .i64 j ∧ wr = w3.drewN nd) (fun i _ => l.length - (intOf i).toNat)
        case atStart => exact ⟨0, _, Nat.zero_le _, rfl, rfl⟩
        case round =>
          obtain ⟨j, nd, hj, rfl, rfl⟩ := hrel
          by_cases hlt2 : j < l.length
          · obtain ⟨b, off, x, y, rfl, hbb, hcx, hcy, hx, hy⟩ := hr3.get hlt2
            have fx := hP.cA hlt2
            have fy := hP.cB hlt2
            have lx := hP.lA hlt2
            have ly := hP.lB hlt2
            have hsj := HS.out j hlt2
            obtain ⟨p, hp⟩ : ∃ p, p = hA l j := ⟨_, rfl⟩
            obtain ⟨q, hq⟩ : ∃ q, q = hB l j := ⟨_, rfl⟩
            rw [hx.out, ← hp] at fx
            rw [hy.out, ← hq] at fy
            rw [← hp] at lx
            rw [← hq] at ly
            rw [← hp, ← hq] at hsj
            clear hp hq hx hy
            subst fx fy
            obtain ⟨u, hcu, hu⟩ := hT.get lx
            obtain ⟨v, hcv, hv⟩ := hT.get ly
            rw [hu.out, hv.out] at hsj
            subst hsj
            have hd1 : (u != u) = false := by simp
            clear hu hv
            go_wp2
            go_quiet (fail)
            go_wp2
            go_roundw
            case rel => exact ⟨j + 1, _, by omega, by go_num, by first | rfl | rw [World.drewN_drewN]⟩
            case measure => simp [intOf]; omega
          · obtain rfl : j = l.length := by omega
            go_wp2
            go_ret
            exact ⟨ret_bool (by simp; omega), below_drewN B3 _⟩
  · have hV' : VP m l = false := by simpa using hV
    have eGO : G = [] := by rw [HG.out]; unfold GO; rw [if_neg hV]
    clear hV
    subst eGO
    have hr4 := hr3.below (below_drewN (Below.refl w3.heap.size w3) n4)
    go_wp2_with fail
    have c5 := specGroupsOf_any m av l cv (w3.drewN n4) hm64 hr4 (by omega)
    rw [← HG.out] at c5
    refine c5.mono ?_
    rintro e w5 ⟨v5, rfl, ho5, hb5⟩
    obtain ⟨a5, c5', rfl, _, _, _, _⟩ := ho5.form
    have B5 := (below_drewN B3 n4).trans (hb5.mono z3)
    have ho6 := Own.below hb5 (show Own (w3.drewN n4) _ _ _ from ho2)
    clear c5
    go_wp2_with fail
    refine (equalInts_any _ _ _ _ _ _ _ ho6.reads ho5.reads (by simp) (by simp)).mono ?_
    rintro e w6 ⟨rfl, n6, rfl⟩
    rw [eG]
    go_wp2
    go_ret
    exact ⟨rfl, below_drewN B5 _⟩
end Go.Proofs.Ytlkhobofbkoliaa
