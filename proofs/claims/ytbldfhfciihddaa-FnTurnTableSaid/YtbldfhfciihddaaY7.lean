/-
  spec.TurnTable.
-/
import Derived.Test.YtbldfhfciihddaaUd
import Derived.Test.YtbldfhfciihddaaR2
import Derived.Test.YtbldfhfciihddaaS1
import Derived.Test.YtbldfhfciihddaaZ2
import Derived.Test.YtbldfhfciihddaaY2
import Derived.Test.YtbldfhfciihddaaD4
import Derived.Deep.Cut
import Derived.Deep.LoopGhost
import Derived.BigRegion
import Derived.BigQuiet
namespace Go.Proofs.Ytbldfhfciihddaa
open Go.RowKit

theorem tp_int {a b j : Nat} (ha : a < 13) (hb : b < 13) (hj : j ≤ 13) : ∃ P Q : Int, IntKind.i64.wrap ((j : Int) * (b : Int)) = P ∧ IntKind.i64.wrap ((a : Int) + P) = Q ∧ Q.tmod 13 = (tp a b j : Nat) := by
  have h1 : j * b ≤ 13 * 13 := Nat.mul_le_mul hj (by omega)
  refine ⟨((j * b : Nat) : Int), ((a + j * b : Nat) : Int), ?_, ?_, ?_⟩
  · rw [← Int.natCast_mul]; exact IntWalk.i64_in _ (by omega)
  · rw [← Int.natCast_add]; exact IntWalk.i64_in _ (by omega)
  · unfold tp
    rw [Int.tmod_eq_emod_of_nonneg (by omega)]
    omega
theorem tmod_nat (n L : Nat) : ((n : Int)).tmod (L : Int) = ((n % L : Nat) : Int) := by
  rw [Int.tmod_eq_emod_of_nonneg (by omega)]; omega
theorem nts_set2 (N : List Nat) (s x y : Nat) : (nts (N.set s x)).set s (y : Int) = nts (N.set s y) := by
  rw [nts_set, List.set_set]
theorem Tab.other7 {w : World} {base g n cap : Nat} {l : List Int} (h : Tab w base g n cap l) {g' : Nat} (hg : g ≠ g') (k : Nat) (x : Value) : Tab (w.setCell ⟨g', k, none⟩ x) base g n cap l :=
  World.ownsRow.kept h (grownBy_setCell_any w ⟨g', k, none⟩ x) (.inr (fun e => hg (by simpa [Value.ownBlock] using e)))
theorem nts_rep (n : Nat) : nts (List.replicate n 0) = List.replicate n 0 := by simp [nts]

set_option maxHeartbeats 2000000 in
theorem specvalidTurns_any (a : Option Addr) (l : List (Int × Int)) (cap : Nat) (w : World) (hr : ReadsP w a l) (hl : l.length ≤ 1048586) :
    Calls Try.prog 74 #[.slice a l.length cap] w fun e w' => e = .returned (.bool (VU l)) ∧ w = w' := by
  obtain ⟨R, hR⟩ : ∃ R, R = VU l := ⟨_, rfl⟩
  rw [← hR]
  have HR := Lib.hid hR
  clear hR
  go_enter Try.func74, Try.ntmps74
  go_wp2
  go_loop [3] (fun i => ∃ k : Nat, k ≤ l.length ∧ i = .int .i64 k ∧ Hid (FitU l k)) (fun i => l.length - (intOf i).toNat)
  case atStart => exact ⟨0, Nat.zero_le _, rfl, FitU.zero _⟩
  case round =>
    obtain ⟨k, hk, rfl, hf⟩ := hrel
    by_cases hlt : k < l.length
    · obtain ⟨b, off, x, y, rfl, hbb, hcx, hcy, hx, hy⟩ := hr.get hlt
      have hx' : (l.getD k (0, 0)).1 = x := hx.out
      have hy' : (l.getD k (0, 0)).2 = y := hy.out
      have HX := Lib.hid hx'
      have HY := Lib.hid hy'
      clear hx' hy'
      by_cases g1 : inR x 0 12 = true
      · by_cases g2 : inR y 1 12 = true
        · go_wp2_with (go_at_call 64; refine (inRange_any _ _ _ _).mono ?_; rintro e w' ⟨rfl, rfl⟩)
          go_round
          case rel => rw [inR_iff] at g1 g2; exact ⟨k + 1, by omega, by go_num, hf.out.succ (by rw [HX.out]; omega) (by rw [HX.out]; omega) (by rw [HY.out]; omega) (by rw [HY.out]; omega)⟩
          case measure => simp [intOf]; omega
        · have g3 : inR y 1 12 = false := by simpa using g2
          have e : R = false := by
            rw [HR.out]; refine VU_false fun h => g2 (inR_iff.2 ?_)
            have := h.2.2 k hlt
            rw [HY.out] at this; omega
          have E := Lib.hid e
          clear e
          go_wp2_with (go_at_call 64; refine (inRange_any _ _ _ _).mono ?_; rintro e w' ⟨rfl, rfl⟩)
          go_ret
          exact ⟨ret_bool E.out.symm, rfl⟩
      · have g3 : inR x 0 12 = false := by simpa using g1
        have e : R = false := by
          rw [HR.out]; refine VU_false fun h => g1 (inR_iff.2 ?_)
          have := h.2.2 k hlt
          rw [HX.out] at this; omega
        have E := Lib.hid e
        clear e
        go_wp2_with (go_at_call 64; refine (inRange_any _ _ _ _).mono ?_; rintro e w' ⟨rfl, rfl⟩)
        go_ret
        exact ⟨ret_bool E.out.symm, rfl⟩
    · obtain rfl : k = l.length := by omega
      have c1 : ∀ wx, Calls Try.prog 64 #[.int .i64 (l.length : Int), .int .i64 1, .int .i64 6] wx fun e w' => e = .returned (.bool R) ∧ wx = w' := fun wx => by
        have := inRange_any (l.length : Int) 1 6 wx
        rwa [show inR (l.length : Int) 1 6 = R from by
          rw [HR.out, Bool.eq_iff_iff, inR_iff, VU_iff]
          exact ⟨fun h => ⟨by omega, by omega, hf.out⟩, fun h => ⟨by omega, by omega⟩⟩] at this
      have C1 := Lib.hid c1
      clear c1
      go_wp2_with fail
      refine (C1.out _).mono ?_
      rintro e w2 ⟨rfl, rfl⟩
      go_wp2
      go_ret
      exact ⟨rfl, rfl⟩

set_option maxHeartbeats 8000000 in
set_option maxRecDepth 100000 in
theorem specturnTable_any (a : Option Addr) (tu : List (Int × Int)) (cap : Nat) (w : World) (hr : ReadsP w a tu) (hv : VU tu = true) :
    Calls Try.prog 75 #[.slice a tu.length cap] w fun e w' => ∃ v, e = .returned v ∧ Own w' w.heap.size v (tt tu 13) ∧ Below w.heap.size w w' := by
  have hl1 := (VU_iff.1 hv).1
  have hl6 := (VU_iff.1 hv).2.1
  have HV := Lib.hid hv
  clear hv
  have ce := empty_any 13 (by omega) w
  rw [show ((13 : Nat) : Int) = 13 from rfl] at ce
  have CE := Lib.hid ce
  clear ce
  have hmk := run_make_row' (P := Try.prog) 23 3 (.int .i64 0) 8 Try.underlying23 infoInt rfl .i64 .i64 tu.length (by omega) (by omega)
  obtain ⟨BB, hBB⟩ : ∃ BB, BB = madeCells #[.int .i64 0] tu.length := ⟨_, rfl⟩
  rw [← hBB] at hmk
  have HBB := Lib.hid hBB
  clear hBB
  go_enter Try.func75, Try.ntmps75
  go_wp2_with fail
  refine CE.out.mono ?_
  rintro e w1 ⟨v1, rfl, ho1, b1⟩
  obtain ⟨gT, cT, rfl, hT1⟩ := ho1.tab (by simp)
  have hz1 := b1.size
  have xA := made_tabR w1 w1.heap.size tu.length (Nat.le_refl _) (by omega)
  rw [← HBB.out] at xA
  have bA := b1.alloc hz1 (.cells BB 3)
  have tA := hT1.below ((Below.refl w1.heap.size w1).alloc (Nat.le_refl _) (.cells BB 3))
  rw [← nts_rep] at xA
  have hgT := hT1.block
  rw [List.length_replicate]
  rw [List.length_replicate] at tA
  have h0 : ((List.replicate 13 (-1) : List Int)) = tt tu 0 := rfl
  rw [h0] at tA
  clear ho1 hT1 CE h0
  have hL0 : ¬ tu.length = 0 := by omega
  go_wp2_with fail
  go_loopw [5] (fun nv wr => ∃ (n : Nat) (N : List Nat), n ≤ 13 ∧ nv = .int .i64 n ∧ Hid (NX tu n N) ∧ Tab wr w.heap.size gT 13 cT (tt tu n) ∧ Tab wr w1.heap.size w1.heap.size tu.length tu.length (nts N) ∧ Below w.heap.size w wr) (fun nv _ => 13 - (intOf nv).toNat)
  case atStart => exact ⟨0, _, by omega, rfl, NX.zero tu, tA, xA, bA⟩
  case round =>
    clear tA xA bA hmk
    obtain ⟨n, N, hn, rfl, hNX, hT, hN, hB⟩ := hrel
    by_cases hlt : n < 13
    · have hn1 : (n : Int) < 13 := by omega
      have hrw := hr.below hB
      have hs := VU_mod HV.out n
      have hmod := tmod_nat n tu.length
      have hfj := tt_fj HV.out hlt
      have hle := hNX.out.le HV.out hlt
      have hsucc := hNX.out.succ HV.out hlt
      have htt : tt tu (n + 1) = (tt tu n).set (tp (tfr tu (n % tu.length)) (tsk tu (n % tu.length)) (fj (tt tu n) (tfr tu (n % tu.length)) (tsk tu (n % tu.length)))) ((n % tu.length : Nat) : Int) := rfl
      have hNl := hNX.out.1
      obtain ⟨s, hse⟩ : ∃ s, s = n % tu.length := ⟨_, rfl⟩
      rw [← hse] at hs hmod hfj hle hsucc htt
      obtain ⟨hx1, hy1, ha13, hb13, hb0⟩ := VU_get HV.out hs
      obtain ⟨b, off, x, y, rfl, hbb, hcx, hcy, hx, hy⟩ := hrw.get hs
      have hx' : x = (tfr tu s : Int) := by rw [← hx.out]; exact hx1
      have hy' : y = (tsk tu s : Int) := by rw [← hy.out]; exact hy1
      obtain ⟨fa, hfa⟩ : ∃ f, f = tfr tu s := ⟨_, rfl⟩
      obtain ⟨fb, hfb⟩ : ∃ f, f = tsk tu s := ⟨_, rfl⟩
      rw [← hfa] at hx' ha13 hfj hle hsucc htt
      rw [← hfb] at hy' hb13 hb0 hfj hle hsucc htt
      have HXA := Lib.hid (show pA tu s = (fa : Int) by rw [hfa]; exact hx1)
      have HYB := Lib.hid (show pB tu s = (fb : Int) by rw [hfb]; exact hy1)
      subst hx' hy'
      obtain ⟨J, hJ⟩ : ∃ J, J = fj (tt tu n) fa fb := ⟨_, rfl⟩
      rw [← hJ] at hfj hle hsucc htt
      obtain ⟨T, hTe⟩ : ∃ T, T = tt tu n := ⟨_, rfl⟩
      rw [← hTe] at hT hfj htt
      obtain ⟨j0, hj0⟩ : ∃ j0, j0 = N.getD s 0 := ⟨_, rfl⟩
      rw [← hj0] at hle
      obtain ⟨z0, hcz, hz⟩ := hN.get (k := s) hs
      have hz' : z0 = (j0 : Int) := by rw [← hz.out, nts_get (by rw [hNl]; exact hs), hj0]
      subst hz'
      have hJ13 : J < 13 := hfj.2.1
      obtain ⟨P0, Q0, p1, p2, p3⟩ := tp_int ha13 hb13 (j := j0) (by omega)
      have hN0 : nts N = nts (N.set s j0) := by
        congr 1
        apply List.ext_getElem
        · simp
        · intro i h1 h2
          rw [List.getElem_set]
          by_cases e : s = i
          · subst e; rw [if_pos rfl, hj0]; simp [List.getD, h1]
          · rw [if_neg e]
      rw [hN0] at hN
      have hsl : (s : Int) < (tu.length : Int) := by omega
      have HFJ := Lib.hid hfj
      have HSU := Lib.hid hsucc
      have HTT := Lib.hid htt
      have HNL := Lib.hid hNl
      have hle' : Hid (j0 ≤ J) := hle
      clear hse hx hy hx1 hy1 hfa hfb hJ hTe hj0 hz hfj hsucc htt hN0 hNX hNl
      go_wp2_with fail
      go_quiet (fail)
      all_goals
        go_wp2_with fail
        have hgne : gT ≠ w1.heap.size := by omega
        go_loopg [7] (J - j0) (fun g av wx => ∃ j : Nat, j + g = J ∧ Hid (j0 ≤ j) ∧ av = .int .i64 ((tp fa fb j : Nat) : Int) ∧ Tab wx w.heap.size gT 13 cT T ∧ Tab wx w1.heap.size w1.heap.size tu.length tu.length (nts (N.set s j)) ∧ Below w.heap.size w wx)
        case atStart => exact ⟨j0, by omega, Nat.le_refl _, rfl, hT.below (below_drewN (Below.refl _ _) _), hN.below (below_drewN (Below.refl _ _) _), below_drewN hB _⟩
        case round =>
          clear hT hN hB hcx hcy hcz p1 p2 p3 hrw
          obtain ⟨j, hjg, HJ0, rfl, hT, hN, hB⟩ := hrel
          have HJG := Lib.hid hjg
          have hjJ : j ≤ J := by omega
          clear hjg
          have htp := tp_lt fa fb j
          obtain ⟨t, hct, ht⟩ := hT.get (k := tp fa fb j) htp
          obtain ⟨z, hcz, hz⟩ := hN.get (k := s) hs
          have hz' : z = (j : Int) := by
            rw [← hz.out, nts_get (by rw [List.length_set, HNL.out]; exact hs)]
            simp only [List.getD]
            rw [List.getElem?_set_self (by rw [HNL.out]; exact hs)]; rfl
          subst hz'
          have hjw : IntKind.i64.wrap ((j : Int) + 1) = (j : Int) + 1 := IntWalk.i64_in _ (by omega)
          have htl : ((tp fa fb j : Nat) : Int) < 13 := by omega
          have hfN := hN.frozen s
          clear hz
          by_cases hjl : j < J
          · have ht0 := HFJ.out.2.2 j hjl
            rw [ht.out] at ht0
            have ht1 : t ≥ 0 := by omega
            have N2 := hN.store s ((j + 1 : Nat) : Int)
            rw [nts_set2] at N2
            have T2 := hT.other7 hgne s (.int .i64 ((j + 1 : Nat) : Int))
            have B2 := hB.setCell (p := ⟨w1.heap.size, s, none⟩) hz1 (.int .i64 ((j + 1 : Nat) : Int))
            obtain ⟨ws, hws⟩ : ∃ ws, ws = wr.setCell ⟨w1.heap.size, s, none⟩ (.int .i64 ((j + 1 : Nat) : Int)) := ⟨_, rfl⟩
            rw [← hws] at N2 T2 B2
            have HWS := Lib.hid (show ws = wr.setCell ⟨w1.heap.size, s, none⟩ (.int .i64 ((j : Int) + 1)) from hws)
            obtain ⟨_, _, x2, y2, e2, _, hcx, hcy, hx2, hy2⟩ := (hr.below B2).get hs
            cases e2
            have hx3 : x2 = (fa : Int) := by rw [← hx2.out]; exact HXA.out
            have hy3 : y2 = (fb : Int) := by rw [← hy2.out]; exact HYB.out
            subst hx3 hy3
            obtain ⟨z2, hcz2, hzz⟩ := N2.get (k := s) hs
            have hz2' : z2 = ((j + 1 : Nat) : Int) := by
              rw [← hzz.out, nts_get (by rw [List.length_set, HNL.out]; exact hs)]
              simp only [List.getD]
              rw [List.getElem?_set_self (by rw [HNL.out]; exact hs)]; rfl
            subst hz2'
            obtain ⟨P1, Q1, p1, p2, p3⟩ := tp_int ha13 hb13 (j := j + 1) (by omega)
            rw [show ((j + 1 : Nat) : Int) = (j : Int) + 1 from rfl] at p1 hcz2
            clear hws ht0 ht hx2 hy2 hzz hB
            go_upto_region 10 with fail
            rw [← HWS.out]
            clear hct hcz hfN hT hN
            go_quiet (fail)
            all_goals
              go_wp2
              go_roundg (gk - 1)
              case measure => have := HJG.out; omega
              case rel => exact ⟨j + 1, by have := HJG.out; omega, by have := HJ0.out; show j0 ≤ j + 1; omega, rfl, T2.below (below_drewN (Below.refl _ _) _), N2.below (below_drewN (Below.refl _ _) _), below_drewN B2 _⟩
          · obtain rfl : j = J := by omega
            have ht0 := HFJ.out.1
            rw [ht.out] at ht0
            have ht1 : ¬ t ≥ 0 := by omega
            have hfT := hT.frozen (tp fa fb j)
            have T2 := hT.store (tp fa fb j) (s : Int)
            rw [← HTT.out] at T2
            have N2 := hN.other7 (fun e => hgne e.symm) (tp fa fb j) (.int .i64 (s : Int))
            have B2 := hB.setCell (p := ⟨gT, tp fa fb j, none⟩) hgT.1 (.int .i64 (s : Int))
            obtain ⟨ws, hws⟩ : ∃ ws, ws = wr.setCell ⟨gT, tp fa fb j, none⟩ (.int .i64 (s : Int)) := ⟨_, rfl⟩
            rw [← hws] at N2 T2 B2
            have HWS := Lib.hid hws
            obtain ⟨z2, hcz2, hzz⟩ := N2.get (k := s) hs
            have hz2' : z2 = (j : Int) := by
              rw [← hzz.out, nts_get (by rw [List.length_set, HNL.out]; exact hs)]
              simp only [List.getD]
              rw [List.getElem?_set_self (by rw [HNL.out]; exact hs)]; rfl
            subst hz2'
            have hfN2 := N2.frozen s
            have N3 := N2.store s ((j + 1 : Nat) : Int)
            rw [nts_set2] at N3
            have T3 := T2.other7 hgne s (.int .i64 ((j + 1 : Nat) : Int))
            have B3 := B2.setCell (p := ⟨w1.heap.size, s, none⟩) hz1 (.int .i64 ((j + 1 : Nat) : Int))
            clear hws ht0 ht hzz hB
            go_upto_region 12 with fail
            rw [← HWS.out]
            clear hct hcz hfN hT hN hfT
            go_wp2
            go_roundw
            case rel => exact ⟨n + 1, N.set s (j + 1), by omega, by go_num, HSU, T3, N3, B3⟩
            case measure => simp [intOf]; omega
    · obtain rfl : n = 13 := by omega
      have ho := hT.own
      go_wp2
      go_ret
      exact ⟨_, rfl, ho, hB⟩

theorem specTurnTable_any (a : Option Addr) (tu : List (Int × Int)) (cap : Nat) (w : World) (hr : ReadsP w a tu) (hl : tu.length ≤ 1048586) :
    Calls Try.prog 44 #[.slice a tu.length cap] w fun e w' => ∃ v, e = .returned v ∧ Own w' w.heap.size v (TT tu) ∧ Below w.heap.size w w' := by
  obtain ⟨R, hR⟩ : ∃ R, R = TT tu := ⟨_, rfl⟩
  rw [← hR]
  have HR := Lib.hid hR
  clear hR
  have cV := specvalidTurns_any a tu cap w hr hl
  by_cases hv : VU tu = true
  · rw [hv] at cV
    have CV := Lib.hid cV
    have e : R = tt tu 13 := by rw [HR.out]; unfold TT; rw [if_pos hv]
    subst e
    have CT := Lib.hid (specturnTable_any a tu cap w hr hv)
    clear cV hv
    go_enter Try.func44, Try.ntmps44
    go_wp2_with fail
    refine CV.out.mono ?_
    rintro e w' ⟨rfl, rfl⟩
    go_wp2_with fail
    refine CT.out.mono ?_
    rintro e w' ⟨v, rfl, ho, hB⟩
    go_wp2
    go_ret
    exact ⟨_, rfl, ho, hB⟩
  · have e : R = [] := by rw [HR.out]; unfold TT; rw [if_neg hv]
    subst e
    rw [show VU tu = false from by simpa using hv] at cV
    have CV := Lib.hid cV
    clear cV hv
    go_enter Try.func44, Try.ntmps44
    go_wp2_with fail
    refine CV.out.mono ?_
    rintro e w' ⟨rfl, rfl⟩
    go_wp2
    go_ret
    exact ⟨_, rfl, Own.nil _ _, Below.refl _ _⟩
end Go.Proofs.Ytbldfhfciihddaa
