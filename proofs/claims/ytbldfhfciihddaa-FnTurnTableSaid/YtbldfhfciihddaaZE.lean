/-
  impl.validTurns, Turn.slotIn, TurnTable.
-/
import Derived.Test.YtbldfhfciihddaaZD
namespace Go.Proofs.Ytbldfhfciihddaa
open Go.RowKit

set_option maxHeartbeats 2000000 in
theorem implvalidTurns_any (a : Option Addr) (l : List (Int × Int)) (cap : Nat) (w : World) (hr : ReadsP w a l) :
    Calls Try.prog 71 #[.slice a l.length cap] w fun e w' => e = .returned (.bool (VU l)) ∧ Below w.heap.size w w' := by
  obtain ⟨R, hR⟩ : ∃ R, R = VU l := ⟨_, rfl⟩
  rw [← hR]
  have HR := Lib.hid hR
  clear hR
  by_cases h1 : l.length < 1
  · have e : R = false := by rw [HR.out]; exact VU_false fun h => by have := h.1; omega
    subst e
    have h1' : (l.length : Int) < 1 := by omega
    go_enter Try.func71, Try.ntmps71
    go_wp2
    go_ret
    exact ⟨rfl, Below.refl _ _⟩
  have h1' : ¬ (l.length : Int) < 1 := by omega
  by_cases h2 : 6 < l.length
  · have e : R = false := by rw [HR.out]; exact VU_false fun h => by have := h.2.1; omega
    subst e
    have h2' : (l.length : Int) > 6 := by omega
    go_enter Try.func71, Try.ntmps71
    go_wp2
    go_ret
    exact ⟨rfl, Below.refl _ _⟩
  have h2' : ¬ (l.length : Int) > 6 := by omega
  go_enter Try.func71, Try.ntmps71
  go_wp2
  go_loopw [15] (fun i wr => ∃ k : Nat, k ≤ l.length ∧ i = .int .i64 k ∧ Hid (FitU l k) ∧ Below w.heap.size w wr) (fun i _ => l.length - (intOf i).toNat)
  case atStart => exact ⟨0, Nat.zero_le _, rfl, FitU.zero _, Below.refl _ _⟩
  case round =>
    obtain ⟨k, hk, rfl, hf, hb⟩ := hrel
    have hs := hb.size
    by_cases hlt : k < l.length
    · obtain ⟨b, off, x, y, rfl, hbb, hcx, hcy, hx, hy⟩ := hr.get hlt
      have c1 : wr.cell? ⟨b, off + k * 2, none⟩ = some (.int .i64 x) := (hb.cell (by exact hbb)).trans hcx
      have c2 : wr.cell? ⟨b, off + k * 2 + 1, none⟩ = some (.int .i64 y) := (hb.cell (by exact hbb)).trans hcy
      have hb2 := hb.alloc hs (.cells #[.int .i64 x, .int .i64 y] 65)
      have HX := Lib.hid (show (l.getD k (0, 0)).1 = x from hx.out)
      have HY := Lib.hid (show (l.getD k (0, 0)).2 = y from hy.out)
      clear hcx hcy hx hy
      by_cases g1 : 0 ≤ x ∧ x < 13
      · have e1 : (decide (0 ≤ x) && decide (x < 13)) = true := by simp [g1]
        by_cases g2 : 0 ≤ y ∧ y < 13
        · have e2 : (decide (0 ≤ y) && decide (y < 13)) = true := by simp [g2]
          have E1 := Lib.hid e1
          have E2 := Lib.hid e2
          clear e1 e2
          by_cases g3 : y = 0
          · have hd : (y == 0) = true := by simp [g3]
            have e : R = false := by
              rw [HR.out]; refine VU_false fun h => ?_
              have := h.2.2 k hlt
              rw [HY.out] at this; omega
            subst e
            clear g3
            go_wp2_with fail
            refine (isSlotR_any _ _ _).mono ?_
            rintro e w' ⟨rfl, rfl⟩
            rw [E1.out]
            go_wp2_with fail
            refine (isSlotR_any _ _ _).mono ?_
            rintro e w' ⟨rfl, rfl⟩
            rw [E2.out]
            go_wp2
            go_ret
            exact ⟨rfl, hb2⟩
          · have hd : (y == 0) = false := by simpa using g3
            have HF := Lib.hid (show FitU l (k + 1) from hf.out.succ (by rw [HX.out]; omega) (by rw [HX.out]; omega) (by rw [HY.out]; omega) (by rw [HY.out]; omega))
            clear g3
            go_wp2_with fail
            refine (isSlotR_any _ _ _).mono ?_
            rintro e w' ⟨rfl, rfl⟩
            rw [E1.out]
            go_wp2_with fail
            refine (isSlotR_any _ _ _).mono ?_
            rintro e w' ⟨rfl, rfl⟩
            rw [E2.out]
            go_wp2
            go_roundw
            case rel => exact ⟨k + 1, by omega, by go_num, HF, hb2⟩
            case measure => simp [intOf]; omega
        · have e2 : (decide (0 ≤ y) && decide (y < 13)) = false := by simp; omega
          have e : R = false := by
            rw [HR.out]; refine VU_false fun h => ?_
            have := h.2.2 k hlt
            rw [HY.out] at this; omega
          subst e
          have E1 := Lib.hid e1
          have E2 := Lib.hid e2
          clear e1 e2
          go_wp2_with fail
          refine (isSlotR_any _ _ _).mono ?_
          rintro e w' ⟨rfl, rfl⟩
          rw [E1.out]
          go_wp2_with fail
          refine (isSlotR_any _ _ _).mono ?_
          rintro e w' ⟨rfl, rfl⟩
          rw [E2.out]
          go_wp2
          go_ret
          exact ⟨rfl, hb2⟩
      · have e1 : (decide (0 ≤ x) && decide (x < 13)) = false := by simp; omega
        have e : R = false := by
          rw [HR.out]; refine VU_false fun h => ?_
          have := h.2.2 k hlt
          rw [HX.out] at this; omega
        subst e
        have E1 := Lib.hid e1
        clear e1
        go_wp2_with fail
        refine (isSlotR_any _ _ _).mono ?_
        rintro e w' ⟨rfl, rfl⟩
        rw [E1.out]
        go_wp2
        go_ret
        exact ⟨rfl, hb2⟩
    · obtain rfl : k = l.length := by omega
      have e : R = true := by rw [HR.out]; exact VU_iff.2 ⟨by omega, by omega, hf.out⟩
      subst e
      go_wp2
      go_ret
      exact ⟨rfl, hb⟩

set_option maxHeartbeats 2000000 in
theorem slotIn_any (gT cT base fa fb J : Nat) (T : List Int) (w : World) (hT : Tab w base gT 13 cT T) (ha : fa < 13) (hb : fb < 13) (hJ : J < 13) (h1 : T.getD (tp fa fb J) 0 < 0) (h2 : ∀ i, i < J → ¬ T.getD (tp fa fb i) 0 < 0) (h3 : ∀ i, i < 13 → -1 ≤ T.getD i 0) :
    Calls Try.prog 73 #[.agg #[.int .i64 (fa : Int), .int .i64 (fb : Int)], .slice (some ⟨gT, 0, none⟩) 13 cT] w fun e w' => e = .returned (.int .i64 ((tp fa fb J : Nat) : Int)) ∧ Below w.heap.size w w' := by
  have bA := (Below.refl w.heap.size w).alloc (Nat.le_refl _) (.cells #[.int .i64 (fa : Int), .int .i64 (fb : Int)] 65)
  have hTA := hT.below bA
  have c0 : (w.alloc (.cells #[.int .i64 (fa : Int), .int .i64 (fb : Int)] 65)).cell? ⟨w.heap.size, 0, none⟩ = some (.int .i64 (fa : Int)) := by simp
  have c1 : (w.alloc (.cells #[.int .i64 (fa : Int), .int .i64 (fb : Int)] 65)).cell? ⟨w.heap.size, 1, none⟩ = some (.int .i64 (fb : Int)) := by simp
  obtain ⟨wA, hwA⟩ : ∃ wA, wA = w.alloc (.cells #[.int .i64 (fa : Int), .int .i64 (fb : Int)] 65) := ⟨_, rfl⟩
  rw [← hwA] at bA hTA c0 c1
  have HWA := Lib.hid hwA
  have H1 := Lib.hid h1
  have H2 := Lib.hid h2
  have H3 := Lib.hid h3
  have ht0 : tp fa fb 0 = fa := by unfold tp; omega
  have HT0 := Lib.hid ht0
  clear hwA h1 h2 h3 ht0 hT
  go_enter Try.func73, Try.ntmps73
  go_wp2_with fail
  rw [← HWA.out]
  go_loopg [5] J (fun g sv wr => ∃ j : Nat, j + g = J ∧ sv = .int .i64 ((tp fa fb j : Nat) : Int) ∧ wr = wA)
  case atStart => exact ⟨0, by omega, by rw [HT0.out], rfl⟩
  case round =>
    obtain ⟨j, hjg, rfl, rfl⟩ := hrel
    have HJG := Lib.hid hjg
    have hjJ : j ≤ J := by omega
    have htp := tp_lt fa fb j
    obtain ⟨t, hct, ht⟩ := hTA.get (k := tp fa fb j) htp
    have htl : ((tp fa fb j : Nat) : Int) < 13 := by omega
    have hge := H3.out (tp fa fb j) htp
    rw [ht.out] at hge
    clear hjg
    by_cases hjl : j < J
    · have hno := H2.out j hjl
      rw [ht.out] at hno
      have hne : (t != -1) = true := by simp; omega
      have hs := tp_succ fa fb j
      obtain ⟨u, hu⟩ : ∃ u, u = tp fa fb j := ⟨_, rfl⟩
      rw [← hu] at hs hct htl htp ⊢
      have hw1 : IntKind.i64.wrap ((u : Int) + (fb : Int)) = ((u + fb : Nat) : Int) := by rw [← Int.natCast_add]; exact IntWalk.i64_in _ (by omega)
      have hw2 := tmod_nat (u + fb) 13
      rw [show ((13 : Nat) : Int) = 13 from rfl, ← hs] at hw2
      clear hs hu ht hno
      go_wp2
      go_roundg (gk - 1)
      case measure => have := HJG.out; omega
      case rel => exact ⟨j + 1, by have := HJG.out; omega, by first | rfl | (congr 1), rfl⟩
    · obtain rfl : j = J := by omega
      have hno := H1.out
      rw [ht.out] at hno
      obtain rfl : t = -1 := by omega
      clear ht hno
      go_wp2
      go_ret
      exact ⟨rfl, bA⟩

set_option maxHeartbeats 4000000 in
set_option maxRecDepth 100000 in
theorem implTurnTable_any (a : Option Addr) (tu : List (Int × Int)) (cap : Nat) (w : World) (hr : ReadsP w a tu) (hl : tu.length ≤ 1048586) :
    Calls Try.prog 43 #[.slice a tu.length cap] w fun e w' => ∃ v, e = .returned v ∧ Own w' w.heap.size v (TT tu) ∧ Below w.heap.size w w' := by
  obtain ⟨R, hR⟩ : ∃ R, R = TT tu := ⟨_, rfl⟩
  rw [← hR]
  have HR := Lib.hid hR
  clear hR
  have cV := implvalidTurns_any a tu cap w hr
  by_cases hv : VU tu = true
  rotate_left
  · have e : R = [] := by rw [HR.out]; unfold TT; rw [if_neg hv]
    subst e
    rw [show VU tu = false from by simpa using hv] at cV
    have CV := Lib.hid cV
    clear cV hv
    go_enter Try.func43, Try.ntmps43
    go_wp2_with fail
    refine CV.out.mono ?_
    rintro e w' ⟨rfl, hB⟩
    go_wp2
    go_ret
    exact ⟨_, rfl, Own.nil _ _, hB⟩
  rw [hv] at cV
  have CV := Lib.hid cV
  have e : R = tt tu 13 := by rw [HR.out]; unfold TT; rw [if_pos hv]
  subst e
  have hl1 := (VU_iff.1 hv).1
  have hl6 := (VU_iff.1 hv).2.1
  have HV := Lib.hid hv
  clear cV hv
  go_enter Try.func43, Try.ntmps43
  go_wp2_with fail
  refine CV.out.mono ?_
  rintro e w1 ⟨rfl, b1⟩
  have hz1 := b1.size
  have bA := b1.alloc hz1 (.cells #[.int .i64 (-1)] 3)
  have CR := Lib.hid (repeat_any w1.heap.size (w1.alloc (.cells #[.int .i64 (-1)] 3)) (by simp))
  go_wp2_with fail
  refine CR.out.mono ?_
  rintro e w2 ⟨v2, rfl, ho2, b2⟩
  obtain ⟨gT, cT, rfl, hT2⟩ := ho2.tab (by simp)
  have B2 := bA.trans (b2.mono bA.size)
  rw [List.length_replicate]
  rw [List.length_replicate] at hT2
  have h0 : ((List.replicate 13 (-1) : List Int)) = tt tu 0 := rfl
  rw [h0] at hT2
  have hgT : w.heap.size ≤ gT := by
    have := hT2.block.1
    rw [World.size_alloc] at this
    omega
  have hT3 : Tab w2 w.heap.size gT 13 cT (tt tu 0) := by
    have := hT2.own.mono (show w.heap.size ≤ _ from Nat.le_trans hz1 (by rw [World.size_alloc]; omega))
    unfold Own at this
    rw [tt_len] at this
    exact this
  have hL0 : ¬ tu.length = 0 := by omega
  clear ho2 b2 CR CV h0 hT2 bA b1
  go_wp2_with fail
  go_loopw [13] (fun nv wr => ∃ n : Nat, n ≤ 13 ∧ nv = .int .i64 n ∧ Tab wr w.heap.size gT 13 cT (tt tu n) ∧ Below w.heap.size w wr) (fun nv _ => 13 - (intOf nv).toNat)
  case atStart => exact ⟨0, by omega, rfl, hT3, B2⟩
  case round =>
    clear hT3 B2
    obtain ⟨n, hn, rfl, hT, hB⟩ := hrel
    by_cases hlt : n < 13
    · have hn1 : (n : Int) < 13 := by omega
      have hrw := hr.below hB
      have hs := VU_mod HV.out n
      have hmod := tmod_nat n tu.length
      have hfj := tt_fj HV.out hlt
      have hcell := tt_cell HV.out n
      have htt : tt tu (n + 1) = (tt tu n).set (tp (tfr tu (n % tu.length)) (tsk tu (n % tu.length)) (fj (tt tu n) (tfr tu (n % tu.length)) (tsk tu (n % tu.length)))) ((n % tu.length : Nat) : Int) := rfl
      obtain ⟨s, hse⟩ : ∃ s, s = n % tu.length := ⟨_, rfl⟩
      rw [← hse] at hs hmod hfj htt
      obtain ⟨hx1, hy1, ha13, hb13, hb0⟩ := VU_get HV.out hs
      obtain ⟨b, off, x, y, rfl, hbb, hcx, hcy, hx, hy⟩ := hrw.get hs
      have hx' : x = (tfr tu s : Int) := by rw [← hx.out]; exact hx1
      have hy' : y = (tsk tu s : Int) := by rw [← hy.out]; exact hy1
      obtain ⟨fa, hfa⟩ : ∃ f, f = tfr tu s := ⟨_, rfl⟩
      obtain ⟨fb, hfb⟩ : ∃ f, f = tsk tu s := ⟨_, rfl⟩
      rw [← hfa] at hx' ha13 hfj htt
      rw [← hfb] at hy' hb13 hb0 hfj htt
      subst hx' hy'
      obtain ⟨J, hJ⟩ : ∃ J, J = fj (tt tu n) fa fb := ⟨_, rfl⟩
      rw [← hJ] at hfj htt
      obtain ⟨T, hTe⟩ : ∃ T, T = tt tu n := ⟨_, rfl⟩
      rw [← hTe] at hT hfj htt hcell
      have cS := slotIn_any gT cT w.heap.size fa fb J T wr hT ha13 hb13 hfj.2.1 hfj.1 hfj.2.2 (fun i hi => (hcell i hi).1)
      have htp := tp_lt fa fb J
      obtain ⟨u, hu⟩ : ∃ u, u = tp fa fb J := ⟨_, rfl⟩
      rw [← hu] at htt cS htp
      have CS := Lib.hid cS
      have HTT := Lib.hid htt
      have hsl : (s : Int) < (tu.length : Int) := by omega
      have hul : (u : Int) < 13 := by omega
      clear hse hx hy hx1 hy1 hfa hfb hJ hTe hfj htt hcell cS hu
      go_wp2_with fail
      refine CS.out.mono ?_
      rintro e w5 ⟨rfl, b5⟩
      have T5 := hT.below b5
      have B5 := hB.trans (b5.mono hB.size)
      obtain ⟨z0, hcz, _⟩ := T5.get (k := u) htp
      have hfz := T5.frozen u
      have T6 := T5.store u (s : Int)
      rw [← HTT.out] at T6
      have B6 := B5.setCell (p := ⟨gT, u, none⟩) hgT (.int .i64 (s : Int))
      clear hT hB T5 B5
      go_wp2
      go_roundw
      case rel => exact ⟨n + 1, by omega, by go_num, T6, B6⟩
      case measure => simp [intOf]; omega
    · obtain rfl : n = 13 := by omega
      have ho := hT.own
      go_wp2
      go_ret
      exact ⟨_, rfl, ho, hB⟩
end Go.Proofs.Ytbldfhfciihddaa
