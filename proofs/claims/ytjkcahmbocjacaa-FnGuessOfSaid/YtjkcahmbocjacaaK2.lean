/-
  spec.validCounts, spec.GuessOf.
-/
import Derived.Test.YtjkcahmbocjacaaK1
namespace Go.Proofs.Ytjkcahmbocjacaa
open Go.RowKit

set_option maxHeartbeats 4000000 in
theorem specvalidCounts_any (a : Option Addr) (ts : List (List Int)) (cap : Nat) (w : World) (hr : ReadsS w a ts) (hl : bulk ts ≤ 1048586) :
    Calls Try.prog 84 #[.slice a ts.length cap] w fun e w' => e = .returned (.bool (decide (VRw ts))) ∧ ∃ n, w' = w.drewN n := by
  have hblen := bulk_len ts
  obtain ⟨R, hR⟩ : ∃ R, R = decide (VRw ts) := ⟨_, rfl⟩
  rw [← hR]
  have HR := Lib.hid hR
  obtain ⟨N, hN⟩ : ∃ N, N = (tr ts 0).length := ⟨_, rfl⟩
  have HN := Lib.hid hN
  have hNb : 0 < ts.length → N ≤ 1048586 := fun h => by rw [hN]; have := bulk_row h; omega
  have c1 := fun wx => inRange_any (N : Int) 1 16 wx
  obtain ⟨I, hI⟩ : ∃ I, I = inR (N : Int) 1 16 := ⟨_, rfl⟩
  rw [← hI] at c1
  have HI := Lib.hid hI
  have C1 := Lib.hid c1
  clear hR hN c1 hI
  go_enter Try.func84, Try.ntmps84
  go_wp2
  go_loopw [3] (fun jv wr => ∃ j q : Nat, j ≤ ts.length ∧ jv = .int .i64 (j : Int) ∧ Hid (∀ i, i < j → RowOK N (tr ts i) ∧ inR (N : Int) 1 16 = true) ∧ wr = w.drewN q) (fun jv _ => ts.length - (intOf jv).toNat)
  case atStart => exact ⟨0, 0, by omega, rfl, (fun i hi => by omega), rfl⟩
  case round =>
    obtain ⟨j, q, hj, rfl, hok, rfl⟩ := hrel
    by_cases hlt : j < ts.length
    · have hj1 : (j : Int) < (ts.length : Int) := by omega
      have hj0 : (0 : Int) < (ts.length : Int) := by omega
      obtain ⟨b, off, A0, C0, rfl, hb, hc0, _, _⟩ := hr.get (r := 0) (by omega)
      rw [Nat.add_zero, ← HN.out] at hc0
      obtain ⟨A, C, hcj, hrj, hlej⟩ := hr.at_ hlt
      have hbk := bulk_row hlt
      have hNb2 := hNb (by omega)
      obtain ⟨t, ht⟩ : ∃ t, t = tr ts j := ⟨_, rfl⟩
      rw [← ht] at hcj hrj hlej hbk
      have HT := Lib.hid ht
      clear ht
      by_cases hlen : t.length = N
      · rw [hlen] at hcj hlej hbk
        have HL := Lib.hid hlen
        have hne : ((N : Int) != (N : Int)) = false := by simp
        have D1 := Lib.hid (fun n => C1.out (w.drewN n))
        clear hlen
        cases I with
        | false =>
          have e : R = false := by
            rw [HR.out]; refine VRw_false fun h => ?_
            have h2 := h.2.1
            have h3 : inR (N : Int) 1 16 = true := by
              rw [inR_iff, HN.out]
              show 1 ≤ (((ts.getD 0 []).length : Nat) : Int) ∧ (((ts.getD 0 []).length : Nat) : Int) ≤ 16
              omega
            rw [← HI.out] at h3; cases h3
          subst e
          go_wp2_with fail
          go_quiet ((with_reducible first | (go_at_call 75; exact quiet_lf (D1.out _))))
          all_goals
            go_wp2
            go_ret
            exact ⟨rfl, _, by rw [World.drewN_drewN]⟩
        | true =>
          go_wp2_with fail
          go_quiet ((with_reducible first | (go_at_call 75; exact quiet_lf (D1.out _))))
          all_goals
            go_wp2_with fail
            go_loopw [4] (fun kv wr => ∃ k q2 : Nat, k ≤ N ∧ kv = .int .i64 (k : Int) ∧ Hid (∀ i, i < k → 0 ≤ t.getD i 0 ∧ t.getD i 0 ≤ 100) ∧ wr = w.drewN q2) (fun kv _ => N - (intOf kv).toNat)
            case atStart => exact ⟨0, _, by omega, rfl, (fun i hi => by omega), World.drewN_drewN _ _ _⟩
            case round =>
              obtain ⟨k, q2, hk, rfl, hall, rfl⟩ := hrel
              by_cases hltk : k < N
              · have hk1 : (k : Int) < (N : Int) := by omega
                obtain ⟨b2, off2, y, rfl, hb2, hcy, hy⟩ := hrj.get (k := k) (by rw [HL.out]; exact hltk)
                have c2 := fun wx => inRange_any y 0 100 wx
                by_cases g2 : inR y 0 100 = true
                · have g2' := inR_iff.1 g2
                  rw [g2] at c2
                  have C2 := Lib.hid c2
                  have hall2 : Hid (∀ i, i < k + 1 → 0 ≤ t.getD i 0 ∧ t.getD i 0 ≤ 100) := fun i hi => by
                    by_cases e : i = k
                    · subst e; rw [hy.out]; exact g2'
                    · exact hall.out i (by omega)
                  clear c2 g2 hall hy
                  go_wp2_with fail
                  refine (C2.out _).mono ?_
                  rintro e w' ⟨rfl, rfl⟩
                  go_wp2
                  go_roundw
                  case rel => exact ⟨k + 1, q2, by omega, by go_num, hall2, rfl⟩
                  case measure => simp [intOf]; omega
                · have e : R = false := by
                    rw [HR.out]; refine VRw_false fun h => g2 (inR_iff.2 ?_)
                    have := (h.2.2 j hlt).2 k (by rw [show ts.getD j [] = t from HT.out.symm, HL.out]; exact hltk)
                    rw [show ts.getD j [] = t from HT.out.symm, hy.out] at this
                    exact this
                  subst e
                  rw [eq_false_of_ne_true g2] at c2
                  have C2 := Lib.hid c2
                  clear c2 g2 hall hy
                  go_wp2_with fail
                  refine (C2.out _).mono ?_
                  rintro e w' ⟨rfl, rfl⟩
                  go_wp2
                  go_ret
                  exact ⟨rfl, _, rfl⟩
              · obtain rfl : k = N := by omega
                have hok2 : Hid (∀ i, i < j + 1 → RowOK k (tr ts i) ∧ inR (k : Int) 1 16 = true) := fun i hi => by
                  by_cases e : i = j
                  · subst e
                    rw [← HT.out]
                    exact ⟨⟨HL.out, fun x hx => hall.out x (by rw [← HL.out]; exact hx)⟩, HI.out.symm⟩
                  · exact hok.out i (by omega)
                clear hok hall
                go_wp2
                go_roundw
                case rel => exact ⟨j + 1, q2, by omega, by go_num, hok2, rfl⟩
                case measure => simp [intOf]; omega
      · have e : R = false := by
          rw [HR.out]; refine VRw_false fun h => hlen ?_
          have := (h.2.2 j hlt).1
          rw [show ts.getD j [] = t from HT.out.symm] at this
          rw [this, HN.out]; rfl
        subst e
        have hne : ((t.length : Int) != (N : Int)) = true := by simp; omega
        clear hlen
        go_wp2_with fail
        go_quiet (fail)
        all_goals
          go_wp2
          go_ret
          exact ⟨rfl, _, by rw [World.drewN_drewN]⟩
    · obtain rfl : j = ts.length := by omega
      have c2 := fun wx => inRange_any (ts.length : Int) 1 4 wx
      have e : R = inR (ts.length : Int) 1 4 := by
        rw [HR.out, Bool.eq_iff_iff, decide_eq_true_eq, inR_iff]
        constructor
        · intro h; have := h.1; omega
        · intro h
          have h0 := hok.out 0 (by omega)
          have h16 := h0.2
          rw [inR_iff] at h16
          refine ⟨by omega, ?_, fun i hi => ?_⟩
          · have := HN.out
            show 1 ≤ (tr ts 0).length ∧ (tr ts 0).length ≤ 16
            omega
          · show RowOK (tr ts 0).length (tr ts i)
            rw [← HN.out]; exact (hok.out i hi).1
      rw [← e] at c2
      have C2 := Lib.hid c2
      clear c2 e
      go_wp2_with fail
      refine (C2.out _).mono ?_
      rintro e w' ⟨rfl, rfl⟩
      go_wp2
      go_ret
      exact ⟨rfl, _, rfl⟩

set_option maxHeartbeats 4000000 in
theorem specGuessOf_any (a : Option Addr) (ts : List (List Int)) (cap : Nat) (key : Int) (w : World) (hr : ReadsS w a ts) (hl : bulk ts ≤ 1048586) (_hk : In64 key) :
    Calls Try.prog 46 #[.slice a ts.length cap, .int .i64 key] w fun e w' => e = .returned (.int .i64 (GSO ts key)) ∧ Below w.heap.size w w' := by
  have c1 := specvalidCounts_any a ts cap w hr hl
  have c2 := fun wx => inRange_any key 0 30 wx
  have hK : inR key 0 30 = KR key := (KR_eq key).symm
  rw [hK] at c2
  obtain ⟨R, hR⟩ : ∃ R, R = GSO ts key := ⟨_, rfl⟩
  rw [← hR]
  by_cases g1 : VRw ts
  · rw [decide_eq_true g1] at c1
    have C1 := Lib.hid c1
    by_cases g2 : KR key = true
    · obtain ⟨k0, k1⟩ := KR_iff.1 g2
      rw [g2] at c2
      have C2 := Lib.hid c2
      have e : R = gm ts key ts.length := by rw [hR]; unfold GSO; rw [if_pos ⟨g1, g2⟩]
      have HR := Lib.hid e
      have H1 := Lib.hid g1
      have hlen := g1.1
      have hN := g1.2.1
      obtain ⟨N, hNN⟩ : ∃ N, N = (ts.getD 0 []).length := ⟨_, rfl⟩
      rw [← hNN] at hN
      have HN := Lib.hid hNN
      clear c1 c2 g1 g2 e hR hNN hK
      go_enter Try.func46, Try.ntmps46
      go_wp2_with fail
      refine C1.out.mono ?_
      rintro e w' ⟨rfl, q0, rfl⟩
      go_wp2_with fail
      refine (C2.out _).mono ?_
      rintro e w' ⟨rfl, rfl⟩
      go_wp2_with fail
      go_loopw [5, 6] (fun gv jv wr => ∃ (j q : Nat) (g : Int), j ≤ ts.length ∧ jv = .int .i64 (j : Int) ∧ gv = .int .i64 g ∧ Hid (g = gm ts key j) ∧ wr = w.drewN q) (fun _ jv _ => ts.length - (intOf jv).toNat)
      case atStart => exact ⟨0, q0, 100, by omega, rfl, rfl, rfl, rfl⟩
      case round =>
        obtain ⟨j, q, g, hj, rfl, rfl, hg, rfl⟩ := hrel
        by_cases hlt : j < ts.length
        · have hj1 : (j : Int) < (ts.length : Int) := by omega
          obtain ⟨b, off, A, C, rfl, hb, hcj, hrj, hlej⟩ := hr.get hlt
          obtain ⟨t, ht⟩ : ∃ t, t = tr ts j := ⟨_, rfl⟩
          have hrow := (H1.out.2.2 j hlt).1
          have e1 : ts.getD j [] = t := ht.symm
          rw [e1, ← HN.out] at hrow
          rw [← ht] at hcj hrj hlej
          rw [hrow] at hcj hlej
          have hrg := hs_range (a := (j : Int) + 1) (b := (j : Int)) (m := (N : Int)) (k := key) (by omega)
          obtain ⟨p, hp⟩ : ∃ p : Nat, (p : Int) = hs ((j : Int) + 1) j N key := ⟨(hs ((j : Int) + 1) j N key).toNat, by omega⟩
          have ch := fun wx => hash_any ((j : Int) + 1) (j : Int) (N : Int) key wx (by omega) (by omega) (by omega) (by omega) (by omega) (by omega) k0 k1
          rw [← hp] at ch hrg
          have hst := gm_step (key := key) ht hrow hp
          obtain ⟨b2', off2, y2, rfl, hb2, hcy, hyy⟩ := hrj.get (k := p) (by rw [hrow]; omega)
          rw [hyy.out, ← hg.out] at hst
          have hpN : p < N := by omega
          have hp0 : (p : Int) < (N : Int) := by omega
          have HST := Lib.hid hst
          have CH := Lib.hid (fun n => ch (w.drewN n))
          clear ch hst hp hrg ht e1 hrow hyy hrj
          by_cases hc : y2 < g
          · have hg2 : Hid (y2 = gm ts key (j + 1)) := by show _ = _; rw [HST.out]; omega
            go_wp2_with fail
            go_quiet ((with_reducible first | (go_at_call 81; exact quiet_lf (CH.out _))))
            all_goals
              go_wp2
              go_roundw
              case rel => exact ⟨j + 1, _, y2, by omega, by go_num, rfl, hg2, by first | rfl | rw [World.drewN_drewN]⟩
              case measure => simp [intOf]; omega
          · have hg2 : Hid (g = gm ts key (j + 1)) := by show _ = _; rw [HST.out]; omega
            go_wp2_with fail
            go_quiet ((with_reducible first | (go_at_call 81; exact quiet_lf (CH.out _))))
            all_goals
              go_wp2
              go_roundw
              case rel => exact ⟨j + 1, _, g, by omega, by go_num, rfl, hg2, by first | rfl | rw [World.drewN_drewN]⟩
              case measure => simp [intOf]; omega
        · obtain rfl : j = ts.length := by omega
          go_wp2
          go_ret
          exact ⟨ret_int (by rw [HR.out, hg.out]), below_drewN (Below.refl _ _) _⟩
    · have e : R = -1 := by rw [hR]; unfold GSO; rw [if_neg (fun h => g2 h.2)]
      subst e
      rw [eq_false_of_ne_true g2] at c2
      have C2 := Lib.hid c2
      clear c1 c2 g1 g2 hR hK
      go_enter Try.func46, Try.ntmps46
      go_wp2_with fail
      refine C1.out.mono ?_
      rintro e w' ⟨rfl, q0, rfl⟩
      go_wp2_with fail
      refine (C2.out _).mono ?_
      rintro e w' ⟨rfl, rfl⟩
      go_wp2
      go_ret
      exact ⟨rfl, below_drewN (Below.refl _ _) _⟩
  · have e : R = -1 := by rw [hR]; unfold GSO; rw [if_neg (fun h => g1 h.1)]
    subst e
    rw [decide_eq_false g1] at c1
    have C1 := Lib.hid c1
    clear c1 c2 g1 hR hK
    go_enter Try.func46, Try.ntmps46
    go_wp2_with fail
    refine C1.out.mono ?_
    rintro e w' ⟨rfl, q0, rfl⟩
    go_wp2
    go_ret
    exact ⟨rfl, below_drewN (Below.refl _ _) _⟩
end Go.Proofs.Ytjkcahmbocjacaa
