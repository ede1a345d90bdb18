/-
  slices.Min, slices.Max, impl.validRows, impl.GuessOf.
-/
import Derived.Test.YtjkcahmbocjacaaJ1
import Derived.Test.YtjkcahmbocjacaaTb
namespace Go.Proofs.Ytjkcahmbocjacaa
open Go.RowKit

set_option maxHeartbeats 1000000 in
theorem slMin_any (a : Option Addr) (l : List Int) (n cap : Nat) (w : World) (hr : Reads w a l) (hn : l.length = n) (h0 : 1 ≤ n) (hl : n ≤ 1048586) :
    Calls Try.prog 98 #[.slice a n cap] w fun e w' => (∃ m : Int, e = .returned (.int .i64 m) ∧ (∃ i, i < n ∧ l.getD i 0 = m) ∧ ∀ i, i < n → m ≤ l.getD i 0) ∧ w = w' := by
  subst hn
  have g0 : ¬ (l.length : Int) < 1 := by omega
  have g1 : (0 : Int) < (l.length : Int) := by omega
  obtain ⟨b, off, y0, rfl, hb, hc0, hy0⟩ := hr.get (k := 0) (by omega)
  rw [Nat.add_zero] at hc0
  go_enter Try.func98, Try.ntmps98
  go_wp2
  go_loop [3, 4] (fun mv iv => ∃ (k : Nat) (m : Int), 1 ≤ k ∧ k ≤ l.length ∧ iv = .int .i64 (k : Int) ∧ mv = .int .i64 m ∧ Hid (∃ i, i < k ∧ l.getD i 0 = m) ∧ Hid (∀ i, i < k → m ≤ l.getD i 0)) (fun _ iv => l.length - (intOf iv).toNat)
  case atStart => exact ⟨1, y0, by omega, by omega, rfl, rfl, ⟨0, by omega, hy0.out⟩, fun i hi => by obtain rfl : i = 0 := (by omega); rw [hy0.out]; exact Int.le_refl _⟩
  case round =>
    obtain ⟨k, m, hk1, hk, rfl, rfl, hex, hall⟩ := hrel
    by_cases hlt : k < l.length
    · obtain ⟨y, hcell, hy⟩ := hr.at_ hlt
      have hi1 : (k : Int) < (l.length : Int) := by omega
      by_cases hc : y < m
      · have hex2 : Hid (∃ i, i < k + 1 ∧ l.getD i 0 = y) := ⟨k, by omega, hy.out⟩
        have hall2 : Hid (∀ i, i < k + 1 → y ≤ l.getD i 0) := fun i hi => by
          by_cases e : i = k
          · subst e; rw [hy.out]; exact Int.le_refl _
          · have := hall.out i (by omega); omega
        clear hex hall hy
        go_wp2
        go_round
        case rel => exact ⟨k + 1, y, by omega, by omega, by go_num, rfl, hex2, hall2⟩
        case measure => simp [intOf]; omega
      · have hex2 : Hid (∃ i, i < k + 1 ∧ l.getD i 0 = m) := by obtain ⟨i, hi, e⟩ := hex.out; exact ⟨i, by omega, e⟩
        have hall2 : Hid (∀ i, i < k + 1 → m ≤ l.getD i 0) := fun i hi => by
          by_cases e : i = k
          · subst e; rw [hy.out]; omega
          · exact hall.out i (by omega)
        clear hex hall hy
        go_wp2
        go_round
        case rel => exact ⟨k + 1, m, by omega, by omega, by go_num, rfl, hex2, hall2⟩
        case measure => simp [intOf]; omega
    · obtain rfl : k = l.length := by omega
      go_wp2
      go_ret
      exact ⟨⟨m, rfl, hex.out, hall.out⟩, rfl⟩
set_option maxHeartbeats 1000000 in
theorem slMax_any (a : Option Addr) (l : List Int) (n cap : Nat) (w : World) (hr : Reads w a l) (hn : l.length = n) (h0 : 1 ≤ n) (hl : n ≤ 1048586) :
    Calls Try.prog 99 #[.slice a n cap] w fun e w' => (∃ m : Int, e = .returned (.int .i64 m) ∧ (∃ i, i < n ∧ l.getD i 0 = m) ∧ ∀ i, i < n → l.getD i 0 ≤ m) ∧ w = w' := by
  subst hn
  have g0 : ¬ (l.length : Int) < 1 := by omega
  have g1 : (0 : Int) < (l.length : Int) := by omega
  obtain ⟨b, off, y0, rfl, hb, hc0, hy0⟩ := hr.get (k := 0) (by omega)
  rw [Nat.add_zero] at hc0
  go_enter Try.func99, Try.ntmps99
  go_wp2
  go_loop [3, 4] (fun mv iv => ∃ (k : Nat) (m : Int), 1 ≤ k ∧ k ≤ l.length ∧ iv = .int .i64 (k : Int) ∧ mv = .int .i64 m ∧ Hid (∃ i, i < k ∧ l.getD i 0 = m) ∧ Hid (∀ i, i < k → l.getD i 0 ≤ m)) (fun _ iv => l.length - (intOf iv).toNat)
  case atStart => exact ⟨1, y0, by omega, by omega, rfl, rfl, ⟨0, by omega, hy0.out⟩, fun i hi => by obtain rfl : i = 0 := (by omega); rw [hy0.out]; exact Int.le_refl _⟩
  case round =>
    obtain ⟨k, m, hk1, hk, rfl, rfl, hex, hall⟩ := hrel
    by_cases hlt : k < l.length
    · obtain ⟨y, hcell, hy⟩ := hr.at_ hlt
      have hi1 : (k : Int) < (l.length : Int) := by omega
      by_cases hc : m < y
      · have hex2 : Hid (∃ i, i < k + 1 ∧ l.getD i 0 = y) := ⟨k, by omega, hy.out⟩
        have hall2 : Hid (∀ i, i < k + 1 → l.getD i 0 ≤ y) := fun i hi => by
          by_cases e : i = k
          · subst e; rw [hy.out]; exact Int.le_refl _
          · have := hall.out i (by omega); omega
        clear hex hall hy
        go_wp2
        go_round
        case rel => exact ⟨k + 1, y, by omega, by omega, by go_num, rfl, hex2, hall2⟩
        case measure => simp [intOf]; omega
      · have hex2 : Hid (∃ i, i < k + 1 ∧ l.getD i 0 = m) := by obtain ⟨i, hi, e⟩ := hex.out; exact ⟨i, by omega, e⟩
        have hall2 : Hid (∀ i, i < k + 1 → l.getD i 0 ≤ m) := fun i hi => by
          by_cases e : i = k
          · subst e; rw [hy.out]; omega
          · exact hall.out i (by omega)
        clear hex hall hy
        go_wp2
        go_round
        case rel => exact ⟨k + 1, m, by omega, by omega, by go_num, rfl, hex2, hall2⟩
        case measure => simp [intOf]; omega
    · obtain rfl : k = l.length := by omega
      go_wp2
      go_ret
      exact ⟨⟨m, rfl, hex.out, hall.out⟩, rfl⟩

theorem VRw_false {rows : List (List Int)} (h : ¬ VRw rows) : decide (VRw rows) = false := by simpa using h
set_option maxHeartbeats 4000000 in
theorem implvalidRows_any (a : Option Addr) (ts : List (List Int)) (cap : Nat) (w : World) (hr : ReadsS w a ts) (hl : bulk ts ≤ 1048586) :
    Calls Try.prog 82 #[.slice a ts.length cap] w fun e w' => e = .returned (.bool (decide (VRw ts))) ∧ w = w' := by
  obtain ⟨R, hR⟩ : ∃ R, R = decide (VRw ts) := ⟨_, rfl⟩
  rw [← hR]
  have c1 := fun wx => isWays_any (ts.length : Int) wx
  by_cases g1 : inR (ts.length : Int) 1 4 = true
  · have g1' := inR_iff.1 g1
    rw [g1] at c1
    obtain ⟨b, off, A0, C0, rfl, hb, hc0, hr0, hle0⟩ := hr.get (r := 0) (by omega)
    rw [Nat.add_zero] at hc0
    have c2 := fun wx => isBits_any ((tr ts 0).length : Int) wx
    obtain ⟨N, hN⟩ : ∃ N, N = (tr ts 0).length := ⟨_, rfl⟩
    rw [← hN] at c2 hc0
    have i0 : (0 : Int) < (ts.length : Int) := by omega
    have C1 := Lib.hid c1
    by_cases g2 : inR (N : Int) 1 16 = true
    · have g2' := inR_iff.1 g2
      rw [g2] at c2
      have C2 := Lib.hid c2
      have HR := Lib.hid hR
      have HN := Lib.hid hN
      clear c1 c2 g1 g2 hR hN hr0 hle0
      go_enter Try.func82, Try.ntmps82
      go_wp2_with fail
      refine (C1.out _).mono ?_
      rintro e w' ⟨rfl, rfl⟩
      go_wp2_with fail
      refine (C2.out _).mono ?_
      rintro e w' ⟨rfl, rfl⟩
      go_wp2_with fail
      go_loop [19] (fun jv => ∃ j : Nat, j ≤ ts.length ∧ jv = .int .i64 (j : Int) ∧ Hid (∀ i, i < j → RowOK N (tr ts i))) (fun jv => ts.length - (intOf jv).toNat)
      case atStart => exact ⟨0, by omega, rfl, fun i hi => by omega⟩
      case round =>
        obtain ⟨j, hj, rfl, hok⟩ := hrel
        by_cases hlt : j < ts.length
        · have hj1 : (j : Int) < (ts.length : Int) := by omega
          obtain ⟨A, C, hcj, hrj, hlej⟩ := hr.at_ hlt
          have hbk := bulk_row hlt
          obtain ⟨t, ht⟩ : ∃ t, t = tr ts j := ⟨_, rfl⟩
          rw [← ht] at hcj hrj hlej hbk
          have HT := Lib.hid ht
          clear ht
          by_cases hlen : t.length = N
          · rw [hlen] at hcj hlej hbk
            have HL := Lib.hid hlen
            have cmin := fun wx (h : Reads wx A t) => slMin_any A t N C wx h HL.out (by omega) (by omega)
            have cmax := fun wx (h : Reads wx A t) => slMax_any A t N C wx h HL.out (by omega) (by omega)
            have CMIN := Lib.hid cmin
            have CMAX := Lib.hid cmax
            have hne : ((N : Int) != (N : Int)) = false := by simp
            clear cmin cmax hlen
            go_wp2_with fail
            refine (CMIN.out _ hrj).mono ?_
            rintro e w' ⟨⟨mn, rfl, hme, hma⟩, rfl⟩
            have HME := Lib.hid hme
            have HMA := Lib.hid hma
            clear hme hma
            by_cases hneg : mn < 0
            · have e : R = false := by
                rw [HR.out]; refine VRw_false fun h => ?_
                obtain ⟨i, hi, e⟩ := HME.out
                have := ((h.2.2 j hlt).2 i (by rw [show ts.getD j [] = t from HT.out.symm, HL.out]; exact hi)).1
                rw [show ts.getD j [] = t from HT.out.symm] at this
                omega
              subst e
              go_wp2
              go_ret
              exact ⟨rfl, rfl⟩
            · go_wp2_with fail
              refine (CMAX.out _ hrj).mono ?_
              rintro e w' ⟨⟨mx, rfl, hxe, hxa⟩, rfl⟩
              have HXE := Lib.hid hxe
              have HXA := Lib.hid hxa
              clear hxe hxa
              by_cases hbig : mx > 100
              · have e : R = false := by
                  rw [HR.out]; refine VRw_false fun h => ?_
                  obtain ⟨i, hi, e⟩ := HXE.out
                  have := ((h.2.2 j hlt).2 i (by rw [show ts.getD j [] = t from HT.out.symm, HL.out]; exact hi)).2
                  rw [show ts.getD j [] = t from HT.out.symm] at this
                  omega
                subst e
                go_wp2
                go_ret
                exact ⟨rfl, rfl⟩
              · have hok2 : Hid (∀ i, i < j + 1 → RowOK N (tr ts i)) := fun i hi => by
                  by_cases e : i = j
                  · subst e
                    rw [← HT.out]
                    refine ⟨HL.out, fun k hk => ?_⟩
                    have h1 := HMA.out k (by rw [← HL.out]; exact hk)
                    have h2 := HXA.out k (by rw [← HL.out]; exact hk)
                    omega
                  · exact hok.out i (by omega)
                clear hok
                go_wp2
                go_round
                case rel => exact ⟨j + 1, by omega, by go_num, hok2⟩
                case measure => simp [intOf]; omega
          · have e : R = false := by
              rw [HR.out]; refine VRw_false fun h => hlen ?_
              have := (h.2.2 j hlt).1
              rw [show ts.getD j [] = t from HT.out.symm] at this
              rw [this, HN.out]; rfl
            subst e
            have hne : ((t.length : Int) != (N : Int)) = true := by simp; omega
            clear hlen
            go_wp2
            go_ret
            exact ⟨rfl, rfl⟩
        · obtain rfl : j = ts.length := by omega
          have e : R = true := by
            rw [HR.out, decide_eq_true_eq]
            refine ⟨by omega, ?_, fun i hi => ?_⟩
            · have := HN.out
              show 1 ≤ (tr ts 0).length ∧ (tr ts 0).length ≤ 16
              omega
            · show RowOK (tr ts 0).length (tr ts i)
              rw [← HN.out]; exact hok.out i hi
          subst e
          go_wp2
          go_ret
          exact ⟨rfl, rfl⟩
    · have e : R = false := by
        rw [hR]; refine VRw_false fun h => g2 (inR_iff.2 ?_)
        have := h.2.1
        rw [hN]
        show 1 ≤ (((ts.getD 0 []).length : Nat) : Int) ∧ (((ts.getD 0 []).length : Nat) : Int) ≤ 16
        omega
      subst e
      rw [eq_false_of_ne_true g2] at c2
      have C2 := Lib.hid c2
      clear c1 c2 g1 g2 hR hN hr0 hle0
      go_enter Try.func82, Try.ntmps82
      go_wp2_with fail
      refine (C1.out _).mono ?_
      rintro e w' ⟨rfl, rfl⟩
      go_wp2_with fail
      refine (C2.out _).mono ?_
      rintro e w' ⟨rfl, rfl⟩
      go_wp2
      go_ret
      exact ⟨rfl, rfl⟩
  · have e : R = false := by
      rw [hR]; refine VRw_false fun h => g1 (inR_iff.2 ?_)
      have := h.1; omega
    subst e
    rw [eq_false_of_ne_true g1] at c1
    have C1 := Lib.hid c1
    clear c1 g1 hR
    go_enter Try.func82, Try.ntmps82
    go_wp2_with fail
    refine (C1.out _).mono ?_
    rintro e w' ⟨rfl, rfl⟩
    go_wp2
    go_ret
    exact ⟨rfl, rfl⟩

theorem gm_step {rows : List (List Int)} {key : Int} {j N p : Nat} {t : List Int} (ht : t = tr rows j) (hN : t.length = N) (hp : (p : Int) = hs ((j : Int) + 1) j N key) : gm rows key (j + 1) = min (gm rows key j) (t.getD p 0) := by
  have e : rows.getD j [] = t := ht.symm
  show min (gm rows key j) ((rows.getD j []).getD (hs ((j : Int) + 1) j (rows.getD j []).length key).toNat 0) = _
  rw [e, hN, ← hp, Int.toNat_natCast]
set_option maxHeartbeats 4000000 in
theorem implGuessOf_any (a : Option Addr) (ts : List (List Int)) (cap : Nat) (key : Int) (w : World) (hr : ReadsS w a ts) (hl : bulk ts ≤ 1048586) (_hk : In64 key) :
    Calls Try.prog 45 #[.slice a ts.length cap, .int .i64 key] w fun e w' => e = .returned (.int .i64 (GSO ts key)) ∧ Below w.heap.size w w' := by
  have c1 := fun wx h => implvalidRows_any a ts cap wx h hl
  have c2 := fun wx => isRest_any key wx
  obtain ⟨R, hR⟩ : ∃ R, R = GSO ts key := ⟨_, rfl⟩
  rw [← hR]
  by_cases g1 : VRw ts
  · rw [decide_eq_true g1] at c1
    have C1 := Lib.hid c1
    by_cases g2 : KR key = true
    · obtain ⟨k0, k1⟩ := KR_iff.1 g2
      rw [g2] at c2
      have C2 := Lib.hid c2
      have e : R = gm ts key ts.length := by rw [hR]; unfold GSO; rw [if_pos ⟨g1, g2⟩]
      have HR := Lib.hid e
      have H1 := Lib.hid g1
      have hlen := g1.1
      have hN := g1.2.1
      obtain ⟨N, hNN⟩ : ∃ N, N = (ts.getD 0 []).length := ⟨_, rfl⟩
      rw [← hNN] at hN
      have HN := Lib.hid hNN
      clear c1 c2 g1 g2 e hR hNN
      go_enter Try.func45, Try.ntmps45
      go_wp2_with fail
      refine (C1.out _ hr).mono ?_
      rintro e w' ⟨rfl, rfl⟩
      go_wp2_with fail
      refine (C2.out _).mono ?_
      rintro e w' ⟨rfl, rfl⟩
      go_wp2_with fail
      go_loopw [5, 18] (fun gv jv wr => ∃ (j : Nat) (g : Int), j ≤ ts.length ∧ jv = .int .i64 (j : Int) ∧ gv = .int .i64 g ∧ Hid (g = gm ts key j) ∧ Below w.heap.size w wr) (fun _ jv _ => ts.length - (intOf jv).toNat)
      case atStart => exact ⟨0, 100, by omega, rfl, rfl, rfl, Below.refl _ _⟩
      case round =>
        obtain ⟨j, g, hj, rfl, rfl, hg, hB⟩ := hrel
        by_cases hlt : j < ts.length
        · have hj1 : (j : Int) < (ts.length : Int) := by omega
          obtain ⟨b, off, A, C, rfl, hb, hcj, hrj, hlej⟩ := (hr.below hB).get hlt
          obtain ⟨t, ht⟩ : ∃ t, t = tr ts j := ⟨_, rfl⟩
          have hrow := (H1.out.2.2 j hlt).1
          have e1 : ts.getD j [] = t := ht.symm
          rw [e1, ← HN.out] at hrow
          rw [← ht] at hcj hrj hlej
          rw [hrow] at hcj hlej
          have hrg := hs_range (a := (j : Int) + 1) (b := (j : Int)) (m := (N : Int)) (k := key) (by omega)
          obtain ⟨p, hp⟩ : ∃ p : Nat, (p : Int) = hs ((j : Int) + 1) j N key := ⟨(hs ((j : Int) + 1) j N key).toNat, by omega⟩
          have cp := fun wx => placeOf1_any j N key wx (by omega) (by omega) (by omega) k0 k1
          rw [← hp] at cp hrg
          have hst := gm_step (key := key) ht hrow hp
          obtain ⟨y, hy⟩ : ∃ y, y = t.getD p 0 := ⟨_, rfl⟩
          rw [← hy, ← hg.out] at hst
          have hpN : p < N := by omega
          have hp0 : (p : Int) < (N : Int) := by omega
          have HY := Lib.hid hy
          have HST := Lib.hid hst
          have HROW := Lib.hid hrow
          have CP := Lib.hid cp
          clear cp hst hp hrg ht e1 hy hrow
          go_wp2_with fail
          refine (CP.out _).mono ?_
          rintro e w2 ⟨rfl, b2⟩
          obtain ⟨b2', off2, y2, rfl, hb2, hcy, hyy⟩ := (hrj.below b2).get (k := p) (by rw [HROW.out]; exact hpN)
          have hB2 := hB.trans (b2.mono hB.size)
          have ey : y2 = y := by rw [HY.out, ← hyy.out]
          subst ey
          clear hyy b2 hB hrj hcj
          by_cases hc : y2 < g
          · have hg2 : Hid (y2 = gm ts key (j + 1)) := by show _ = _; rw [HST.out]; omega
            go_wp2
            go_roundw
            case rel => exact ⟨j + 1, y2, by omega, by go_num, rfl, hg2, hB2⟩
            case measure => simp [intOf]; omega
          · have hg2 : Hid (g = gm ts key (j + 1)) := by show _ = _; rw [HST.out]; omega
            go_wp2
            go_roundw
            case rel => exact ⟨j + 1, g, by omega, by go_num, rfl, hg2, hB2⟩
            case measure => simp [intOf]; omega
        · obtain rfl : j = ts.length := by omega
          go_wp2
          go_ret
          exact ⟨ret_int (by rw [HR.out, hg.out]), hB⟩
    · have e : R = -1 := by rw [hR]; unfold GSO; rw [if_neg (fun h => g2 h.2)]
      subst e
      rw [eq_false_of_ne_true g2] at c2
      have C2 := Lib.hid c2
      clear c1 c2 g1 g2 hR
      go_enter Try.func45, Try.ntmps45
      go_wp2_with fail
      refine (C1.out _ hr).mono ?_
      rintro e w' ⟨rfl, rfl⟩
      go_wp2_with fail
      refine (C2.out _).mono ?_
      rintro e w' ⟨rfl, rfl⟩
      go_wp2
      go_ret
      exact ⟨rfl, Below.refl _ _⟩
  · have e : R = -1 := by rw [hR]; unfold GSO; rw [if_neg (fun h => g1 h.1)]
    subst e
    rw [decide_eq_false g1] at c1
    have C1 := Lib.hid c1
    clear c1 c2 g1 hR
    go_enter Try.func45, Try.ntmps45
    go_wp2_with fail
    refine (C1.out _ hr).mono ?_
    rintro e w' ⟨rfl, rfl⟩
    go_wp2
    go_ret
    exact ⟨rfl, Below.refl _ _⟩
end Go.Proofs.Ytjkcahmbocjacaa
