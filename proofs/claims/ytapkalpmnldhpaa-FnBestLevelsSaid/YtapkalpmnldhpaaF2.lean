/-
  spec.PairCount, apart, ApartBy, LeastApart, TwoLevels, BestLevels.
-/
import Derived.Test.YtapkalpmnldhpaaF1
import Derived.Test.YtapkalpmnldhpaaD0
namespace Go.Proofs.Ytapkalpmnldhpaa
open Go.RowKit

theorem VX_eq (m x y : Int) : VX m x y = (SZ m && VK [x, y]) := by
  rw [Bool.eq_iff_iff]
  simp only [VX_iff, Bool.and_eq_true, SZ_iff, VK_iff]
  constructor
  · rintro ⟨h1, h2, h3, h4, h5, h6, h7⟩
    refine ⟨⟨h1, h2⟩, by simp, ?_, by simp [h7]⟩
    intro z hz
    simp at hz
    rcases hz with rfl | rfl <;> omega
  · rintro ⟨⟨h1, h2⟩, _, h3, h4⟩
    have hx := h3 x (by simp)
    have hy := h3 y (by simp)
    refine ⟨h1, h2, hx.1, hx.2, hy.1, hy.2, ?_⟩
    intro e; subst e; simp at h4

theorem meet_at {m x y : Int} {a b : Nat} (ha : 1 ≤ a) (hb : b < 31) : meet m x y ((a - 1) * 31 + b) = decide (hs a b m x = hs a b m y) := by
  unfold meet; rw [fA_at a b hb ha, fB_at a b hb]
theorem mtt_at {m : Int} {l : List Int} {a b : Nat} (ha : 1 ≤ a) (hb : b < 31) : mtt m l ((a - 1) * 31 + b) = mt a b m l := by
  unfold mtt; rw [fA_at a b hb ha, fB_at a b hb]

set_option maxHeartbeats 4000000 in
theorem specPairCount_any (m x y : Int) (w : World) (_hm : In64 m) (_hx : In64 x) (_hy : In64 y) :
    Calls Try.prog 25 #[.int .i64 m, .int .i64 x, .int .i64 y] w fun e w' => e = .returned (.int .i64 (PC m x y)) ∧ Below w.heap.size w w' := by
  by_cases g1 : inR m 1 31 = true
  · have hR : Reads (w.alloc (.cells #[.int .i64 x, .int .i64 y] 3)) (some ⟨w.heap.size, 0, none⟩) [x, y] := .inr ⟨_, 0, rfl, by simp, CellsAt.lit w [x, y]⟩
    have B0 := (Below.refl w.heap.size w).alloc (Nat.le_refl _) (.cells #[.int .i64 x, .int .i64 y] 3)
    have hc := specvalidKeys_any (some ⟨w.heap.size, 0, none⟩) [x, y] 2 _ hR (by simp) (by simp)
    by_cases g2 : VK [x, y] = true
    · rw [g2] at hc
      have HC : Hid (Calls Try.prog 58 #[.slice (some ⟨w.heap.size, 0, none⟩) 2 2] (w.alloc (.cells #[.int .i64 x, .int .i64 y] 3)) fun e w' => e = .returned (.bool true) ∧ ∃ n, w' = (w.alloc (.cells #[.int .i64 x, .int .i64 y] 3)).drewN n) := hc
      obtain ⟨m1, m2⟩ := inR_iff.1 g1
      have hx := (VK_iff.1 g2).2.1 x (by simp)
      have hy := (VK_iff.1 g2).2.1 y (by simp)
      have hPC : PC m x y = (cntN (meet m x y) 930 : Nat) := by unfold PC; rw [if_pos (by rw [VX_eq, SZ_eq, g1, g2]; rfl)]
      have HP := Lib.hid hPC
      clear hPC hc
      go_enter Try.func25, Try.ntmps25
      go_wp2_with (first | (go_at_call 53; refine (inRange_any _ _ _ _).mono ?_; rintro e w' ⟨rfl, rfl⟩))
      refine HC.out.mono ?_
      rintro e w' ⟨rfl, n, rfl⟩
      have B1 := below_drewN B0 n
      clear B0 HC hR g2 g1
      generalize (w.alloc (.cells #[.int .i64 x, .int .i64 y] 3)).drewN n = w1 at B1 ⊢
      go_wp2
      go_loopw [7, 8] (fun c i wr => ∃ a : Nat, 1 ≤ a ∧ a ≤ 31 ∧ i = .int .i64 a ∧ c = .int .i64 (cntN (meet m x y) ((a - 1) * 31) : Nat) ∧ wr = w1) (fun _ i _ => 31 - (intOf i).toNat)
      case atStart => exact ⟨1, by omega, by omega, rfl, by simp [cntN], rfl⟩
      case round =>
        obtain ⟨a, ha, ha', rfl, rfl, rfl⟩ := hrel
        have hb1 := cntN_le (meet m x y) ((a - 1) * 31)
        by_cases hlt : a < 31
        · have da : decide ((a : Int) < 31) = true := by simp; omega
          go_wp2
          go_loopw [7, 9] (fun c i wq => ∃ b : Nat, b ≤ 31 ∧ i = .int .i64 b ∧ c = .int .i64 (cntN (meet m x y) ((a - 1) * 31 + b) : Nat) ∧ wq = wr) (fun _ i _ => 31 - (intOf i).toNat)
          case atStart => exact ⟨0, by omega, rfl, rfl, rfl⟩
          case round =>
            obtain ⟨b, hb, rfl, rfl, rfl⟩ := hrel
            have hb2 := cntN_le (meet m x y) ((a - 1) * 31 + b)
            by_cases hlt2 : b < 31
            · have hS : cntN (meet m x y) ((a - 1) * 31 + (b + 1)) = cntN (meet m x y) ((a - 1) * 31 + b) + (if hs a b m x = hs a b m y then 1 else 0) := by
                rw [← Nat.add_assoc, cntN, meet_at ha hlt2]; simp only [decide_eq_true_eq]
              have HS := Lib.hid hS
              clear hS
              obtain ⟨X, hX⟩ : ∃ X, X = hs a b m x := ⟨_, rfl⟩
              obtain ⟨Y, hY⟩ : ∃ Y, Y = hs a b m y := ⟨_, rfl⟩
              have c1 := hash_any a b m x wr (by omega) (by omega) (by omega) (by omega) m1 m2 hx.1 hx.2
              have c2 := hash_any a b m y wr (by omega) (by omega) (by omega) (by omega) m1 m2 hy.1 hy.2
              rw [← hX] at c1
              rw [← hY] at c2
              have HX := Lib.hid hX
              have HY := Lib.hid hY
              have C1 := Lib.hid c1
              have C2 := Lib.hid c2
              clear hX hY c1 c2
              by_cases e : X = Y
              · have hd : (X == Y) = true := by simp [e]
                have E := Lib.hid e
                clear e
                go_wp2_with fail
                refine C1.out.mono ?_
                rintro e w' ⟨rfl, rfl⟩
                go_wp2_with fail
                refine C2.out.mono ?_
                rintro e w' ⟨rfl, rfl⟩
                go_wp2
                go_roundw
                case rel => exact ⟨b + 1, by omega, by go_num, by rw [HS.out, if_pos (by rw [← HX.out, ← HY.out]; exact E.out)]; go_num, (by first | trivial | rfl)⟩
                case measure => simp [intOf]; omega
              · have hd : (X == Y) = false := by simp [e]
                have E := Lib.hid e
                clear e
                go_wp2_with fail
                refine C1.out.mono ?_
                rintro e w' ⟨rfl, rfl⟩
                go_wp2_with fail
                refine C2.out.mono ?_
                rintro e w' ⟨rfl, rfl⟩
                go_wp2
                go_roundw
                case rel => exact ⟨b + 1, by omega, by go_num, by rw [HS.out, if_neg (by rw [← HX.out, ← HY.out]; exact E.out)]; rfl, (by first | trivial | rfl)⟩
                case measure => simp [intOf]; omega
            · obtain rfl : b = 31 := by omega
              go_wp2
              go_roundw
              case rel => exact ⟨a + 1, by omega, by omega, by go_num, by rw [show (a + 1 - 1) * 31 = (a - 1) * 31 + 31 by omega], (by first | trivial | rfl)⟩
              case measure => simp [intOf]; omega
        · obtain rfl : a = 31 := by omega
          go_wp2
          go_ret
          exact ⟨ret_int HP.out.symm, B1⟩
    · have g2' : VK [x, y] = false := by simpa using g2
      rw [g2'] at hc
      have HC : Hid (Calls Try.prog 58 #[.slice (some ⟨w.heap.size, 0, none⟩) 2 2] (w.alloc (.cells #[.int .i64 x, .int .i64 y] 3)) fun e w' => e = .returned (.bool false) ∧ ∃ n, w' = (w.alloc (.cells #[.int .i64 x, .int .i64 y] 3)).drewN n) := hc
      clear hc
      go_enter Try.func25, Try.ntmps25
      go_wp2_with (first | (go_at_call 53; refine (inRange_any _ _ _ _).mono ?_; rintro e w' ⟨rfl, rfl⟩))
      refine HC.out.mono ?_
      rintro e w' ⟨rfl, n, rfl⟩
      go_wp2
      go_ret
      refine ⟨ret_int ?_, below_drewN B0 n⟩
      unfold PC; rw [if_neg (by rw [VX_eq, g2']; simp)]
  · have g1' : inR m 1 31 = false := by simpa using g1
    go_enter Try.func25, Try.ntmps25
    go_wp2_with (first | (go_at_call 53; refine (inRange_any _ _ _ _).mono ?_; rintro e w' ⟨rfl, rfl⟩))
    go_ret
    refine ⟨ret_int ?_, Below.refl _ _⟩
    unfold PC; rw [if_neg (by rw [VX_eq, SZ_eq, g1']; simp)]

/-- apart's answer. -/
def apV (m : Int) (l : List Int) : Value := .tuple #[.int .i64 (apR (ap m l)).1, .int .i64 (apR (ap m l)).2.1, .bool (apR (ap m l)).2.2]

set_option maxHeartbeats 4000000 in
theorem apart_any (m : Int) (al : Option Addr) (l : List Int) (cap : Nat) (w : World) (hr : Reads w al l) (hm : 1 ≤ m) (hm' : m ≤ 31) (hv : VK l = true) :
    Calls Try.prog 64 #[.int .i64 m, .slice al l.length cap] w fun e w' => e = .returned (apV m l) ∧ ∃ n, w' = w.drewN n := by
  go_enter Try.func64, Try.ntmps64
  go_wp2
  go_loopw [7] (fun i wr => ∃ a n : Nat, 1 ≤ a ∧ a ≤ 31 ∧ i = .int .i64 a ∧ Hid (∀ s, s < (a - 1) * 31 → mtt m l s ≠ 0) ∧ wr = w.drewN n) (fun i _ => 31 - (intOf i).toNat)
  case atStart => exact ⟨1, 0, by omega, by omega, rfl, fun s hs => by omega, rfl⟩
  case round =>
    obtain ⟨a, n, ha, ha', rfl, hn, rfl⟩ := hrel
    by_cases hlt : a < 31
    · have da : decide ((a : Int) < 31) = true := by simp; omega
      go_wp2
      go_loopw [8] (fun i wq => ∃ b n : Nat, b ≤ 31 ∧ i = .int .i64 b ∧ Hid (∀ s, s < (a - 1) * 31 + b → mtt m l s ≠ 0) ∧ wq = w.drewN n) (fun i _ => 31 - (intOf i).toNat)
      case atStart => exact ⟨0, n, by omega, rfl, hn, rfl⟩
      case round =>
        clear hn
        obtain ⟨b, n, hb, rfl, hn, rfl⟩ := hrel
        by_cases hlt2 : b < 31
        · have hc := meetings_any a b m al l cap (w.drewN n) (hr.below below_q) (by omega) (by omega) (by omega) (by omega) hm hm' hv
          obtain ⟨X, hX⟩ : ∃ X, X = mt a b m l := ⟨_, rfl⟩
          rw [← hX] at hc
          have HX : Hid (mtt m l ((a - 1) * 31 + b) = X) := by show mtt m l ((a - 1) * 31 + b) = X; rw [mtt_at ha hlt2, hX]
          have HC := Lib.hid hc
          clear hX hc
          by_cases e : X = 0
          · have hd : ((X : Int) == 0) = true := by simp [e]
            have hap : ap m l = some ((a - 1) * 31 + b) := ap_some (by omega) (by rw [HX.out, e]) hn.out
            have hA : apV m l = .tuple #[.int .i64 a, .int .i64 b, .bool true] := by unfold apV; rw [hap]; simp only [apR, fA_at a b hlt2 ha, fB_at a b hlt2]
            have HA := Lib.hid hA
            clear e hap hA
            go_wp2_with fail
            refine HC.out.mono ?_
            rintro e w1 ⟨rfl, n1, rfl⟩
            go_wp2
            go_ret3
            rw [HA.out]
            exact ⟨rfl, _, (by first | rfl | exact World.drewN_drewN _ _ _)⟩
          · have hd : ((X : Int) == 0) = false := by simp; omega
            have hn2 : Hid (∀ s, s < (a - 1) * 31 + (b + 1) → mtt m l s ≠ 0) := by
              intro s hs
              by_cases e2 : s = (a - 1) * 31 + b
              · rw [e2, HX.out]; exact e
              · exact hn.out s (by omega)
            clear e hn
            go_wp2_with fail
            refine HC.out.mono ?_
            rintro e w1 ⟨rfl, n1, rfl⟩
            go_wp2
            go_roundw
            case rel => exact ⟨b + 1, _, by omega, by go_num, hn2, (by first | rfl | exact World.drewN_drewN _ _ _)⟩
            case measure => simp [intOf]; omega
        · obtain rfl : b = 31 := by omega
          go_wp2
          go_roundw
          case rel => exact ⟨a + 1, _, by omega, by omega, by go_num, by rw [show (a + 1 - 1) * 31 = (a - 1) * 31 + 31 by omega]; exact hn, rfl⟩
          case measure => simp [intOf]; omega
    · obtain rfl : a = 31 := by omega
      have hap : ap m l = none := ap_none (fun s hs => hn.out s (by omega))
      have hA : apV m l = .tuple #[.int .i64 0, .int .i64 0, .bool false] := by unfold apV; rw [hap]; rfl
      have HA := Lib.hid hA
      clear hap hA
      go_wp2
      go_ret3
      rw [HA.out]
      exact ⟨rfl, _, rfl⟩

def APv (m : Int) (l : List Int) : Value := .tuple #[.int .i64 (AP m l).1, .int .i64 (AP m l).2.1, .bool (AP m l).2.2]
theorem APv_yes {m : Int} {l : List Int} (h1 : SZ m = true) (h2 : VK l = true) : APv m l = apV m l := by
  unfold APv apV AP; rw [if_pos ⟨h1, h2⟩]
theorem APv_no {m : Int} {l : List Int} (h : ¬ (SZ m = true ∧ VK l = true)) : APv m l = .tuple #[.int .i64 0, .int .i64 0, .bool false] := by
  unfold APv AP; rw [if_neg h]

set_option maxHeartbeats 1000000 in
theorem specApartBy_v (m : Int) (al : Option Addr) (l : List Int) (cap : Nat) (w : World) (_hm : In64 m) (hr : Reads w al l) (_hi : ∀ n ∈ l, In64 n) (hl : l.length ≤ 1048586) (hcap : l.length ≤ cap) :
    Calls Try.prog 27 #[.int .i64 m, .slice al l.length cap] w fun e w' => e = .returned (APv m l) ∧ Below w.heap.size w w' := by
  by_cases g1 : inR m 1 31 = true
  · have g0 : SZ m = true := by rw [SZ_eq]; exact g1
    obtain ⟨m1, m2⟩ := inR_iff.1 g1
    have hc := specvalidKeys_any al l cap w hr hl hcap
    by_cases g2 : VK l = true
    · rw [g2] at hc
      rw [APv_yes g0 g2]
      have HC := Lib.hid hc
      clear hc
      go_enter Try.func27, Try.ntmps27
      go_wp2_with (first | (go_at_call 53; refine (inRange_any _ _ _ _).mono ?_; rintro e w' ⟨rfl, rfl⟩))
      refine HC.out.mono ?_
      rintro e w1 ⟨rfl, n, rfl⟩
      have hc2 := apart_any m al l cap (w.drewN n) (hr.below below_q) m1 m2 g2
      unfold apV at hc2
      go_wp2_with fail
      refine hc2.mono ?_
      rintro e w2 ⟨rfl, n2, rfl⟩
      go_wp2
      go_ret3
      exact ⟨by unfold apV; rfl, below_q⟩
    · have g2' : VK l = false := by simpa using g2
      rw [g2'] at hc
      rw [APv_no (fun h => g2 h.2)]
      have HC := Lib.hid hc
      clear hc
      go_enter Try.func27, Try.ntmps27
      go_wp2_with (first | (go_at_call 53; refine (inRange_any _ _ _ _).mono ?_; rintro e w' ⟨rfl, rfl⟩))
      refine HC.out.mono ?_
      rintro e w1 ⟨rfl, n, rfl⟩
      go_wp2
      go_ret3
      exact ⟨rfl, below_q⟩
  · have g1' : inR m 1 31 = false := by simpa using g1
    rw [APv_no (fun h => g1 (by rw [← SZ_eq]; exact h.1))]
    go_enter Try.func27, Try.ntmps27
    go_wp2_with (first | (go_at_call 53; refine (inRange_any _ _ _ _).mono ?_; rintro e w' ⟨rfl, rfl⟩))
    go_ret3
    exact ⟨rfl, Below.refl _ _⟩

theorem specApartBy_any (m : Int) (al : Option Addr) (l : List Int) (cap : Nat) (w : World) (hm : In64 m) (hr : Reads w al l) (hi : ∀ n ∈ l, In64 n) (hl : l.length ≤ 1048586) (hcap : l.length ≤ cap) :
    Calls Try.prog 27 #[.int .i64 m, .slice al l.length cap] w fun e w' => e = .returned (.tuple #[.int .i64 (AP m l).1, .int .i64 (AP m l).2.1, .bool (AP m l).2.2]) ∧ Below w.heap.size w w' :=
  specApartBy_v m al l cap w hm hr hi hl hcap

set_option maxHeartbeats 2000000 in
theorem specLeastApart_any (al : Option Addr) (l : List Int) (cap : Nat) (w : World) (hr : Reads w al l) (_hi : ∀ n ∈ l, In64 n) (hl : l.length ≤ 1048586) (hcap : l.length ≤ cap) :
    Calls Try.prog 29 #[.slice al l.length cap] w fun e w' => e = .returned (.int .i64 (LA l)) ∧ Below w.heap.size w w' := by
  have hc := specvalidKeys_any al l cap w hr hl hcap
  by_cases g2 : VK l = true
  · obtain ⟨i0, hi0, h1, h2, h3⟩ := la_spec g2
    have hLA : LA l = (i0 : Int) + 1 := by unfold LA; rw [if_pos g2, h1]
    have HLA := Lib.hid hLA
    have H2 := Lib.hid h2
    have H3 := Lib.hid h3
    rw [g2] at hc
    clear hLA h1 h2 h3
    go_enter Try.func29, Try.ntmps29
    go_wp2_with fail
    refine hc.mono ?_
    rintro e w1 ⟨rfl, n, rfl⟩
    go_wp2
    go_loopw [3] (fun i wr => ∃ k n : Nat, k ≤ i0 ∧ i = .int .i64 ((k : Int) + 1) ∧ wr = w.drewN n) (fun i _ => i0 + 1 - (intOf i).toNat)
    case atStart => exact ⟨0, n, by omega, by go_num, rfl⟩
    case round =>
      obtain ⟨k, n, hk, rfl, rfl⟩ := hrel
      have hc2 := apart_any ((k : Int) + 1) al l cap (w.drewN n) (hr.below below_q) (by omega) (by omega) g2
      by_cases e : k = i0
      · subst e
        cases ha : ap ((k : Int) + 1) l with
        | none => have := H2.out; rw [ha] at this; simp at this
        | some t =>
          unfold apV at hc2
          rw [ha] at hc2
          simp only [apR] at hc2
          clear ha
          go_wp2_with fail
          refine hc2.mono ?_
          rintro e w1 ⟨rfl, n1, rfl⟩
          go_wp2
          go_ret
          exact ⟨ret_int HLA.out.symm, below_q⟩
      · have ha := H3.out k (by omega)
        unfold apV at hc2
        rw [ha] at hc2
        simp only [apR] at hc2
        clear ha
        go_wp2_with fail
        refine hc2.mono ?_
        rintro e w1 ⟨rfl, n1, rfl⟩
        go_wp2
        go_roundw
        case rel => exact ⟨k + 1, _, by omega, by go_num, (by first | rfl | exact World.drewN_drewN _ _ _)⟩
        case measure => simp [intOf]; omega
  · have g2' : VK l = false := by simpa using g2
    rw [g2'] at hc
    go_enter Try.func29, Try.ntmps29
    go_wp2_with fail
    refine hc.mono ?_
    rintro e w1 ⟨rfl, n, rfl⟩
    go_wp2
    go_ret
    refine ⟨ret_int ?_, below_q⟩
    unfold LA; rw [if_neg g2]

theorem mt100 {a b m : Int} {l : List Int} (h : VK l = true) : mt a b m l ≤ 100 := by
  unfold mt
  exact pr_le100 (by rw [List.length_map]; exact (VK_iff.1 h).1)

set_option maxHeartbeats 2000000 in
theorem specTwoLevels_any (a b : Int) (al : Option Addr) (l : List Int) (cap : Nat) (w : World) (_ha : In64 a) (_hb : In64 b) (hr : Reads w al l) (_hi : ∀ n ∈ l, In64 n) (hl : l.length ≤ 1048586) (hcap : l.length ≤ cap) :
    Calls Try.prog 31 #[.int .i64 a, .int .i64 b, .slice al l.length cap] w fun e w' => e = .returned (.int .i64 (TL a b l)) ∧ Below w.heap.size w w' := by
  by_cases g0 : l = []
  · subst g0
    go_enter Try.func31, Try.ntmps31
    go_wp2
    go_ret
    exact ⟨rfl, Below.refl _ _⟩
  · have h0 : l.length ≠ 0 := fun e => g0 (List.eq_nil_of_length_eq_zero e)
    have hd : ((l.length : Int) == 0) = false := by simp; exact g0
    have hv := validHash_any a b l.length w
    have hc := specvalidKeys_any al l cap w hr hl hcap
    by_cases g1 : VF a b l.length = true
    · obtain ⟨f1, f2, f3, f4, f5, f6⟩ := VF_iff.1 g1
      rw [g1] at hv
      by_cases g2 : VK l = true
      · rw [g2] at hc
        have h100 := mt100 (a := a) (b := b) (m := l.length) g2
        have hT : TL a b l = 2 * (l.length : Int) + 2 * (mt a b l.length l : Nat) := by unfold TL; rw [if_pos ⟨g0, g1, g2⟩]
        have HT := Lib.hid hT
        have hcm := fun n => meetings_any a b l.length al l cap (w.drewN n) (hr.below below_q) f1 f2 f3 f4 f5 f6 g2
        obtain ⟨X, hX⟩ : ∃ X, X = mt a b l.length l := ⟨_, rfl⟩
        rw [← hX] at h100 HT
        have HCM := Lib.hid hcm
        rw [← hX] at HCM
        have H0 := Lib.hid h0
        clear hT hcm g0 h0 hX
        go_enter Try.func31, Try.ntmps31
        go_wp2_with fail
        refine hv.mono ?_
        rintro e w' ⟨rfl, rfl⟩
        go_wp2_with fail
        refine hc.mono ?_
        rintro e w1 ⟨rfl, n, rfl⟩
        go_wp2_with fail
        refine (HCM.out n).mono ?_
        rintro e w2 ⟨rfl, n2, rfl⟩
        go_wp2
        go_ret
        refine ⟨ret_int ?_, below_q⟩
        rw [HT.out]; omega
      · have g2' : VK l = false := by simpa using g2
        rw [g2'] at hc
        have G0 := Lib.hid g0
        have H0 := Lib.hid h0
        clear g0 h0
        go_enter Try.func31, Try.ntmps31
        go_wp2_with fail
        refine hv.mono ?_
        rintro e w' ⟨rfl, rfl⟩
        go_wp2_with fail
        refine hc.mono ?_
        rintro e w1 ⟨rfl, n, rfl⟩
        go_wp2
        go_ret
        refine ⟨ret_int ?_, below_q⟩
        unfold TL; rw [if_neg (fun h => g2 h.2.2)]
    · have g1' : VF a b l.length = false := by simpa using g1
      rw [g1'] at hv
      have G0 := Lib.hid g0
      have H0 := Lib.hid h0
      clear g0 h0
      go_enter Try.func31, Try.ntmps31
      go_wp2_with fail
      refine hv.mono ?_
      rintro e w' ⟨rfl, rfl⟩
      go_wp2
      go_ret
      refine ⟨ret_int ?_, Below.refl _ _⟩
      unfold TL; rw [if_neg (fun h => g1 h.2.1)]

/-- The best so far. -/
def bst (f : Nat → Nat) : Nat → Int
  | 0 => -1
  | t + 1 => (mn f t : Int)
theorem bst_take {f : Nat → Nat} {t : Nat} (h : bst f t < 0 ∨ (f t : Int) < bst f t) : bst f (t + 1) = f t := by
  cases t with
  | zero => rfl
  | succ t =>
    simp only [bst] at h ⊢
    rw [mn, if_pos (by omega)]
theorem bst_keep {f : Nat → Nat} {t : Nat} (h : ¬ (bst f t < 0) ∧ ¬ (f t : Int) < bst f t) : bst f (t + 1) = bst f t := by
  cases t with
  | zero => simp [bst] at h
  | succ t =>
    simp only [bst] at h ⊢
    rw [mn, if_neg (by omega)]
theorem lvl_le {l : List Int} (h : VK l = true) (t : Nat) : lvl l t ≤ 216 := by
  have := (VK_iff.1 h).1
  have h2 := mt100 (a := fA t) (b := fB t) (m := l.length) h
  unfold lvl mtt; omega
theorem bst_range {l : List Int} (h : VK l = true) (t : Nat) : -1 ≤ bst (lvl l) t ∧ bst (lvl l) t ≤ 216 := by
  cases t with
  | zero => simp [bst]
  | succ t =>
    simp only [bst]
    obtain ⟨i, _, hi⟩ := mn_mem (lvl l) t
    have := lvl_le h i
    omega

set_option maxHeartbeats 4000000 in
theorem specBestLevels_any (al : Option Addr) (l : List Int) (cap : Nat) (w : World) (hr : Reads w al l) (_hi : ∀ n ∈ l, In64 n) (hl : l.length ≤ 1048586) (hcap : l.length ≤ cap) :
    Calls Try.prog 33 #[.slice al l.length cap] w fun e w' => e = .returned (.int .i64 (BL l)) ∧ Below w.heap.size w w' := by
  by_cases g0 : l = []
  · subst g0
    go_enter Try.func33, Try.ntmps33
    go_wp2
    go_ret
    exact ⟨rfl, Below.refl _ _⟩
  · have h0 : l.length ≠ 0 := fun e => g0 (List.eq_nil_of_length_eq_zero e)
    have hd : ((l.length : Int) == 0) = false := by simp; exact g0
    have hc := specvalidKeys_any al l cap w hr hl hcap
    by_cases g2 : VK l = true
    · rw [g2] at hc
      have hBL : BL l = bst (lvl l) 930 := by unfold BL; rw [if_pos ⟨g0, g2⟩]; rfl
      have hl8 := (VK_iff.1 g2).1
      have hl1 : 1 ≤ l.length := by omega
      have HB := Lib.hid hBL
      have H0 := Lib.hid h0
      have G0 := Lib.hid g0
      clear hBL h0 g0
      go_enter Try.func33, Try.ntmps33
      go_wp2_with fail
      refine hc.mono ?_
      rintro e w1 ⟨rfl, n, rfl⟩
      go_wp2
      go_loopw [3, 4] (fun c i wr => ∃ a n : Nat, 1 ≤ a ∧ a ≤ 31 ∧ i = .int .i64 a ∧ c = .int .i64 (bst (lvl l) ((a - 1) * 31)) ∧ wr = w.drewN n) (fun _ i _ => 31 - (intOf i).toNat)
      case atStart => exact ⟨1, n, by omega, by omega, rfl, rfl, rfl⟩
      case round =>
        obtain ⟨a, n, ha, ha', rfl, rfl, rfl⟩ := hrel
        by_cases hlt : a < 31
        · have da : decide ((a : Int) < 31) = true := by simp; omega
          go_wp2
          go_loopw [3, 5] (fun c i wq => ∃ b n : Nat, b ≤ 31 ∧ i = .int .i64 b ∧ c = .int .i64 (bst (lvl l) ((a - 1) * 31 + b)) ∧ wq = w.drewN n) (fun _ i _ => 31 - (intOf i).toNat)
          case atStart => exact ⟨0, n, by omega, rfl, rfl, rfl⟩
          case round =>
            obtain ⟨b, n, hb, rfl, rfl, rfl⟩ := hrel
            obtain ⟨T, hT⟩ : ∃ T, T = (a - 1) * 31 + b := ⟨_, rfl⟩
            have hbr := bst_range g2 T
            by_cases hlt2 : b < 31
            · have hcm := meetings_any a b l.length al l cap (w.drewN n) (hr.below below_q) (by omega) (by omega) (by omega) (by omega) (by omega) (by omega) g2
              have h100 := mt100 (a := a) (b := b) (m := l.length) g2
              have hlv : lvl l T = 2 * l.length + 2 * mt a b l.length l := by rw [hT]; unfold lvl; rw [mtt_at ha hlt2]
              obtain ⟨X, hX⟩ : ∃ X, X = mt a b l.length l := ⟨_, rfl⟩
              rw [← hX] at hcm h100 hlv
              have hs1 := bst_take (f := lvl l) (t := T)
              have hs2 := bst_keep (f := lvl l) (t := T)
              rw [hlv] at hs1 hs2
              rw [← hT]
              obtain ⟨Y, hY⟩ : ∃ Y, Y = bst (lvl l) T := ⟨_, rfl⟩
              rw [← hY] at hs1 hs2 hbr ⊢
              have HT := Lib.hid hT
              have HCM := Lib.hid hcm
              have S1 := Lib.hid hs1
              have S2 := Lib.hid hs2
              have HY := Lib.hid hY
              clear hT hcm hs1 hs2 hY hlv hX
              go_wp2_with fail
              refine HCM.out.mono ?_
              rintro e w2 ⟨rfl, n2, rfl⟩
              by_cases e1 : Y < 0
              · have k1 := S1.out (.inl e1)
                have K1 := Lib.hid k1
                clear k1
                go_wp2
                go_roundw
                case rel => exact ⟨b + 1, _, by omega, by go_num, by rw [show (a - 1) * 31 + (b + 1) = T + 1 by rw [HT.out]; omega, K1.out]; go_num, (by first | rfl | exact World.drewN_drewN _ _ _)⟩
                case measure => simp [intOf]; omega
              · by_cases e2 : 2 * (l.length : Int) + 2 * (X : Int) < Y
                · have k1 := S1.out (.inr (by omega))
                  have K1 := Lib.hid k1
                  have d1 : decide (Y < 0) = false := by simp; omega
                  clear k1
                  go_wp2
                  go_roundw
                  case rel => exact ⟨b + 1, _, by omega, by go_num, by rw [show (a - 1) * 31 + (b + 1) = T + 1 by rw [HT.out]; omega, K1.out]; go_num, (by first | rfl | exact World.drewN_drewN _ _ _)⟩
                  case measure => simp [intOf]; omega
                · have k1 := S2.out ⟨by omega, by omega⟩
                  have K1 := Lib.hid k1
                  have d1 : decide (Y < 0) = false := by simp; omega
                  clear k1
                  go_wp2
                  go_roundw
                  case rel => exact ⟨b + 1, _, by omega, by go_num, by rw [show (a - 1) * 31 + (b + 1) = T + 1 by rw [HT.out]; omega, K1.out], (by first | rfl | exact World.drewN_drewN _ _ _)⟩
                  case measure => simp [intOf]; omega
            · obtain rfl : b = 31 := by omega
              go_wp2
              go_roundw
              case rel => exact ⟨a + 1, _, by omega, by omega, by go_num, by rw [show (a + 1 - 1) * 31 = (a - 1) * 31 + 31 by omega], rfl⟩
              case measure => simp [intOf]; omega
        · obtain rfl : a = 31 := by omega
          go_wp2
          go_ret
          exact ⟨ret_int HB.out.symm, below_q⟩
    · have g2' : VK l = false := by simpa using g2
      rw [g2'] at hc
      have G0 := Lib.hid g0
      have H0 := Lib.hid h0
      clear g0 h0
      go_enter Try.func33, Try.ntmps33
      go_wp2_with fail
      refine hc.mono ?_
      rintro e w1 ⟨rfl, n, rfl⟩
      go_wp2
      go_ret
      refine ⟨ret_int ?_, below_q⟩
      unfold BL; rw [if_neg (fun h => g2 h.2)]
end Go.Proofs.Ytapkalpmnldhpaa
