/-
  spec.validTable, spec.LooksOf, spec.IsFound.
-/
import Derived.Test.YtapkalpmnldhpabM3
import Derived.Test.YtapkalpmnldhpabS2
import Derived.StillTailTactics
namespace Go.Proofs.Ytapkalpmnldhpab
open Go.RowKit

set_option maxHeartbeats 2000000 in
theorem validTable_any (m : Int) (a : Option Addr) (l : List Int) (cap : Nat) (a2 : Option Addr) (t : List Int) (cap2 : Nat) (w : World) (hm : In64 m) (hr : Reads w a l) (hl : l.length ≤ 1048586) (hr2 : Reads w a2 t) (ht : t.length ≤ 1048586) :
    Calls Try.prog 71 #[.int .i64 m, .slice a l.length cap, .slice a2 t.length cap2] w fun e w' => e = .returned (.bool (VT m l t)) ∧ ∃ n, w' = w.drewN n := by
  by_cases hv : VH m l = true
  · by_cases hlen : (t.length : Int) = m
    · have hd : ((t.length : Int) != (t.length : Int)) = false := by simp
      subst hlen
      have hh := VH_iff.1 hv
      have hl1 : (l.length : Int) ≤ t.length := hh.2.2.1
      clear hh
      go_enter Try.func71, Try.ntmps71
      go_wp2_with fail
      refine (specvalidHomes_any _ _ _ _ _ hr hm hl).mono ?_
      rintro e w' ⟨rfl, rfl⟩
      go_wp2
      go_loopw [7] (fun s wr => ∃ i : Nat, i ≤ t.length ∧ s = .int .i64 i ∧ TabOk l.length t i ∧ ∃ n, wr = w.drewN n) (fun s _ => t.length - (intOf s).toNat)
      case atStart => exact ⟨0, Nat.zero_le _, rfl, TabOk.zero _ _, 0, rfl⟩
      case round =>
        obtain ⟨i, hi, rfl, hok, n, rfl⟩ := hrel
        by_cases hlt : i < t.length
        · obtain ⟨b, off, x, rfl, hbb, hcell, hx⟩ := hr2.get hlt
          by_cases g1 : inR x (-1) (l.length - 1) = true
          · have hxr := inR_iff.1 g1
            go_wp2_with (go_at_call 35; refine (inRange_any _ _ _ _).mono ?_; rintro e w' ⟨rfl, rfl⟩)
            go_loopw [8] (fun s wr => ∃ k : Nat, k ≤ i ∧ s = .int .i64 k ∧ (∀ j, j < k → 0 ≤ t.getD j 0 → t.getD j 0 ≠ t.getD i 0) ∧ ∃ n, wr = w.drewN n) (fun s _ => i - (intOf s).toNat)
            case atStart => exact ⟨0, Nat.zero_le _, rfl, fun j hj => by omega, n, rfl⟩
            case round =>
              obtain ⟨k, hk, rfl, hf, n, rfl⟩ := hrel
              have HF := Lib.hid hf
              clear hf
              by_cases hlt2 : k < i
              · obtain ⟨y, hcell2, hy⟩ := hr2.at_ (k := k) (by omega)
                by_cases g2 : 0 ≤ y
                · have hd2 : decide (0 ≤ y) = true := by simpa using g2
                  by_cases hxy : y = x
                  · have hd3 : (y == x) = true := by simp [hxy]
                    have HXY := Lib.hid hxy
                    clear hxy
                    go_wp2
                    go_quiet (fail)
                    go_wp2
                    go_ret
                    refine ⟨ret_bool (VT_false fun hh => ?_).symm, _, World.drewN_drewN _ _ _⟩
                    exact hh.2.2.once i hlt k hlt2 (by rw [hy.out]; exact g2) (by rw [hy.out, hx.out]; exact HXY.out)
                  · have hd3 : (y == x) = false := by simpa using hxy
                    go_wp2
                    go_quiet (fail)
                    go_wp2
                    go_roundw
                    case rel => exact ⟨k + 1, by omega, by go_num, below_all HF.out (fun _ => by rw [hy.out, hx.out]; exact hxy), _, rfl⟩
                    case measure => simp [intOf]; omega
                · have hd2 : decide (0 ≤ y) = false := by simpa using g2
                  go_wp2
                  go_quiet (fail)
                  go_wp2
                  go_roundw
                  case rel => exact ⟨k + 1, by omega, by go_num, below_all HF.out (fun h0 => by rw [hy.out] at h0; omega), _, rfl⟩
                  case measure => simp [intOf]; omega
              · obtain rfl : k = i := by omega
                go_wp2
                go_roundw
                case rel => exact ⟨k + 1, by omega, by go_num, hok.succ (by rw [hx.out]; omega) HF.out, _, rfl⟩
                case measure => simp [intOf]; omega
          · have g1' : inR x (-1) (l.length - 1) = false := by simpa using g1
            go_wp2_with (go_at_call 35; refine (inRange_any _ _ _ _).mono ?_; rintro e w' ⟨rfl, rfl⟩)
            go_ret
            refine ⟨ret_bool (VT_false fun hh => ?_).symm, _, rfl⟩
            have := hh.2.2.range i hlt
            rw [hx.out] at this
            rw [inR_iff] at g1
            omega
        · obtain rfl : i = t.length := by omega
          go_wp2
          go_ret
          exact ⟨ret_bool (VT_true hv rfl hok).symm, _, rfl⟩
    · have hd : ((t.length : Int) != m) = true := by simpa using hlen
      go_enter Try.func71, Try.ntmps71
      go_wp2_with fail
      refine (specvalidHomes_any _ _ _ _ _ hr hm hl).mono ?_
      rintro e w' ⟨rfl, rfl⟩
      go_wp2
      go_ret
      exact ⟨ret_bool (VT_false fun hh => hlen hh.2.1).symm, 0, rfl⟩
  · have hv' : VH m l = false := by simpa using hv
    go_enter Try.func71, Try.ntmps71
    go_wp2_with fail
    refine (specvalidHomes_any _ _ _ _ _ hr hm hl).mono ?_
    rintro e w' ⟨rfl, rfl⟩
    go_wp2
    go_ret
    exact ⟨ret_bool (VT_false fun hh => hv hh.1).symm, 0, rfl⟩

/-- No free slot from the home on ahead of slot i, which is D steps behind it. -/
def Reached (m : Nat) (l t : List Int) (i : Nat) : Prop := ∀ d p, d < (offI m (l.getD (t.getD i 0).toNat 0) i).toNat → p = ((l.getD (t.getD i 0).toNat 0).toNat + d) % m → ¬ t.getD p 0 < 0
/-- IsFound. -/
noncomputable def FD (m : Int) (l t : List Int) : Bool := @decide (VT m l t = true ∧ ∀ i, i < t.length → ¬ t.getD i 0 < 0 → Reached m.toNat l t i) (Classical.propDecidable _)
theorem FD_iff {m : Int} {l t : List Int} : FD m l t = true ↔ VT m l t = true ∧ ∀ i, i < t.length → ¬ t.getD i 0 < 0 → Reached m.toNat l t i := by
  unfold FD; exact @decide_eq_true_iff _ (Classical.propDecidable _)
theorem FD_false {m : Int} {l t : List Int} (h : ¬ (VT m l t = true ∧ ∀ i, i < t.length → ¬ t.getD i 0 < 0 → Reached m.toNat l t i)) : FD m l t = false := by
  unfold FD; exact @decide_eq_false _ (Classical.propDecidable _) h

/-- The steps from a home h to a slot p: they end there. -/
theorem off_end {m h p : Nat} (hh : h < m) (hp : p < m) : (h + (offI m h p).toNat) % m = p := by
  unfold offI
  by_cases e : h ≤ p
  · have : ((p : Int) - h + m) % m = ((p - h : Nat) : Int) := by
      rw [Int.add_emod_right, Int.emod_eq_of_lt (by omega) (by omega)]; omega
    rw [this, Int.toNat_natCast, show h + (p - h) = p by omega, Nat.mod_eq_of_lt hp]
  · have : ((p : Int) - h + m) % m = ((p + m - h : Nat) : Int) := by
      rw [Int.emod_eq_of_lt (by omega) (by omega)]; omega
    rw [this, Int.toNat_natCast, show h + (p + m - h) = p + m by omega, Nat.add_mod_right, Nat.mod_eq_of_lt hp]
theorem off_uniq {m h p d : Nat} (hh : h < m) (hp : p < m) (hd : d < m) (he : (h + d) % m = p) : d = (offI m h p).toNat := by
  have h1 := off_end hh hp
  have h2 : (offI m h p).toNat < m := by have := offI_bd (m := (m : Int)) (h := h) (p := p) (by omega); omega
  generalize (offI m h p).toNat = e at *
  have mm : ∀ x, x < m + m → x % m = if x < m then x else x - m := by
    intro x hx
    split
    · exact Nat.mod_eq_of_lt (by omega)
    · rw [Nat.mod_eq_sub_mod (by omega), Nat.mod_eq_of_lt (by omega)]
  rw [mm _ (by omega)] at h1 he
  split at h1 <;> split at he <;> omega

set_option maxHeartbeats 2000000 in
theorem specIsFound_yes (M : Nat) (a : Option Addr) (l : List Int) (cap : Nat) (a2 : Option Addr) (t : List Int) (cap2 : Nat) (w : World) (hm : In64 M) (hr : Reads w a l) (hl : l.length ≤ 1048586) (hr2 : Reads w a2 t) (ht : t.length ≤ 1048586) (hv : VT M l t = true) :
    Calls Try.prog 60 #[.int .i64 M, .slice a l.length cap, .slice a2 t.length cap2] w fun e w' => e = .returned (.bool (FD M l t)) ∧ ∃ n, w' = w.drewN n := by
  obtain ⟨v1, v2, v3⟩ := VT_iff.1 hv
  have hH := Homes.of_VH (VH_iff.1 v1)
  rw [Int.toNat_natCast] at hH
  have hM := hH.le
  have hM1 := hH.pos
  have hll := hH.len
  obtain rfl : t.length = M := by omega
  go_enter Try.func60, Try.ntmps60
  go_wp2_with fail
  refine (validTable_any _ _ _ _ _ _ _ _ hm hr hl hr2 ht).mono ?_
  rintro e w' ⟨rfl, n, rfl⟩
  go_wp2
  go_loop [7] (fun s => ∃ i : Nat, i ≤ t.length ∧ s = .int .i64 i ∧ ∀ j, j < i → ¬ t.getD j 0 < 0 → Reached t.length l t j) (fun s => t.length - (intOf s).toNat)
  case atStart => exact ⟨0, Nat.zero_le _, rfl, fun j hj => by omega⟩
  case round =>
    obtain ⟨i, hi, rfl, hR⟩ := hrel
    have HR := Lib.hid hR
    clear hR
    by_cases hlt : i < t.length
    · obtain ⟨b, off, x, rfl, hbb, hcell, hx⟩ := hr2.get hlt
      by_cases g1 : x < 0
      · go_wp2
        go_round
        case rel => exact ⟨i + 1, by omega, by go_num, below_all HR.out (fun hn => by rw [hx.out] at hn; omega)⟩
        case measure => simp [intOf]; omega
      · obtain ⟨o, rfl⟩ := Int.eq_ofNat_of_zero_le (show 0 ≤ x by omega)
        have hol : o < l.length := by have := (v3.range i hlt).2; rw [hx.out] at this; omega
        obtain ⟨b', off', h0, rfl, hbb', hcell', hh0⟩ := hr.get hol
        have hx2 : h0 = (home l o : Int) := by rw [hH.home_cast hol]; exact hh0.out.symm
        have hhl := hH.home_lt hol
        have hRe : Hid (Reached t.length l t i ↔ ∀ d p, d < (offI t.length (home l o) i).toNat → p = (home l o + d) % t.length → ¬ t.getD p 0 < 0) := by
          unfold Hid Reached
          rw [hx.out, Int.toNat_natCast, ← hH.home_cast hol, Int.toNat_natCast]
        clear hh0
        subst hx2
        obtain ⟨D, hD⟩ : ∃ D, D = (offI t.length (home l o) i).toNat := ⟨_, rfl⟩
        have hDM : D < t.length := by
          have := offI_bd (m := (t.length : Int)) (h := home l o) (p := i) (by omega)
          omega
        have HD := Lib.hid hD
        clear hD
        go_wp2
        go_loopg [8] D (fun gn s wq => wq = w.drewN n ∧ ∃ d p : Nat, d + gn = D ∧ p < t.length ∧ s = .int .i64 p ∧ Hid (p = (home l o + d) % t.length) ∧ ∀ d' p', d' < d → p' = (home l o + d') % t.length → ¬ t.getD p' 0 < 0)
        case atStart => exact ⟨rfl, 0, home l o, by omega, hhl, rfl, (Nat.mod_eq_of_lt hhl).symm, fun d' p' h => by omega⟩
        case round =>
          obtain ⟨rfl, d, p, hd, hp, rfl, hpd, hfree⟩ := hrel
          have HDG := Lib.hid hd
          have hdle : d ≤ D := by omega
          have HF := Lib.hid hfree
          clear hd hfree
          obtain ⟨y, hcell2, hy⟩ := hr2.at_ (k := p) hp
          by_cases hpi : p = i
          · have hdD : d = D := by rw [HD.out]; exact off_uniq hhl hlt (by omega) (by rw [← hpd.out]; exact hpi)
            have HDD := Lib.hid hdD
            have hb1 : ((p : Int) != i) = false := by simp [hpi]
            clear hdD hpi
            go_wp2
            go_round
            case rel => exact ⟨i + 1, by omega, by go_num, below_all (fun j hj hn => HR.out j hj (by omega)) (fun _ => hRe.out.2 (fun d' p' h1 h2 => by have := HF.out d' p' (by rw [HDD.out, HD.out]; exact h1) h2; omega))⟩
            case measure => simp [intOf]; omega
          · have hb1 : ((p : Int) != i) = true := by simp; omega
            have hdD : d < D := by
              apply Classical.byContradiction
              intro hn
              have hdD : d = D := by omega
              exact hpi (by rw [hpd.out, hdD, HD.out]; exact off_end hhl hlt)
            by_cases hy0 : y < 0
            · go_wp2
              go_ret
              refine ⟨ret_bool (FD_false fun hh => ?_).symm, _, rfl⟩
              have := hRe.out.1 (by have := hh.2 i hlt (by rw [hx.out]; omega); rwa [Int.toNat_natCast] at this) d p (by rw [← HD.out]; exact hdD) hpd.out
              rw [hy.out] at this
              omega
            · go_wp2
              go_roundg (gk - 1)
              case measure => have := HDG.out; omega
              case rel =>
                refine ⟨rfl, d + 1, (p + 1) % t.length, by have := HDG.out; omega, Nat.mod_lt _ (by omega), by rw [cast_step], by rw [hpd.out]; exact step_mod _ _ _, fun d' p' h1 h2 => ?_⟩
                by_cases e : d' = d
                · subst e
                  rw [h2, ← hpd.out, hy.out]; omega
                · have := HF.out d' p' (by omega) h2; omega
    · obtain rfl : i = t.length := by omega
      go_wp2
      go_ret
      refine ⟨ret_bool (FD_iff.2 ⟨hv, ?_⟩).symm, _, rfl⟩
      rw [Int.toNat_natCast]
      exact fun j hj hn => HR.out j hj (by omega)

theorem specIsFound_q (m : Int) (a : Option Addr) (l : List Int) (cap : Nat) (a2 : Option Addr) (t : List Int) (cap2 : Nat) (w : World) (hm : In64 m) (hr : Reads w a l) (hl : l.length ≤ 1048586) (hr2 : Reads w a2 t) (ht : t.length ≤ 1048586) :
    Calls Try.prog 60 #[.int .i64 m, .slice a l.length cap, .slice a2 t.length cap2] w fun e w' => e = .returned (.bool (FD m l t)) ∧ ∃ n, w' = w.drewN n := by
  by_cases hv : VT m l t = true
  · obtain ⟨M, rfl⟩ := Int.eq_ofNat_of_zero_le (show 0 ≤ m by have := (VH_iff.1 (VT_iff.1 hv).1).1; omega)
    exact specIsFound_yes M a l cap a2 t cap2 w hm hr hl hr2 ht hv
  · have hv' : VT m l t = false := by simpa using hv
    have hF : FD m l t = false := FD_false fun hh => hv hh.1
    rw [hF]
    clear hF hv
    go_enter Try.func60, Try.ntmps60
    go_wp2_with fail
    refine (validTable_any _ _ _ _ _ _ _ _ hm hr hl hr2 ht).mono ?_
    rintro e w' ⟨rfl, n, rfl⟩
    go_wp2
    go_ret
    exact ⟨rfl, n, rfl⟩
theorem specIsFound_any (m : Int) (a : Option Addr) (l : List Int) (cap : Nat) (a2 : Option Addr) (t : List Int) (cap2 : Nat) (w : World) (hm : In64 m) (hr : Reads w a l) (_hi : ∀ n ∈ l, In64 n) (hl : l.length ≤ 1048586) (hr2 : Reads w a2 t) (_hi2 : ∀ n ∈ t, In64 n) (ht : t.length ≤ 1048586) :
    Calls Try.prog 60 #[.int .i64 m, .slice a l.length cap, .slice a2 t.length cap2] w fun e w' => e = .returned (.bool (FD m l t)) ∧ Below w.heap.size w w' :=
  (specIsFound_q m a l cap a2 t cap2 w hm hr hl hr2 ht).mono fun e w' ⟨h1, n, h2⟩ => ⟨h1, by rw [h2]; exact below_drewN (Below.refl _ _) n⟩
end Go.Proofs.Ytapkalpmnldhpab
