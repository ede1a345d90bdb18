/-
  impl.isReached, impl.IsFound.
-/
import Derived.Test.YtapkalpmnldhpabI3
namespace Go.Proofs.Ytapkalpmnldhpab
open Go.RowKit

set_option maxHeartbeats 2000000 in
theorem isReached_any (M : Nat) (a : Option Addr) (l : List Int) (cap : Nat) (t : List Int) (w : World) (hr : Reads w a l) (hv : VT M l t = true) :
    Calls Try.prog 56 #[.int .i64 M, .slice a l.length cap, .agg (arr (full t))] w fun e w' => e = .returned (.bool (FD M l t)) ∧ Below w.heap.size w w' := by
  obtain ⟨v1, v2, v3⟩ := VT_iff.1 hv
  have hH := Homes.of_VH (VH_iff.1 v1)
  rw [Int.toNat_natCast] at hH
  have hM := hH.le
  have hM1 := hH.pos
  have hll := hH.len
  obtain rfl : t.length = M := by omega
  have hT : (full t).length = 10 := full_len hM
  have h5 : Arr (w.alloc (.cells (arr (full t)) 68)) 68 w.heap.size (full t) := Arr.new _ _ _
  clear v2
  go_enter Try.func56, Try.ntmps56
  go_wp2_with (refine load_arr rfl _ _ rfl _ rfl _ _ _ _ h5 und_slot inf_slot hT ?_)
  have B5 := (Below.refl w.heap.size w).alloc (Nat.le_refl _) (.cells (arr (full t)) 68)
  go_wp2_with fail
  go_step3
  go_wp2_with (refine load_arr rfl _ _ rfl _ rfl _ _ _ _ h5 und_slot inf_slot hT ?_)
  go_wp2_with fail
  go_step3
  go_wp2_with (refine load_arr rfl _ _ rfl _ rfl _ _ _ _ h5 und_slot inf_slot hT ?_)
  go_wp2_with fail
  obtain ⟨g, hg⟩ : ∃ g, g = w.heap.size := ⟨_, rfl⟩
  rw [← hg] at h5 ⊢
  have hgw : w.heap.size ≤ g := by omega
  clear hg
  go_loopw [13] (fun s wr => ∃ i : Nat, i ≤ 10 ∧ s = .int .i64 i ∧ (∀ j, j < i → j < t.length → ¬ t.getD j 0 < 0 → Reached t.length l t j) ∧ Arr wr 68 g (full t) ∧ Below w.heap.size w wr) (fun s _ => 10 - (intOf s).toNat)
  case atStart => exact ⟨0, Nat.zero_le _, rfl, fun j hj => by omega, h5, B5⟩
  case round =>
    clear h5 B5
    obtain ⟨i, hi, rfl, hR, h5, hb⟩ := hrel
    have HR := Lib.hid hR
    clear hR
    by_cases hlt : i < 10
    · obtain ⟨x, hx⟩ : ∃ x, (full t).getD i 0 = x := ⟨_, rfl⟩
      have hix := index_slot (full t) hT i hlt x hx
      have HX := Lib.hid hx
      clear hx
      by_cases g1 : x = -1
      · have hb1 : (x == -1) = true := by simp [g1]
        have HG := Lib.hid g1
        clear g1
        go_wp2
        go_roundw
        case rel =>
          refine ⟨i + 1, by omega, by go_num, fun j h1 h2 h3 => ?_, h5, hb⟩
          by_cases e : j = i
          · subst e
            rw [full_get h2, HG.out] at HX
            have := HX.out; omega
          · exact HR.out j (by omega) h2 (by omega)
        case measure => simp [intOf]; omega
      · have hb1 : (x == -1) = false := by simpa using g1
        have hit : i < t.length := by
          apply Classical.byContradiction
          intro hn
          exact g1 (by rw [← HX.out]; exact full_ge (by omega) hlt)
        have hx' : t.getD i 0 = x := by rw [← full_get hit]; exact HX.out
        have hrg := v3.range i hit
        rw [hx'] at hrg
        obtain ⟨o, rfl⟩ := Int.eq_ofNat_of_zero_le (show 0 ≤ x by omega)
        have hol : o < l.length := by omega
        have HX2 := Lib.hid hx'
        clear hrg hx' g1
        obtain ⟨b', off', h0, rfl, hbb', hcell', hh0⟩ := hr.get hol
        have hcell1' : wr.cell? ⟨b', off' + o, none⟩ = some (.int .i64 h0) := (hb.cell (by exact hbb')).trans hcell'
        have hx2 : h0 = (home l o : Int) := by rw [hH.home_cast hol]; exact hh0.out.symm
        have hhl := hH.home_lt hol
        have hRe : Hid (Reached t.length l t i ↔ ∀ d p, d < (offI t.length (home l o) i).toNat → p = (home l o + d) % t.length → ¬ t.getD p 0 < 0) := by
          unfold Hid Reached
          rw [HX2.out, Int.toNat_natCast, ← hH.home_cast hol, Int.toNat_natCast]
        clear hh0 hcell'
        subst hx2
        obtain ⟨D, hD⟩ : ∃ D, D = (offI t.length (home l o) i).toNat := ⟨_, rfl⟩
        have hDM : D < t.length := by
          have := offI_bd (m := (t.length : Int)) (h := home l o) (p := i) (by omega)
          omega
        have HD := Lib.hid hD
        clear hD
        go_wp2_with fail
        refine (lookFrom_any _ _ _).mono ?_
        rintro e w3 ⟨rfl, hk1, hk2, hb3, hs3⟩
        have h53 := h5.belowAll hb3
        have hb4 := hb.trans (hb3.mono hb.size)
        have hk1' : w3.cell? ⟨wr.heap.size, 0, none⟩ = some (.int .i64 (t.length : Int)) := hk1
        obtain ⟨c, hc⟩ : ∃ c, c = wr.heap.size := ⟨_, rfl⟩
        rw [← hc] at hk1' hk2 ⊢
        clear h5 hb hb3 hk1 hs3 hc
        go_wp2
        go_loop [26] (fun s => ∃ d : Nat, d ≤ D ∧ s = .int .i64 d ∧ ∀ d' p', d' < d → p' = (home l o + d') % t.length → ¬ t.getD p' 0 < 0) (fun s => t.length - (intOf s).toNat)
        case atStart => exact ⟨0, Nat.zero_le _, rfl, fun d' p' h => by omega⟩
        case round =>
          obtain ⟨d, hdle, rfl, hf⟩ := hrel
          have HF := Lib.hid hf
          clear hf
          obtain ⟨p, hpd⟩ : ∃ p, p = (home l o + d) % t.length := ⟨_, rfl⟩
          have hp : p < t.length := by rw [hpd]; exact Nat.mod_lt _ (by omega)
          have HPD := Lib.hid hpd
          clear hpd
          obtain ⟨y, hcell2, hy⟩ := h53.get (k := p) (by rw [hT]; omega)
          have hy2 : t.getD p 0 = y := by rw [← hy.out, full_get hp]
          have hyr := v3.range p hp
          rw [hy2] at hyr
          have HY := Lib.hid hy2
          clear hy2 hy
          go_wp2_with fail
          refine (lookFrom1_any t.length (home l o) d (by omega) (by omega) (by omega) (by omega) c (c + 1) _ hk1' hk2).mono ?_
          rintro e w' ⟨rfl, rfl⟩
          rw [← HPD.out]
          by_cases hpi : p = i
          · have hdD : d = D := by rw [HD.out]; exact off_uniq hhl hit (by omega) (by rw [← HPD.out]; exact hpi)
            have HDD := Lib.hid hdD
            have hb2 : ((p : Int) == i) = true := by simp [hpi]
            clear hdD hpi
            go_wp2
            go_roundw
            case rel =>
              refine ⟨i + 1, by omega, by go_num, fun j h1 h2 h3 => ?_, h53, hb4⟩
              by_cases e : j = i
              · subst e
                refine hRe.out.2 (fun d' p' h1 h2 => ?_)
                have := HF.out d' p' (by rw [HDD.out, HD.out]; exact h1) h2; omega
              · exact HR.out j (by omega) h2 (by omega)
            case measure => simp [intOf]; omega
          · have hb2 : ((p : Int) == i) = false := by simp; omega
            have hdD : d < D := by
              apply Classical.byContradiction
              intro hn
              have hdD : d = D := by omega
              exact hpi (by rw [HPD.out, hdD, HD.out]; exact off_end hhl hit)
            by_cases hy0 : y = -1
            · have hb3 : (y == -1) = true := by simp [hy0]
              have HY0 := Lib.hid hy0
              clear hy0
              go_wp2
              try rw [Exit.noGoto_ret]
              go_ret
              refine ⟨ret_bool (FD_false fun hh => ?_).symm, hb4⟩
              have := hRe.out.1 (by have := hh.2 i hit (by rw [HX2.out]; omega); rwa [Int.toNat_natCast] at this) d p (by rw [← HD.out]; exact hdD) HPD.out
              rw [HY.out, HY0.out] at this
              omega
            · have hb3 : (y == -1) = false := by simpa using hy0
              go_wp2
              go_round
              case rel =>
                refine ⟨d + 1, by omega, by go_num, fun d' p' h1 h2 => ?_⟩
                by_cases e : d' = d
                · subst e
                  rw [h2, ← HPD.out, HY.out]; omega
                · have := HF.out d' p' (by omega) h2; omega
              case measure => simp [intOf]; omega
    · obtain rfl : i = 10 := by omega
      go_wp2
      try rw [Exit.noGoto_ret]
      go_ret
      refine ⟨ret_bool (FD_iff.2 ⟨hv, fun j h1 h2 => ?_⟩).symm, hb⟩
      rw [Int.toNat_natCast]
      exact HR.out j (by omega) h1 (by omega)

theorem implIsFound_any (m : Int) (a : Option Addr) (l : List Int) (cap : Nat) (a2 : Option Addr) (t : List Int) (cap2 : Nat) (w : World) (_hm : In64 m) (hr : Reads w a l) (_hi : ∀ n ∈ l, In64 n) (_hl : l.length ≤ 1048586) (hr2 : Reads w a2 t) (_hi2 : ∀ n ∈ t, In64 n) (_ht : t.length ≤ 1048586) :
    Calls Try.prog 25 #[.int .i64 m, .slice a l.length cap, .slice a2 t.length cap2] w fun e w' => e = .returned (.bool (FD m l t)) ∧ Below w.heap.size w w' := by
  by_cases hv : VT m l t = true
  · obtain ⟨M, rfl⟩ := Int.eq_ofNat_of_zero_le (show 0 ≤ m by have := (VH_iff.1 (VT_iff.1 hv).1).1; omega)
    go_enter Try.func25, Try.ntmps25
    go_wp2_with fail
    refine (readTable_all _ _ _ _ _ _ _ _ hr hr2).mono ?_
    rintro e w1 ⟨T, rfl, hT, hTf, hb1⟩
    obtain rfl := hTf hv
    clear hTf
    have h7 : Arr (w1.alloc (.cells (arr (List.replicate 10 0)) 68)) 68 w1.heap.size (List.replicate 10 0) := Arr.new _ _ _
    rw [arr_zero10] at h7
    go_wp2_with (refine store_arr rfl _ _ _ rfl _ rfl _ _ rfl _ _ h7 inf_slot hT rfl ?_)
    intro w2 h72 hg2
    have B2 : Below w.heap.size w w2 := (hb1.alloc hb1.size _).grown hg2 (by simp; have := hb1.size; omega) (fun q hq => by cases hq; exact hb1.size)
    have hrr := hr.below B2
    go_wp2_with (refine load_arr_g rfl _ _ rfl _ rfl _ _ _ _ h72 und_slot inf_slot hT ?_)
    go_wp2_with fail
    refine (isReached_any M a l _ t _ hrr hv).mono ?_
    rintro e w3 ⟨rfl, hb3⟩
    go_wp2
    go_ret
    exact ⟨rfl, B2.trans (hb3.mono B2.size)⟩
  · have hv' : VT m l t = false := by simpa using hv
    have hF : FD m l t = false := FD_false fun hh => hv hh.1
    rw [hF]
    clear hF hv
    go_enter Try.func25, Try.ntmps25
    go_wp2_with fail
    refine (readTable_all _ _ _ _ _ _ _ _ hr hr2).mono ?_
    rintro e w1 ⟨T, rfl, hT, _, hb1⟩
    have h7 : Arr (w1.alloc (.cells (arr (List.replicate 10 0)) 68)) 68 w1.heap.size (List.replicate 10 0) := Arr.new _ _ _
    rw [arr_zero10] at h7
    go_wp2_with (refine store_arr rfl _ _ _ rfl _ rfl _ _ rfl _ _ h7 inf_slot hT rfl ?_)
    intro w2 h72 hg2
    have B2 : Below w.heap.size w w2 := (hb1.alloc hb1.size _).grown hg2 (by simp; have := hb1.size; omega) (fun q hq => by cases hq; exact hb1.size)
    go_wp2
    go_ret
    exact ⟨rfl, B2⟩
end Go.Proofs.Ytapkalpmnldhpab
