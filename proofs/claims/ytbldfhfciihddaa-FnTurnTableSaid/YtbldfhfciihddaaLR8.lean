/-
  laws.FnTurnTable: the walk.
-/
import Derived.Test.YtbldfhfciihddaaZE
import Derived.Test.YtbldfhfciihddaaDD
import Derived.Test.YtbldfhfciihddaaLG
import Derived.Deep.Cut
import Derived.BigRegion
import Derived.BigQuiet
namespace Go.Proofs.Ytbldfhfciihddaa
open Go.RowKit

/-- How often each of L servers comes among the first j. -/
def cl (T : List Int) (L j : Nat) : List Int := (List.range L).map fun s : Nat => (((T.take j).countP fun x => decide (x = (s : Int)) : Nat) : Int)
theorem cl_len (T : List Int) (L j : Nat) : (cl T L j).length = L := by simp [cl]
theorem cl_zero (T : List Int) (L : Nat) : cl T L 0 = List.replicate L 0 := by
  apply List.ext_getElem
  · simp [cl]
  · intro i h1 h2; simp [cl]
theorem cl_get {T : List Int} {L j s : Nat} (h : s < L) : (cl T L j).getD s 0 = (((T.take j).countP fun x => decide (x = (s : Int)) : Nat) : Int) := by
  simp [cl, List.getD, h]
theorem cl_succ {T : List Int} {L j s : Nat} (hj : j < T.length) (hs : s < L) (e : T.getD j 0 = (s : Int)) : (cl T L j).set s ((cl T L j).getD s 0 + 1) = cl T L (j + 1) := by
  have hT : T[j] = (s : Int) := by simpa [List.getD, hj] using e
  apply List.ext_getElem
  · simp [cl]
  · intro i h1 h2
    have hi : i < L := by simpa [cl] using h2
    have hc : (T.take (j + 1)).countP (fun x => decide (x = (i : Int))) = (T.take j).countP (fun x => decide (x = (i : Int))) + if s = i then 1 else 0 := by
      rw [List.take_succ_eq_append_getElem hj, List.countP_append, List.countP_singleton, hT]
      congr 1
      by_cases e2 : s = i
      · subst e2; simp
      · have : ¬ ((s : Int) = (i : Int)) := by omega
        simp [e2, this]
    rw [List.getElem_set]
    by_cases e2 : s = i
    · subst e2
      rw [if_pos rfl, cl_get hs]
      simp only [cl, List.getElem_map, List.getElem_range]
      rw [hc, if_pos rfl]; rfl
    · rw [if_neg e2]
      simp only [cl, List.getElem_map, List.getElem_range]
      rw [hc, if_neg e2]; rfl
theorem cl_sum {T : List Int} {L : Nat} (h : ∀ i, i < T.length → ∃ s : Nat, s < L ∧ T.getD i 0 = (s : Int)) : ∀ j, j ≤ T.length → (cl T L j).sum = j := by
  intro j
  induction j with
  | zero =>
    intro _
    rw [cl_zero]
    clear h
    induction L with
    | zero => rfl
    | succ n ih => rw [List.replicate_succ, List.sum_cons, ih]; rfl
  | succ j ih =>
    intro hj
    obtain ⟨s, hs, e⟩ := h j (by omega)
    rw [← cl_succ (by omega) hs e, set_sumI (by rw [cl_len]; exact hs), ih (by omega)]
    omega
theorem summ_sum8 (l : List Int) : summ l = l.sum := by
  induction l with
  | nil => rfl
  | cons x l ih => rw [summ, List.sum_cons, ih]
theorem tt_all {tu : List (Int × Int)} (h : VU tu = true) {i : Nat} (hi : i < 13) : ∃ s : Nat, s < tu.length ∧ (tt tu 13).getD i 0 = (s : Int) := by
  have h1 := tt_free h 13 (Nat.le_refl _)
  have h2 := tt_cell h 13 i hi
  rw [Nat.sub_self, List.countP_eq_zero] at h1
  have hl : i < (tt tu 13).length := by rw [tt_len]; exact hi
  have h3 := h1 ((tt tu 13).getD i 0) (by
    simp only [List.getD, List.getElem?_eq_getElem hl, Option.getD_some]; exact List.getElem_mem hl)
  simp only [decide_eq_true_eq] at h3
  exact ⟨((tt tu 13).getD i 0).toNat, by omega, by omega⟩
theorem cl_even {tu : List (Int × Int)} (h : VU tu = true) {i k : Nat} (hi : i < tu.length) (hk : k < tu.length) : (cl (tt tu 13) tu.length 13).getD i 0 ≤ (cl (tt tu 13) tu.length 13).getD k 0 + 1 ∧ (i < k → (cl (tt tu 13) tu.length 13).getD k 0 ≤ (cl (tt tu 13) tu.length 13).getD i 0) := by
  have hl := VU_iff.1 h
  have ht : (tt tu 13).take 13 = tt tu 13 := List.take_of_length_le (by rw [tt_len]; exact Nat.le_refl _)
  rw [cl_get hi, cl_get hk, ht, tt_cnt h i 13 (Nat.le_refl _), tt_cnt h k 13 (Nat.le_refl _)]
  obtain ⟨h1, h2⟩ := even_all ⟨tu.length, by omega⟩ hl.1 ⟨i, by omega⟩ ⟨k, by omega⟩ hi hk
  simp only at h1 h2
  exact ⟨by omega, fun hik => by have := h2 hik; omega⟩

set_option maxHeartbeats 8000000 in
set_option maxRecDepth 100000 in
theorem lawFnTurnTable (a : Option Addr) (n cap : Nat) (w : World) (hBy : Bytes w w.heap.size a n) (hn : n ≤ 9223372036854775807) (hc : n ≤ cap) :
    Calls Try.prog 9 #[.slice a n cap] w fun e w' => e = .returned (.bool true) ∧ Below w.heap.size w w' := by
  by_cases hbig : 1048576 < n
  · go_enter Try.func9, Try.ntmps9
    go_wp2
    go_ret
    exact ⟨rfl, Below.refl _ _⟩
  go_enter Try.func9, Try.ntmps9
  go_wp2_with fail
  refine (drawTurnTable_any a n cap w hBy hn hc).mono ?_
  rintro e w1 ⟨v, tu, rfl, ho, hl, B1⟩
  obtain ⟨av, cv, rfl, hr, _, _, _⟩ := ho.form
  clear hBy hn hc ho
  obtain ⟨R, hR⟩ : ∃ R, R = TT tu := ⟨_, rfl⟩
  have hRl : R.length ≤ 1048586 := by rw [hR]; exact TT_len tu
  have i1 := fun wx (h : ReadsP wx av tu) => implTurnTable_any av tu cv wx h (by omega)
  have s1 := fun wx (h : ReadsP wx av tu) => specTurnTable_any av tu cv wx h (by omega)
  rw [← hR] at i1 s1
  have CI := Lib.hid i1
  have CS := Lib.hid s1
  have HR := Lib.hid hR
  have HRL := Lib.hid hRl
  clear hR i1 s1 hRl
  go_wp2_with fail
  refine (CI.out _ hr).mono ?_
  rintro e w2 ⟨v2, rfl, ho2, b2⟩
  have hr2 := hr.below b2
  have B2 := B1.trans (b2.mono B1.size)
  obtain ⟨a2, c2, rfl, hq2, _, _, _⟩ := ho2.form
  clear b2 B1 hr ho2
  go_wp2_with fail
  refine (CS.out _ hr2).mono ?_
  rintro e w3 ⟨v3, rfl, ho3, b3⟩
  have hr3 := hr2.below b3
  have B3 := B2.trans (b3.mono B2.size)
  have hq3 := hq2.below b3
  obtain ⟨a3, c3, rfl, hs3, _, _, _⟩ := ho3.form
  clear b3 B2 hr2 ho3 hq2
  have ce := equalInts_any a2 a3 R R c2 c3 w3 hq3 hs3 HRL.out HRL.out
  rw [eqL_self] at ce
  have CE := Lib.hid ce
  clear ce
  go_wp2_with fail
  refine CE.out.mono ?_
  rintro e w4 ⟨rfl, m4, rfl⟩
  have hr4 := hr3.below (below_drewN (Below.refl _ w3) m4)
  have hq4 := hq3.below (below_drewN (Below.refl _ w3) m4)
  have B4 := below_drewN B3 m4
  obtain ⟨w4, hw4⟩ : ∃ w4, w4 = w3.drewN m4 := ⟨_, rfl⟩
  rw [← hw4] at hr4 hq4 B4 ⊢
  clear hw4 B3 hq3 hr3 hs3 CE
  by_cases hv : VU tu = true
  · have hRe : R = tt tu 13 := by rw [HR.out]; unfold TT; rw [if_pos hv]
    have hRn : R.length = 13 := by rw [hRe, tt_len]
    have hl1 := (VU_iff.1 hv).1
    have hl6 := (VU_iff.1 hv).2.1
    have hall : ∀ j, j < 13 → ∃ s : Nat, s < tu.length ∧ R.getD j 0 = (s : Int) := fun j hj => by rw [hRe]; exact tt_all hv hj
    have heven : ∀ i k, i < tu.length → k < tu.length → (cl R tu.length 13).getD i 0 ≤ (cl R tu.length 13).getD k 0 + 1 ∧ (i < k → (cl R tu.length 13).getD k 0 ≤ (cl R tu.length 13).getD i 0) := fun i k hi hk => by rw [hRe]; exact cl_even hv hi hk
    have hsum : summ (cl R tu.length 13) = 13 := by
      rw [summ_sum8, cl_sum (fun i hi => hall i (by omega)) 13 (by omega)]; rfl
    have hbd : ∀ j s, s < tu.length → 0 ≤ (cl R tu.length j).getD s 0 ∧ (cl R tu.length j).getD s 0 ≤ 13 := fun j s hs => by
      rw [cl_get hs]
      have h1 := List.countP_le_length (p := fun x => decide (x = (s : Int))) (l := R.take j)
      rw [List.length_take] at h1
      omega
    have hbnd : ∀ x ∈ cl R tu.length 13, -1000 ≤ x ∧ x ≤ 1000 := fun x hx => by
      obtain ⟨i, hi, rfl⟩ := List.getElem_of_mem hx
      have h1 := hbd 13 i (by rw [cl_len] at hi; exact hi)
      simp only [List.getD, List.getElem?_eq_getElem hi, Option.getD_some] at h1
      omega
    have hmk := run_make_row' (P := Try.prog) 23 3 (.int .i64 0) 8 Try.underlying23 infoInt rfl .i64 .i64 tu.length (by omega) (by omega)
    have xA := made_tabR w4 w4.heap.size tu.length (Nat.le_refl _) (by omega)
    rw [← cl_zero R] at xA
    obtain ⟨BB, hBB⟩ : ∃ BB, BB = madeCells #[.int .i64 0] tu.length := ⟨_, rfl⟩
    rw [← hBB] at hmk xA
    have bA := (Below.refl w4.heap.size w4).alloc (Nat.le_refl _) (.cells BB 3)
    have HALL := Lib.hid hall
    have HEV := Lib.hid heven
    have HSUM := Lib.hid hsum
    have HBD := Lib.hid hbd
    have HBN := Lib.hid hbnd
    have HRN := Lib.hid hRn
    rw [hRn]
    clear hv hRe hRn hall heven hsum hbd hbnd hBB CI CS HR
    go_wp2_with fail
    go_loopw [6] (fun iv wr => ∃ j : Nat, j ≤ 13 ∧ iv = .int .i64 j ∧ Tab wr w4.heap.size w4.heap.size tu.length tu.length (cl R tu.length j) ∧ Below w4.heap.size w4 wr) (fun iv _ => 13 - (intOf iv).toNat)
    case atStart => exact ⟨0, by omega, rfl, xA, bA⟩
    case round =>
      clear xA bA hmk
      obtain ⟨j, hj, rfl, hT, hB⟩ := hrel
      by_cases hlt : j < 13
      · have hj1 : (j : Int) < 13 := by omega
        obtain ⟨s, hs, hRs⟩ := HALL.out j hlt
        obtain ⟨bo, oo, yb, rfl, hbo, hco, hyb⟩ := (hq4.below hB).get (k := j) (by rw [HRN.out]; exact hlt)
        rw [hRs] at hyb
        have hyb' := hyb.out
        subst hyb'
        obtain ⟨c0, hcc, hc0⟩ := hT.get (k := s) hs
        have hfC := hT.frozen s
        have hst := cl_succ (T := R) (L := tu.length) (j := j) (s := s) (by rw [HRN.out]; exact hlt) hs hRs
        have hb0 := HBD.out j s hs
        rw [hc0.out] at hst hb0
        have hcw : IntKind.i64.wrap (c0 + 1) = c0 + 1 := IntWalk.i64_in _ (by omega)
        have T2 := hT.store s (c0 + 1)
        rw [hst] at T2
        have hB2 := hB.setCell (p := ⟨w4.heap.size, s, none⟩) (Nat.le_refl _) (.int .i64 (c0 + 1))
        have hsl : (s : Int) < (tu.length : Int) := by omega
        clear hRs hyb hc0 hst hT hB
        go_upto_region 11 with fail
        go_region
        all_goals
          go_wp2
          go_roundw
          case rel => exact ⟨j + 1, by omega, by go_num, T2.below (Below.refl _ _).drew, hB2.drew⟩
          case measure => simp [intOf]; omega
      · obtain rfl : j = 13 := by omega
        go_wp2_with fail
        go_loopw [7] (fun iv wx => ∃ i q : Nat, i ≤ tu.length ∧ iv = .int .i64 i ∧ wx = wr.drewN q) (fun iv _ => tu.length - (intOf iv).toNat)
        case atStart => exact ⟨0, 0, by omega, rfl, rfl⟩
        case round =>
          obtain ⟨i, q, hi, rfl, rfl⟩ := hrel
          by_cases hil : i < tu.length
          · have hi1 : (i : Int) < (tu.length : Int) := by omega
            go_wp2_with fail
            go_loopw [8] (fun kv wx => ∃ k q : Nat, k ≤ tu.length ∧ kv = .int .i64 k ∧ wx = wr.drewN q) (fun kv _ => tu.length - (intOf kv).toNat)
            case atStart => exact ⟨0, q, by omega, rfl, rfl⟩
            case round =>
              obtain ⟨k, q, hk, rfl, rfl⟩ := hrel
              by_cases hkl : k < tu.length
              · have hk1 : (k : Int) < (tu.length : Int) := by omega
                obtain ⟨ci, hci, hci2⟩ := hT.get (k := i) hil
                obtain ⟨ck, hck, hck2⟩ := hT.get (k := k) hkl
                have he := HEV.out i k hil hkl
                have hb1 := HBD.out 13 k hkl
                rw [hck2.out] at hb1
                rw [hci2.out, hck2.out] at he
                obtain ⟨he1, he2⟩ := he
                have hcw : IntKind.i64.wrap (ck + 1) = ck + 1 := IntWalk.i64_in _ (by omega)
                have d1 : decide (ci > ck + 1) = false := by simp; omega
                have d2 : decide (ck + 1 < ci) = false := by simp; omega
                clear hci2 hck2 hb1
                by_cases hik : i < k
                · have h3 := he2 hik
                  have d3 : decide ((i : Int) < (k : Int)) = true := by simp; omega
                  have d4 : decide (ci < ck) = false := by simp; omega
                  clear he2
                  go_wp2
                  go_quiet (fail)
                  all_goals
                    go_wp2
                    go_roundw
                    case rel => exact ⟨k + 1, _, by omega, by go_num, by first | rfl | exact World.drewN_drewN _ _ _⟩
                    case measure => simp [intOf]; omega
                · have d3 : decide ((i : Int) < (k : Int)) = false := by simp; omega
                  clear he2
                  go_wp2
                  go_quiet (fail)
                  all_goals
                    go_wp2
                    go_roundw
                    case rel => exact ⟨k + 1, _, by omega, by go_num, by first | rfl | exact World.drewN_drewN _ _ _⟩
                    case measure => simp [intOf]; omega
              · obtain rfl : k = tu.length := by omega
                go_wp2
                go_roundw
                case rel => exact ⟨i + 1, q, by omega, by go_num, rfl⟩
                case measure => simp [intOf]; omega
          · obtain rfl : i = tu.length := by omega
            have hTq := hT.below (below_drewN (Below.refl _ wr) q)
            have hBq := (below_drewN hB q)
            have BB4 := B4.trans (hBq.mono B4.size)
            have ct := total_any (some ⟨w4.heap.size, 0, none⟩) (cl R tu.length 13) tu.length _ hTq.reads (by rw [cl_len]; omega) HBN.out
            rw [HSUM.out, cl_len] at ct
            have CT := Lib.hid ct
            clear ct hTq hT
            go_wp2_with fail
            refine CT.out.mono ?_
            rintro e w5 ⟨rfl, rfl⟩
            go_wp2
            go_ret
            exact ⟨rfl, BB4⟩
  · have hRe : R = [] := by rw [HR.out]; unfold TT; rw [if_neg hv]
    subst hRe
    clear hv
    go_wp2_with fail
    refine (CS.out _ hr4).mono ?_
    rintro e w5 ⟨v5, rfl, ho5, b5⟩
    have B5 := B4.trans (b5.mono B4.size)
    have hq5 := hq4.below b5
    obtain ⟨a5, c5, rfl, hs5, _, _, _⟩ := ho5.form
    have ce := equalInts_any a2 a5 [] [] c2 c5 w5 hq5 hs5 (by simp) (by simp)
    rw [eqL_self] at ce
    have CE := Lib.hid ce
    clear ce
    go_wp2_with fail
    refine CE.out.mono ?_
    rintro e w6 ⟨rfl, m6, rfl⟩
    go_wp2
    go_ret
    exact ⟨rfl, below_drewN B5 m6⟩
end Go.Proofs.Ytbldfhfciihddaa
