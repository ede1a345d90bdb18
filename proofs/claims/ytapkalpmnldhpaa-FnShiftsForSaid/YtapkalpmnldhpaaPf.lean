/-
  spec.ShiftsFor.
-/
import Derived.Test.YtapkalpmnldhpaaPe
namespace Go.Proofs.Ytapkalpmnldhpaa
open Go.RowKit

theorem SF_no {m : Int} {ts : List (List Int)} (h : VB m ts = false) : SF m ts = ([], false) := by unfold SF; rw [h]; rfl

theorem made_tabB (w : World) (base n : Nat) (hb : base ≤ w.heap.size) (hn : n ≤ 10) : TabB (w.alloc (.cells (madeCells #[.bool false] n) 4)) base w.heap.size n n (List.replicate n false) := by
  have e := toList_madeCells_one (Value.bool false) n
  have := World.ownsRow_lit (e := 4) (size := 1) (base := base) w (madeCells #[.bool false] n) n hb (by unfold maxLen; omega) (by rw [← Array.length_toList, e]; simp)
  rw [e] at this
  unfold TabB
  rw [List.map_replicate]
  exact this
theorem made_tab (w : World) (base n : Nat) (hb : base ≤ w.heap.size) (hn : n ≤ 10) : Tab (w.alloc (.cells (madeCells #[.int .i64 0] n) 3)) base w.heap.size n n (List.replicate n 0) := by
  have e := toList_madeCells_one (Value.int .i64 0) n
  have := World.ownsRow_lit (e := 3) (size := 1) (base := base) w (madeCells #[.int .i64 0] n) n hb (by unfold maxLen; omega) (by rw [← Array.length_toList, e]; simp)
  rw [e] at this
  unfold Tab
  rw [List.map_replicate]
  exact this

set_option maxHeartbeats 8000000 in
set_option maxRecDepth 20000 in
theorem specShiftsFor_any (m : Int) (a : Option Addr) (ts : List (List Int)) (cap : Nat) (w : World) (hm : In64 m) (hr : ReadsS w a ts) (hl : bulk ts ≤ 1048586) :
    Calls Try.prog 36 #[.int .i64 m, .slice a ts.length cap] w fun e w' => ∃ v, e = .returned (.tuple #[v, .bool (SF m ts).2]) ∧ Own w' w.heap.size v (SF m ts).1 ∧ Below w.heap.size w w' := by
  have hblen := bulk_len ts
  obtain ⟨mm, hmm⟩ : ∃ mm, IntKind.i64.wrap (m - 1) = mm := ⟨_, rfl⟩
  have hmm1 : 1 ≤ m → mm = m - 1 := fun h => by rw [← hmm]; exact IntWalk.i64_in _ (by unfold In64 at hm; omega)
  have HM := Lib.hid hmm1
  have ho0 := Own.lit0 w w.heap.size (Nat.le_refl _)
  have hb0 := (Below.refl w.heap.size w).alloc (Nat.le_refl _) (.cells #[] 3)
  have HR := Lib.hid hr
  obtain ⟨S, hS⟩ : ∃ S, S = SF m ts := ⟨_, rfl⟩
  rw [← hS]
  have HS := Lib.hid hS
  clear hmm1 hS
  go_enter Try.func36, Try.ntmps36
  go_wp2_with fail
  go_loopw [8, 6, 7] (fun i c ov wr => ∃ k : Nat, k ≤ ts.length ∧ i = .int .i64 k ∧ c = .int .i64 (bulkK ts k : Nat) ∧ Own wr w.heap.size ov (ordL k) ∧ Hid (1 ≤ m → FitB m ts k) ∧ Below w.heap.size w wr) (fun i _ _ _ => ts.length - (intOf i).toNat)
  case atStart => exact ⟨0, Nat.zero_le _, rfl, by rw [bulkK_zero]; rfl, ho0, (fun _ r hr => by omega), hb0⟩
  case round =>
    clear ho0 hb0
    obtain ⟨k, hk, rfl, rfl, hov, hf, hb⟩ := hrel
    have hs := hb.size
    have hbk := bulkK_le hk
    obtain ⟨c, hc⟩ : ∃ c, c = bulkK ts k := ⟨_, rfl⟩
    rw [← hc] at hbk ⊢
    have HC := Lib.hid hc
    clear hc
    by_cases hlt : k < ts.length
    · obtain ⟨b, off, A, C, rfl, hbb, hc0, hrow0, hcap⟩ := hr.get hlt
      have hrl := bulk_row hlt
      have hbk2 := bulkK_le (show k + 1 ≤ ts.length by omega)
      rw [bulkK_succ hlt, ← HC.out] at hbk2
      obtain ⟨t, ht⟩ : ∃ t, t = tr ts k := ⟨_, rfl⟩
      rw [← ht] at hc0 hrow0 hcap hrl hbk2
      have HT := Lib.hid ht
      clear ht
      have hcw : wr.cell? ⟨b, off + k, none⟩ = some (.slice A t.length C) := (hb.cell (by exact hbb)).trans hc0
      have hk1 : (k : Int) < (ts.length : Int) := by omega
      clear hc0 hr
      go_wp2_with fail
      go_loopw [9, 6] (fun i cv wx => ∃ j : Nat, j ≤ t.length ∧ i = .int .i64 j ∧ cv = .int .i64 (c + j : Nat) ∧ Hid (1 ≤ m → FitR m t j) ∧ wx = wr) (fun i _ _ => t.length - (intOf i).toNat)
      case atStart => exact ⟨0, Nat.zero_le _, rfl, rfl, (fun _ r hr => by omega), rfl⟩
      case round =>
        obtain ⟨j, hj, rfl, rfl, hJ, rfl⟩ := hrel
        by_cases hlj : j < t.length
        · obtain ⟨b', off', y, rfl, hbb', hcell, hy⟩ := hrow0.get hlj
          have hj1 : (j : Int) < (t.length : Int) := by omega
          have hc1 := (hb.cell (p := ⟨b', off' + j, none⟩) (by exact hbb')).trans hcell
          have hsum : IntKind.i64.wrap (((c + j : Nat) : Int) + 1) = ((c + (j + 1) : Nat) : Int) := by
            have e : ((c + j : Nat) : Int) + 1 = ((c + (j + 1) : Nat) : Int) := by push_cast; omega
            rw [e]; exact IntWalk.i64_in _ (by omega)
          have cI := fun wx => inRange_any y 0 mm wx
          by_cases hok : inR y 0 mm = true
          · have hJ2 : Hid (1 ≤ m → FitR m t (j + 1)) := fun h1 => FitR.succ (hJ.out h1) (by
              have h2 := inR_iff.1 hok
              rw [HM.out h1] at h2
              rw [hy.out]; omega)
            rw [hok] at cI
            have CI := Lib.hid cI
            clear cI hok hcell hy
            go_wp2_with fail
            refine (CI.out _).mono ?_
            rintro e w2 ⟨rfl, rfl⟩
            go_wp2
            go_roundw
            case rel => exact ⟨j + 1, by omega, by go_num, by first | rfl | go_num, hJ2, by first | rfl | trivial⟩
            case measure => simp [intOf]; omega
          · have hv : VB m ts = false := by
              by_cases h1 : 1 ≤ m
              · refine VB_bad hlt (i := j) (by rw [← HT.out]; exact hlj) ?_
                rw [← HT.out, hy.out]
                intro h2
                exact hok (inR_iff.2 (by rw [HM.out h1]; omega))
              · exact VB_no fun h => h1 h.1
            rw [show inR y 0 mm = false from by simpa using hok] at cI
            have hSn : S = ([], false) := by rw [HS.out]; exact SF_no hv
            subst hSn
            have CI := Lib.hid cI
            clear cI hok hcell hy hv
            go_wp2_with fail
            refine (CI.out _).mono ?_
            rintro e w2 ⟨rfl, rfl⟩
            go_wp2
            go_ret2
            exact ⟨_, rfl, Own.nil _ _, hb⟩
        · obtain rfl : j = t.length := by omega
          have hf2 : Hid (1 ≤ m → FitB m ts (k + 1)) := fun h1 => FitB.succ (hf.out h1) (by rw [← HT.out]; exact hJ.out h1)
          have hc2 : c + t.length = bulkK ts (k + 1) := by rw [bulkK_succ hlt, HC.out, HT.out]
          have HC2 := Lib.hid hc2
          clear hc2
          have hkl : (ordL k).length < 1000000000000 := by rw [ordL_len]; omega
          go_wp2_with (at_builtin; refine push_int rfl _ _ rfl w.heap.size u7 (ordL k) (k : Int) rfl hov rfl hkl hs ?_)
          intro v' w' ho hnn hg
          have hb2 := Below.grownB hb hov hg hs (Nat.le_refl _)
          rw [← ordL_push] at ho
          have hk1w : IntKind.i64.wrap ((k : Int) + 1) = ((k + 1 : Nat) : Int) := by rw [Int.natCast_add]; exact IntWalk.i64_in _ (by omega)
          go_wp2
          go_roundw
          case rel => exact ⟨k + 1, by omega, by go_num, by rw [← HC2.out]; first | rfl | go_num | simp, ho, hf2, hb2⟩
          case measure => simp [intOf]; omega
    · obtain rfl : k = ts.length := by omega
      have cI := fun wx => inRange_any m 1 10 wx
      have hall : c = allN ts := by rw [HC.out]; exact bulkK_all ts
      by_cases hv : VB m ts = true
      · have h1 := VB_iff.1 hv
        rw [show inR m 1 10 = true from inR_yes h1.1 h1.2.1] at cI
        have CI := Lib.hid cI
        have h4 : ts.length ≤ 4 := h1.2.2.1
        have h8 : c ≤ 8 := by rw [hall]; exact h1.2.2.2.1
        have HV := Lib.hid hv
        have m1 := h1.1
        have m2 := h1.2.1
        obtain ⟨M, rfl⟩ : ∃ M : Nat, m = M := ⟨m.toNat, by omega⟩
        have hSe : S = SFr (shf M ts (List.replicate M false)) := by rw [HS.out]; unfold SF; rw [if_pos hv]; rfl
        rw [SFr_eq] at hSe
        have hfine := Fine.of_VB hv
        have HFI := Lib.hid hfine
        have hbr := hs
        have hn10 : ts.length ≤ 10 := by omega
        have hmkB := run_make_row' (P := Try.prog) 61 4 (.bool false) 1 Try.underlying61 infoBool rfl .i64 .i64 M (by omega) (by omega)
        have hmkI := run_make_row' (P := Try.prog) 24 3 (.int .i64 0) 8 Try.underlying24 infoInt rfl .i64 .i64 ts.length (by omega) (by omega)
        have bA1 := (Below.refl wr.heap.size wr).alloc (Nat.le_refl _) (.cells (madeCells #[.bool false] M) 4)
        have bA2 := bA1.alloc bA1.size (.cells (madeCells #[.int .i64 0] ts.length) 3)
        have xA1 := made_tabB wr wr.heap.size M (Nat.le_refl _) (by omega)
        have xA2 := xA1.below ((Below.refl _ _).alloc (Nat.le_refl _) (.cells (madeCells #[.int .i64 0] ts.length) 3))
        have yA2 := made_tab (wr.alloc (.cells (madeCells #[.bool false] M) 4)) wr.heap.size ts.length bA1.size hn10
        have bB1 := (Below.refl wr.heap.size wr).alloc (Nat.le_refl _) (.cells (madeCells #[.int .i64 0] ts.length) 3)
        have bB2 := bB1.alloc bB1.size (.cells (madeCells #[.bool false] M) 4)
        have yB1 := made_tab wr wr.heap.size ts.length (Nat.le_refl _) hn10
        have yB2 := yB1.below ((Below.refl _ _).alloc (Nat.le_refl _) (.cells (madeCells #[.bool false] M) 4))
        have xB2 := made_tabB (wr.alloc (.cells (madeCells #[.int .i64 0] ts.length) 3)) wr.heap.size M bB1.size (by omega)
        rw [World.size_alloc] at yA2 xB2
        obtain ⟨BB, hBB⟩ : ∃ BB, BB = madeCells #[.bool false] M := ⟨_, rfl⟩
        obtain ⟨II, hII⟩ : ∃ II, II = madeCells #[.int .i64 0] ts.length := ⟨_, rfl⟩
        rw [← hBB] at hmkB bA2 xA2 yA2 bB2 yB2 xB2
        rw [← hII] at hmkI bA2 xA2 yA2 bB2 yB2 xB2
        have BA2 := Lib.hid bA2
        have XA2 := Lib.hid xA2
        have YA2 := Lib.hid yA2
        have BB2 := Lib.hid bB2
        have XB2 := Lib.hid xB2
        have YB2 := Lib.hid yB2
        obtain ⟨ao, co, rfl, hro, _, _, _⟩ := hov.form
        rw [ordL_len] at hov ⊢
        obtain ⟨T0, hT0⟩ : ∃ T0, T0 = List.replicate M false := ⟨_, rfl⟩
        rw [← hT0] at hSe
        have hcall : ∀ gu go wx, Below wr.heap.size wr wx → TabB wx wr.heap.size gu M M (List.replicate M false) → Tab wx wr.heap.size go ts.length ts.length (List.replicate ts.length 0) → Calls Try.prog 70 #[.int .i64 M, .slice a ts.length cap, .slice ao ts.length co, .int .i64 0, .slice (some ⟨gu, 0, none⟩) M M, .slice (some ⟨go, 0, none⟩) ts.length ts.length] wx fun e w' => ∃ v, e = .returned (.tuple #[v, .bool (shf M ts T0).isSome]) ∧ Own w' wr.heap.size v ((shf M ts T0).getD []) ∧ Below wx.heap.size wx w' := by
          intro gu go wx hbx hTB hTI
          have := shiftFrom_any M (by omega) (by omega) ts h4 HFI.out a cap ao co ts.length 0 gu M wr.heap.size (List.replicate M false) wr.heap.size (.slice (some ⟨go, 0, none⟩) ts.length ts.length) (List.replicate ts.length 0) wx (by omega) ((HR.out.below hb).below hbx) (hro.below hbx) hTB hTI.own (by simp) hbx.size
          rw [List.drop_zero, ← hT0] at this
          refine this.mono ?_
          rintro e w' ⟨v, rfl, ho, hb'⟩
          refine ⟨v, rfl, ?_, hb'⟩
          cases hq : shf M ts T0 with
          | none => rw [hq] at ho; exact ho
          | some r => rw [hq] at ho; exact ho
        have HCALL := Lib.hid hcall
        have HSE := Lib.hid hSe
        clear hcall hSe hT0 hBB hII bA1 bA2 xA1 xA2 yA2 bB1 bB2 yB1 yB2 xB2 hfine hro hov hr
        clear cI hv h1
        go_wp2_with fail
        refine (CI.out _).mono ?_
        rintro e w2 ⟨rfl, rfl⟩
        have hd1 : decide ((4 : Int) < (ts.length : Int)) = false := by simp; omega
        have hd2 : decide ((8 : Int) < (c : Int)) = false := by simp; omega
        go_upto_region 15 with fail
        go_region_held3 (fun w' => True) (trivial)
          (first | (go_at_call 70; refine (HCALL.out _ _ _ ?_ ?_ ?_).mono ?_; (first | exact BA2.out.drew | exact BB2.out.drew); (first | exact XA2.out | exact XB2.out); (first | exact YA2.out | exact YB2.out); rintro e w3 ⟨v, rfl, ho, b3⟩))
        · have hb3 : Below wr.heap.size wr w3 := BA2.out.drew.trans (b3.mono BA2.out.drew.size)
          have hB3 := hb.trans (hb3.mono hs)
          have ho2 := ho.mono hs
          have hS2 := HSE.out
          subst hS2
          clear HS
          go_wp2
          go_ret2
          exact ⟨v, rfl, ho2, hB3⟩
        · have hb3 : Below wr.heap.size wr w3 := BB2.out.drew.trans (b3.mono BB2.out.drew.size)
          have hB3 := hb.trans (hb3.mono hs)
          have ho2 := ho.mono hs
          have hS2 := HSE.out
          subst hS2
          clear HS
          go_wp2
          go_ret2
          exact ⟨v, rfl, ho2, hB3⟩
      · have hv' : VB m ts = false := by simpa using hv
        have hSn : S = ([], false) := by rw [HS.out]; exact SF_no hv'
        subst hSn
        by_cases hin : inR m 1 10 = true
        · rw [hin] at cI
          have CI := Lib.hid cI
          have hin2 := inR_iff.1 hin
          have hff := hf.out hin2.1
          by_cases h4 : ts.length ≤ 4
          · have h8 : ¬ c ≤ 8 := fun h8 => hv (VB_iff.2 ⟨hin2.1, hin2.2, h4, by rw [← hall]; exact h8, hff⟩)
            have hd1 : decide ((4 : Int) < (ts.length : Int)) = false := by simp; omega
            have hd2 : decide ((8 : Int) < (c : Int)) = true := by simp; omega
            clear hin hff hv hv' cI
            go_wp2_with fail
            refine (CI.out _).mono ?_
            rintro e w2 ⟨rfl, rfl⟩
            go_wp2
            go_ret2
            exact ⟨_, rfl, Own.nil _ _, hb⟩
          · have hd1 : decide ((4 : Int) < (ts.length : Int)) = true := by simp; omega
            clear hin hff hv hv' cI
            go_wp2_with fail
            refine (CI.out _).mono ?_
            rintro e w2 ⟨rfl, rfl⟩
            go_wp2
            go_ret2
            exact ⟨_, rfl, Own.nil _ _, hb⟩
        · rw [show inR m 1 10 = false from by simpa using hin] at cI
          have CI := Lib.hid cI
          clear hin hv hv' cI
          go_wp2_with fail
          refine (CI.out _).mono ?_
          rintro e w2 ⟨rfl, rfl⟩
          go_wp2
          go_ret2
          exact ⟨_, rfl, Own.nil _ _, hb⟩
end Go.Proofs.Ytapkalpmnldhpaa
