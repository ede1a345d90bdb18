/-
  spec.BoundedOwners.
-/
import Derived.Test.YtbldfhfciihddaaY3
import Derived.Test.YtbldfhfciihddaaR3
import Derived.Test.YtbldfhfciihddaaD4
import Derived.Deep.Cut
import Derived.BigRegion
import Derived.BigQuiet
namespace Go.Proofs.Ytbldfhfciihddaa
open Go.RowKit

/-- The number of the server so far. -/
def bi : Option Nat → Int
  | none => -1
  | some b => (b : Int)
theorem bb_succ (g : Nat → Bool) (f : Nat → Int) (s : Nat) : bb g f (s + 1) = if g s = true ∧ (∀ b, bb g f s = some b → f s < f b) then some s else bb g f s := rfl
theorem bs_succ1 {ps ks : List Int} {load : Int} {j b : Nat} (h : nb ps load (bs ps ks load j).1 (ks.getD j 0) = some b) : (bs ps ks load (j + 1)).1 = (bs ps ks load j).1.set b ((bs ps ks load j).1.getD b 0 + 1) := by
  rw [bs, h]; rfl
theorem bs_succ2 {ps ks : List Int} {load : Int} {j b : Nat} (h : nb ps load (bs ps ks load j).1 (ks.getD j 0) = some b) : (bs ps ks load (j + 1)).2 = (bs ps ks load j).2 ++ [(b : Int)] := by
  rw [bs, h]; rfl
theorem Own.store_other {w : World} {base : Nat} {v : Value} {l : List Int} (h : Own w base v l) {g : Nat} (hg : g < base) (k : Nat) (x : Value) : Own (w.setCell ⟨g, k, none⟩ x) base v l :=
  h.kept (grownBy_setCell_any w ⟨g, k, none⟩ x) (h.ne_g hg)

set_option maxHeartbeats 8000000 in
set_option maxRecDepth 100000 in
theorem specBoundedOwners_any (a : Option Addr) (l : List Int) (cap : Nat) (ak : Option Addr) (ks : List Int) (ck : Nat) (load : Int) (w : World) (hr : Reads w a l) (_hi : ∀ n ∈ l, In64 n) (hl : l.length ≤ 1048586) (hcap : l.length ≤ cap) (hrk : Reads w ak ks) (_hik : ∀ n ∈ ks, In64 n) (hlk : ks.length ≤ 1048586) (_hck : ks.length ≤ ck) (_hload : In64 load) :
    Calls Try.prog 47 #[.slice a l.length cap, .slice ak ks.length ck, .int .i64 load] w fun e w' => ∃ v, e = .returned (.tuple #[v, .bool (BO l ks load).2]) ∧ Own w' w.heap.size v (BO l ks load).1 ∧ Below w.heap.size w w' := by
  have cV := specvalidRing_any a l cap w hr hl hcap
  obtain ⟨F, hF⟩ : ∃ F, F = BO l ks load := ⟨_, rfl⟩
  rw [← hF]
  have HF := Lib.hid hF
  clear hF
  by_cases hv : VR l = true
  rotate_left
  · have e : F = ([], false) := by rw [HF.out]; exact BO_no fun h => hv h.1
    subst e
    rw [show VR l = false from by simpa using hv] at cV
    have CV := Lib.hid cV
    clear cV hv
    go_enter Try.func47, Try.ntmps47
    go_wp2_with fail
    refine CV.out.mono ?_
    rintro e w' ⟨rfl, n, rfl⟩
    go_wp2
    go_ret2
    exact ⟨_, rfl, Own.nil _ _, below_drewN (Below.refl _ _) n⟩
  rw [hv] at cV
  have CV := Lib.hid cV
  have hl1 := (VR_iff.1 hv).1
  have hl6 := (VR_iff.1 hv).2.1
  have HV := Lib.hid hv
  clear cV hv
  by_cases hk8 : 8 < ks.length
  · have e : F = ([], false) := by rw [HF.out]; exact BO_no fun h => by have := h.2.1; omega
    subst e
    have hk8' : (ks.length : Int) > 8 := by omega
    go_enter Try.func47, Try.ntmps47
    go_wp2_with fail
    refine CV.out.mono ?_
    rintro e w' ⟨rfl, n, rfl⟩
    go_wp2
    go_ret2
    exact ⟨_, rfl, Own.nil _ _, below_drewN (Below.refl _ _) n⟩
  have hk8' : ¬ (ks.length : Int) > 8 := by omega
  by_cases hld : inR load 1 8 = true
  rotate_left
  · have e : F = ([], false) := by rw [HF.out]; exact BO_no fun h => hld (inR_iff.2 h.2.2.1)
    subst e
    have cl := fun wx => inRange_any load 1 8 wx
    rw [show inR load 1 8 = false from by simpa using hld] at cl
    have CL := Lib.hid cl
    clear cl hld
    go_enter Try.func47, Try.ntmps47
    go_wp2_with fail
    refine CV.out.mono ?_
    rintro e w' ⟨rfl, n, rfl⟩
    go_wp2_with fail
    refine (CL.out _).mono ?_
    rintro e w' ⟨rfl, rfl⟩
    go_wp2
    go_ret2
    exact ⟨_, rfl, Own.nil _ _, below_drewN (Below.refl _ _) n⟩
  have cl := fun wx => inRange_any load 1 8 wx
  rw [hld] at cl
  have CL := Lib.hid cl
  have hld1 := inR_iff.1 hld
  have HLD := Lib.hid hld
  have hmk := run_make_row' (P := Try.prog) 23 3 (.int .i64 0) 8 Try.underlying23 infoInt rfl .i64 .i64 l.length (by omega) (by omega)
  have xA := fun n => made_tabR (w.drewN n) w.heap.size l.length (Nat.le_refl _) (by omega)
  obtain ⟨BB, hBB⟩ : ∃ BB, BB = madeCells #[.int .i64 0] l.length := ⟨_, rfl⟩
  rw [← hBB] at hmk xA
  have XA := Lib.hid xA
  clear hBB xA cl hld
  go_enter Try.func47, Try.ntmps47
  go_wp2_with fail
  refine CV.out.mono ?_
  rintro e w' ⟨rfl, n, rfl⟩
  go_wp2_with fail
  refine (CL.out _).mono ?_
  rintro e w' ⟨rfl, rfl⟩
  have bA := ((below_drewN (Below.refl w.heap.size w) n).alloc (Nat.le_refl _) (.cells BB 3)).alloc (by rw [World.size_alloc]; exact Nat.le_trans (Nat.le_refl w.heap.size) (Nat.le_succ _)) (.cells #[] 3)
  have tA : Tab (((w.drewN n).alloc (.cells BB 3)).alloc (.cells #[] 3)) w.heap.size w.heap.size l.length l.length (bs l ks load 0).1 := (XA.out n).below ((Below.refl _ _).alloc (Nat.le_refl _) _)
  have oA : Own (((w.drewN n).alloc (.cells BB 3)).alloc (.cells #[] 3)) (w.heap.size + 1) (.slice (some ⟨w.heap.size + 1, 0, none⟩) 0 0) (bs l ks load 0).2 := by
    have := Own.lit0 ((w.drewN n).alloc (.cells BB 3)) (w.heap.size + 1) (by rw [World.size_alloc]; exact Nat.le_refl _)
    rw [World.size_alloc] at this
    exact this
  clear CV CL
  go_wp2_with fail
  go_loopw [9, 10] (fun ov iv wr => ∃ j : Nat, j ≤ ks.length ∧ iv = .int .i64 j ∧ Hid (FitK ks j) ∧ Hid (BK l ks load j) ∧ Tab wr w.heap.size w.heap.size l.length l.length (bs l ks load j).1 ∧ Own wr (w.heap.size + 1) ov (bs l ks load j).2 ∧ Below w.heap.size w wr) (fun _ iv _ => ks.length - (intOf iv).toNat)
  case atStart => exact ⟨0, by omega, rfl, FitK.zero _, BK.zero _ _ _, tA, oA, bA⟩
  case round =>
    clear tA oA bA hmk
    obtain ⟨j, hj, rfl, hfk, hbk, hT, ho, hB⟩ := hrel
    by_cases hlt : j < ks.length
    · have hrk2 := hrk.below hB
      have hr2 := hr.below hB
      have hjl : (j : Int) < (ks.length : Int) := by omega
      obtain ⟨bk, ok, y, rfl, hbk1, hck, hy⟩ := hrk2.get hlt
      by_cases hin : inR y 0 63 = true
      rotate_left
      · have e : F = ([], false) := by
          rw [HF.out]; refine BO_no fun h => hin (inR_iff.2 ?_)
          have := h.2.2.2.1 j hlt
          rwa [hy.out] at this
        subst e
        have cl := fun wx => inRange_any y 0 63 wx
        rw [show inR y 0 63 = false from by simpa using hin] at cl
        have CL := Lib.hid cl
        clear cl hin hy hT ho
        go_wp2_with fail
        refine (CL.out _).mono ?_
        rintro e w' ⟨rfl, rfl⟩
        go_wp2
        go_ret2
        exact ⟨_, rfl, Own.nil _ _, hB⟩
      have hy63 := inR_iff.1 hin
      have cl := fun wx => inRange_any y 0 63 wx
      rw [hin] at cl
      have CL := Lib.hid cl
      have hbs := (bs_sum j hbk.out).2
      have hj8 : j ≤ 8 := by omega
      have hst1 := fun b => bs_succ1 (ps := l) (ks := ks) (load := load) (j := j) (b := b)
      have hst2 := fun b => bs_succ2 (ps := l) (ks := ks) (load := load) (j := j) (b := b)
      obtain ⟨C, hC⟩ : ∃ C, C = (bs l ks load j).1 := ⟨_, rfl⟩
      obtain ⟨O, hO⟩ : ∃ O, O = (bs l ks load j).2 := ⟨_, rfl⟩
      have hOl : O.length = j := by rw [hO, bs_len2]
      rw [← hC, hy.out] at hst1 hst2
      rw [← hC] at hT hbs
      rw [← hO] at hst2 ho
      have HST1 := Lib.hid hst1
      have HST2 := Lib.hid hst2
      have HBS := Lib.hid hbs
      have HO := Lib.hid hOl
      have hnb : nb l load C y = bb (mo load C) (st l y) l.length := rfl
      have HNB := Lib.hid hnb
      have hfk2 : FitK ks (j + 1) := hfk.out.succ (by rw [hy.out]; exact hy63.1) (by rw [hy.out]; exact hy63.2)
      have HFK := Lib.hid hfk2
      have hbk2 : ∀ b, nb l load C y = some b → BK l ks load (j + 1) := fun b hb => hbk.out.succ (by rw [← hC, hy.out, hb]; rfl)
      have HBK := Lib.hid hbk2
      have hbad : nb l load C y = none → F = ([], false) := fun hn => by
        rw [HF.out]; refine BO_no fun h => ?_
        have := h.2.2.2.2 j hlt
        rw [← hC, hy.out, hn] at this
        simp at this
      have HBAD := Lib.hid hbad
      obtain ⟨ao, co, eo, _, _, _, _⟩ := ho.form
      clear cl hin hst1 hst2 hbs hC hO hnb hfk2 hbk2 hbad hy hOl hfk hbk
      obtain ⟨N, hN⟩ : ∃ N, N = O.length := ⟨_, rfl⟩
      rw [← hN] at eo
      subst eo
      have HN := Lib.hid hN
      clear hN
      go_wp2_with fail
      refine (CL.out _).mono ?_
      rintro e w' ⟨rfl, rfl⟩
      go_wp2_with fail
      go_loopw [11, 12] (fun bv sv wx => ∃ (s : Nat) (o : Option Nat) (q : Nat), s ≤ l.length ∧ sv = .int .i64 s ∧ bv = .int .i64 (bi o) ∧ Hid (o = bb (mo load C) (st l y) s) ∧ wx = wr.drewN q) (fun _ sv _ => l.length - (intOf sv).toNat)
      case atStart => exact ⟨0, none, 0, by omega, rfl, rfl, rfl, rfl⟩
      case round =>
        obtain ⟨s, o, q, hs, rfl, rfl, HO2, rfl⟩ := hrel
        by_cases hsl : s < l.length
        · obtain ⟨b1, o1, y1, rfl, hb1, hc1, hy1⟩ := hr2.get hsl
          obtain ⟨c1, hcc, hc1v⟩ := hT.get (k := s) hsl
          have r1 := VR_rng HV.out hsl
          rw [hy1.out] at r1
          have hs1 : (s : Int) < (l.length : Int) := by omega
          have hsw : IntKind.i64.wrap ((s : Int) + 1) = ((s + 1 : Nat) : Int) := by rw [IntWalk.i64_in _ (by omega)]; rfl
          have hbn := bb_succ (mo load C) (st l y) s
          rw [← HO2.out] at hbn
          have hmo : mo load C s = decide (c1 < load) := by unfold mo; rw [hc1v.out]
          rw [hmo] at hbn
          by_cases hcl : c1 < load
          · cases o with
            | none =>
              have e : bb (mo load C) (st l y) (s + 1) = some s := by rw [hbn, if_pos ⟨by simpa using hcl, fun b hb => by simp at hb⟩]
              have E := Lib.hid e
              have hneg : bi none < 0 := by decide
              clear hbn e hmo hc1v hy1 HO2
              go_wp2
              go_quiet (fail)
              all_goals
                go_wp2
                go_roundw
                case rel => exact ⟨s + 1, some s, _, by omega, by first | rfl | go_num, rfl, Lib.hid E.out.symm, by first | rfl | exact World.drewN_drewN _ _ _⟩
                case measure => simp [intOf]; omega
            | some bb' =>
              obtain ⟨hbs', _, _⟩ := bb_some HO2.out.symm
              obtain ⟨y2, hc2, hy2⟩ := hr2.at_ (k := bb') (by omega)
              have r2 := VR_rng HV.out (i := bb') (by omega)
              rw [hy2.out] at r2
              obtain ⟨Y1, Z1, T1, hT1, e1, e2, e3, n1, n2, n3, n4, n5, n6⟩ := st_eq (k := y) hy1.out r1.1 r1.2 hy63.1 hy63.2
              obtain ⟨Y2, Z2, T2, hT2, f1, f2, f3, m1, m2, m3, m4, m5, m6⟩ := st_eq (k := y) hy2.out r2.1 r2.2 hy63.1 hy63.2
              have hbl : (bb' : Int) < (l.length : Int) := by omega
              have hnn : ¬ (bb' : Int) < 0 := by omega
              have hbi : bi (some bb') = (bb' : Int) := rfl
              rw [hbi]
              by_cases hc : T1 < T2
              · have e : bb (mo load C) (st l y) (s + 1) = some s := by
                  rw [hbn, if_pos ⟨by simpa using hcl, fun b hb => by
                    obtain rfl : bb' = b := by simpa using hb
                    rw [← hT1, ← hT2]; exact hc⟩]
                have E := Lib.hid e
                clear hbn e hmo hc1v hy1 hy2 hT1 hT2 HO2 hbi
                go_wp2
                go_quiet (fail)
                all_goals
                  go_wp2
                  go_roundw
                  case rel => exact ⟨s + 1, some s, _, by omega, by first | rfl | go_num, rfl, Lib.hid E.out.symm, by first | rfl | exact World.drewN_drewN _ _ _⟩
                  case measure => simp [intOf]; omega
              · have e : bb (mo load C) (st l y) (s + 1) = some bb' := by
                  rw [hbn, if_neg fun h => hc (by have := h.2 bb' rfl; rwa [← hT1, ← hT2] at this)]
                have E := Lib.hid e
                clear hbn e hmo hc1v hy1 hy2 hT1 hT2 HO2 hbi
                go_wp2
                go_quiet (fail)
                all_goals
                  go_wp2
                  go_roundw
                  case rel => exact ⟨s + 1, some bb', _, by omega, by first | rfl | go_num, rfl, Lib.hid E.out.symm, by first | rfl | exact World.drewN_drewN _ _ _⟩
                  case measure => simp [intOf]; omega
          · have e : bb (mo load C) (st l y) (s + 1) = o := by rw [hbn, if_neg fun h => hcl (by simpa using h.1)]
            have E := Lib.hid e
            obtain ⟨vb, hvb⟩ : ∃ vb, vb = bi o := ⟨_, rfl⟩
            rw [← hvb]
            have HVB := Lib.hid hvb
            have hcd : decide (c1 < load) = false := by simpa using hcl
            clear hbn e hmo hc1v hy1 HO2 hvb
            go_wp2
            go_quiet (fail)
            all_goals
              go_wp2
              go_roundw
              case rel => exact ⟨s + 1, o, _, by omega, by first | rfl | go_num, by rw [HVB.out], Lib.hid E.out.symm, by first | rfl | exact World.drewN_drewN _ _ _⟩
              case measure => simp [intOf]; omega
        · obtain rfl : s = l.length := by omega
          have ho2 := HO2.out
          rw [← HNB.out] at ho2
          have hBq := below_drewN hB q
          have hTq := hT.below (below_drewN (Below.refl _ wr) q)
          have hoq := ho.below (below_drewN (Below.refl _ wr) q)
          cases o with
          | none =>
            have e := HBAD.out ho2.symm
            subst e
            have hneg : bi none < 0 := by decide
            clear HO2 ho2 hT ho hTq hoq
            go_wp2
            go_ret2
            exact ⟨_, rfl, Own.nil _ _, hBq⟩
          | some bb' =>
            have hbs' := nb_some ho2.symm
            have h1 := HST1.out bb' ho2.symm
            have h2 := HST2.out bb' ho2.symm
            have h3 := HBK.out bb' ho2.symm
            have hcb := HBS.out bb' hbs'.1
            obtain ⟨c1, hcc, hc1v⟩ := hTq.get (k := bb') hbs'.1
            have hfz := hTq.frozen bb'
            rw [hc1v.out] at h1 hcb
            have hcw : IntKind.i64.wrap (c1 + 1) = c1 + 1 := IntWalk.i64_in _ (by omega)
            have hbl : (bb' : Int) < (l.length : Int) := by omega
            have hnn : ¬ (bb' : Int) < 0 := by omega
            have hbi : bi (some bb') = (bb' : Int) := rfl
            rw [hbi]
            have T2 := hTq.store bb' (c1 + 1)
            have O2 := hoq.store_other (g := w.heap.size) (by omega) bb' (.int .i64 (c1 + 1))
            have B2 := hBq.setCell (p := ⟨w.heap.size, bb', none⟩) (Nat.le_refl _) (.int .i64 (c1 + 1))
            rw [← h1] at T2
            obtain ⟨ws, hws⟩ : ∃ ws, ws = (wr.drewN q).setCell ⟨w.heap.size, bb', none⟩ (.int .i64 (c1 + 1)) := ⟨_, rfl⟩
            rw [← hws] at T2 O2 B2
            have HWS := Lib.hid hws
            have z2 : w.heap.size + 1 ≤ ws.heap.size := by have := T2.block.2; omega
            have HH2 := Lib.hid h2
            have HH3 := Lib.hid h3
            clear hws h1 h2 h3 hc1v HO2 ho2 hT ho hTq hoq hbi hcb hB hBq hbs'
            go_upto_region 19 with fail
            rw [← HWS.out]
            go_wp2_with (at_builtin; refine push_int rfl (.tmp 94) (.tmp 96) rfl (w.heap.size + 1) (.slice ao N co) O (bb' : Int) rfl O2 rfl (by have := HO.out; omega) z2 ?_)
            intro v5 w5 ho5 _ g5
            have b5 := Below.grownB B2 O2 g5 B2.size (Nat.le_succ _)
            have T5 : Tab w5 w.heap.size w.heap.size l.length l.length (bs l ks load (j + 1)).1 := World.ownsRow.kept T2 g5 (.inr (fun e => by
              have := (O2.lt w.heap.size (by rw [← e]; rfl)).1; omega))
            have O5 : Own w5 (w.heap.size + 1) v5 (bs l ks load (j + 1)).2 := by rw [HH2.out]; exact ho5
            clear ho5 g5 T2 O2 B2
            go_wp2
            go_roundw
            case rel => exact ⟨j + 1, by omega, by go_num, HFK, HH3, T5, O5, b5⟩
            case measure => simp [intOf]; omega
    · obtain rfl : j = ks.length := by omega
      have e : F = ((bs l ks load ks.length).2, true) := by
        rw [HF.out]; exact BO_yes ⟨HV.out, by omega, inR_iff.1 HLD.out, hfk.out, hbk.out⟩
      subst e
      obtain ⟨ao, co, rfl, _, _, _, _⟩ := ho.form
      have ho' := ho.mono (Nat.le_succ w.heap.size)
      clear hT ho
      go_wp2
      go_ret2
      exact ⟨_, rfl, ho', hB⟩
end Go.Proofs.Ytbldfhfciihddaa
