/-
  spec.DirectoryOf.
-/
import Derived.Test.YtoaiaindcmihjaaNF
import Derived.Test.YtoaiaindcmihjaaND
namespace Go.Proofs.Ytoaiaindcmihjaa
open Go.RowKit

theorem dpt_take {bs : List Bk} {i : Nat} (h : i < bs.length) : dpt (bs.take (i + 1)) = max (dpt (bs.take i)) (bkt bs i).1 := by
  rw [List.take_succ_eq_append_getElem h, dpt_snoc, bkt_eq h]
theorem drk_bkt (bs : List Bk) (x k : Nat) : drk bs x (k + 1) = drk bs x k ++ if x % 2 ^ (bkt bs k).1 = (bkt bs k).2.1 then [(k : Int)] else [] := by
  rw [drk_succ]
  congr 1
  by_cases h : x % 2 ^ (bkt bs k).1 = (bkt bs k).2.1
  · rw [if_pos h, if_pos (by unfold hit; exact decide_eq_true h)]
  · rw [if_neg h, if_neg (by unfold hit; simpa [bkt] using h)]
theorem drk_le (bs : List Bk) (x k : Nat) : (drk bs x k).length ≤ k := by
  unfold drk; rw [List.length_map]; exact Nat.le_trans (List.length_filter_le _ _) (by simp)

set_option maxHeartbeats 16000000 in
set_option maxRecDepth 100000 in
theorem specDirectoryOf_any (a : Option Addr) (l : List Int) (cap : Nat) (m : Int) (w : World) (hr : Reads w a l) (hl : l.length ≤ 1048586) (hcap : l.length ≤ cap) :
    Calls Try.prog 21 #[.slice a l.length cap, .int .i64 m] w fun e w' => ∃ v, e = .returned (.tuple #[.int .i64 (DRd l m), v]) ∧ Own w' w.heap.size v (DRl l m) ∧ Below w.heap.size w w' := by
  have cv := specvalidNames_any a l cap w hr hl hcap
  obtain ⟨R, hR⟩ : ∃ R, R = DRl l m := ⟨_, rfl⟩
  obtain ⟨Z, hZ⟩ : ∃ Z, Z = DRd l m := ⟨_, rfl⟩
  rw [← hR, ← hZ]
  have HR := Lib.hid hR
  have HZ := Lib.hid hZ
  clear hR hZ
  obtain ⟨V, hV⟩ : ∃ V, V = VNm l := ⟨_, rfl⟩
  rw [← hV] at cv
  have HV := Lib.hid hV
  clear hV
  cases V with
  | false =>
    have hno : ¬ (VNm l = true ∧ 1 ≤ m ∧ m ≤ 4) := by rintro ⟨h, _⟩; rw [← HV.out] at h; cases h
    obtain rfl : R = [] := by rw [HR.out]; unfold DRl; rw [if_neg hno]
    obtain rfl : Z = -1 := by rw [HZ.out]; unfold DRd; rw [if_neg hno]
    clear hno
    go_enter Try.func21, Try.ntmps21
    go_wp2_with fail
    refine cv.mono ?_
    rintro e w1 ⟨rfl, n, rfl⟩
    go_wp2
    go_ret2
    exact ⟨_, rfl, Own.nil _ _, below_drewN (Below.refl _ _) n⟩
  | true =>
    have ci := fun wx => inRange_any m 1 4 wx
    by_cases hin : inR m 1 4 = true
    rotate_left
    · have hno : ¬ (VNm l = true ∧ 1 ≤ m ∧ m ≤ 4) := by rintro ⟨_, h⟩; exact hin (inR_iff.2 h)
      obtain rfl : R = [] := by rw [HR.out]; unfold DRl; rw [if_neg hno]
      obtain rfl : Z = -1 := by rw [HZ.out]; unfold DRd; rw [if_neg hno]
      rw [show inR m 1 4 = false by simpa using hin] at ci
      have CI := Lib.hid ci
      clear ci hin hno
      go_enter Try.func21, Try.ntmps21
      go_wp2_with fail
      refine cv.mono ?_
      rintro e w1 ⟨rfl, n, rfl⟩
      clear cv
      go_wp2_with fail
      refine (CI.out _).mono ?_
      rintro e w' ⟨rfl, rfl⟩
      go_wp2
      go_ret2
      exact ⟨_, rfl, Own.nil _ _, below_drewN (Below.refl _ _) n⟩
    have hm := inR_iff.1 hin
    rw [hin] at ci
    obtain ⟨q, rfl⟩ : ∃ q : Nat, m = q := ⟨m.toNat, by omega⟩
    have hq : 1 ≤ q ∧ q ≤ 4 := by omega
    have cS := split_any w a l cap q hr HV.out.symm hq 6 0 0 rfl (by simp) []
    rw [List.nil_append, Int.natCast_zero] at cS
    have hbl := spl_len l q 6 0 0
    have hdp := spl_dpt HV.out.symm hq.1
    have hok : ∀ b ∈ spl l q 6 0 0, b.1 ≤ 6 := fun b hb => (spl_ok (VNm_iff.1 HV.out.symm).2.2 (VNm_iff.1 HV.out.symm).2.1 hq.1 6 0 0 rfl (by simp) b hb).1.2
    have hRv : R = drs (spl l q 6 0 0) (2 ^ dpt (spl l q 6 0 0)) := by rw [HR.out]; unfold DRl; rw [if_pos ⟨HV.out.symm, hm⟩, Int.toNat_natCast]
    have hZv : Z = (dpt (spl l q 6 0 0) : Int) := by rw [HZ.out]; unfold DRd; rw [if_pos ⟨HV.out.symm, hm⟩, Int.toNat_natCast]
    have hdl := drs_len l q
    have hd1 := fun x => drk_one l q x
    obtain ⟨bs, hbs⟩ : ∃ bs, bs = spl l q 6 0 0 := ⟨_, rfl⟩
    rw [← hbs] at cS hbl hdp hok hRv hZv hdl hd1
    obtain ⟨D, hD⟩ : ∃ D, D = dpt bs := ⟨_, rfl⟩
    rw [← hD] at hdp hRv hZv
    subst hZv
    have hp64 : 2 ^ D ≤ 2 ^ 6 := Nat.pow_le_pow_right (by omega) hdp
    have cp := fun wx => pow_any D wx (by omega)
    obtain ⟨P, hP⟩ : ∃ P, P = 2 ^ D := ⟨_, rfl⟩
    rw [← hP] at cp hRv hp64
    obtain ⟨B, hB⟩ : ∃ B, B = bs.length := ⟨_, rfl⟩
    have CS := Lib.hid cS
    have CI := Lib.hid ci
    have HB := Lib.hid hB
    have HD := Lib.hid hD
    have HRV := Lib.hid hRv
    have HOK := Lib.hid hok
    have HDL := Lib.hid hdl
    have HD1 := Lib.hid hd1
    have CP := Lib.hid cp
    rw [← hB] at hbl
    clear ci hin cS hB hD hRv hok hdl hd1 cp hP hbs HR HZ
    go_enter Try.func21, Try.ntmps21
    go_wp2_with fail
    refine cv.mono ?_
    rintro e w1 ⟨rfl, n, rfl⟩
    clear cv
    go_wp2_with fail
    refine (CI.out _).mono ?_
    rintro e w' ⟨rfl, rfl⟩
    have b1 := below_drewN (Below.refl w.heap.size w) n
    have o1 := OwnB.lit0 (w.drewN n) w.heap.size b1.size
    have b2 := b1.alloc b1.size (.cells #[] 30)
    go_wp2_with fail
    refine (CS.out _ _ o1 b2 (by simp)).mono ?_
    rintro e w2 ⟨v, rfl, o2, b3⟩
    obtain ⟨ab, cb, rfl, _, _, hrb⟩ := o2.form
    rw [← HB.out]
    clear CS CI o1 b2 b1 o2
    go_wp2
    go_loop [7, 8] (fun dv iv => ∃ i : Nat, i ≤ B ∧ iv = .int .i64 (i : Int) ∧ dv = .int .i64 ((dpt (bs.take i) : Nat) : Int)) (fun _ iv => B - (intOf iv).toNat)
    case atStart => exact ⟨0, by omega, rfl, rfl⟩
    case round =>
      obtain ⟨i, hi, rfl, rfl⟩ := hrel
      by_cases hlt : i < B
      · have hi1 : (i : Int) < (B : Int) := by omega
        obtain ⟨b, off, A, C, rfl, hbb, hc0, hc1, hc2, _, _⟩ := hrb.get (r := i) (by have := HB.out; omega)
        have hdt := dpt_take (bs := bs) (i := i) (by have := HB.out; omega)
        obtain ⟨p, hp⟩ : ∃ p, p = dpt (bs.take i) := ⟨_, rfl⟩
        obtain ⟨r, hr'⟩ : ∃ r, r = (bkt bs i).1 := ⟨_, rfl⟩
        rw [← hp, ← hr'] at hdt
        rw [← hr'] at hc0
        have HDT := Lib.hid hdt
        clear hdt hr' hc1 hc2
        rw [← hp]
        have hmx : max (p : Int) (r : Int) = ((max p r : Nat) : Int) := by omega
        clear hp
        go_wp2
        go_round
        case rel => exact ⟨i + 1, by omega, by go_num, by rw [HDT.out]; go_num⟩
        case measure => simp [intOf]; omega
      · obtain rfl : i = B := by omega
        have hDD : dpt (bs.take i) = D := by rw [HD.out, HB.out, List.take_length]
        rw [hDD]
        clear hDD
        have o3 := Own.lit0 w2 w2.heap.size (Nat.le_refl _)
        have b4 := (Below.refl w2.heap.size w2).alloc (Nat.le_refl _) (.cells #[] 3)
        go_wp2
        go_loopw [9, 10] (fun ov xv wr => ∃ x : Nat, x ≤ P ∧ xv = .int .i64 (x : Int) ∧ Own wr w2.heap.size ov (drs bs x) ∧ Below w2.heap.size w2 wr) (fun _ xv _ => P - (intOf xv).toNat)
        case atStart => exact ⟨0, by omega, rfl, o3, b4⟩
        case round =>
          clear o3 b4
          rename World => wo
          obtain ⟨x, hx, rfl, ho, hB⟩ := hrel
          by_cases hlt2 : x < P
          · have hx1 : (x : Int) < (P : Int) := by omega
            have ho0 : Own wo w2.heap.size u9 (drs bs x ++ drk bs x 0) := by simpa [drk] using ho
            clear ho
            go_wp2_with fail
            refine (CP.out _).mono ?_
            rintro e w' ⟨rfl, rfl⟩
            go_wp2
            go_loopw [9, 11] (fun ov jv wr => ∃ j : Nat, j ≤ i ∧ jv = .int .i64 (j : Int) ∧ Own wr w2.heap.size ov (drs bs x ++ drk bs x j) ∧ Below w2.heap.size w2 wr) (fun _ jv _ => i - (intOf jv).toNat)
            case atStart => exact ⟨0, by omega, rfl, ho0, hB⟩
            case round =>
              clear ho0 hB
              rename World => wq
              obtain ⟨j, hj, rfl, ho, hB⟩ := hrel
              by_cases hlt3 : j < i
              · have hj1 : (j : Int) < (i : Int) := by omega
                obtain ⟨b, off, A, C, rfl, hbb, hc0, hc1, hc2, _, _⟩ := (hrb.below hB).get (r := j) (by have := HB.out; omega)
                have hdk := drk_bkt bs x j
                have hok := HOK.out (bkt bs j) (bkt_mem (by have := HB.out; omega))
                obtain ⟨r, hr'⟩ : ∃ r, r = (bkt bs j).1 := ⟨_, rfl⟩
                obtain ⟨t, ht⟩ : ∃ t, t = (bkt bs j).2.1 := ⟨_, rfl⟩
                rw [← hr', ← ht] at hdk
                rw [← hr'] at hc0 hok
                rw [← ht] at hc1
                have ctl := fun wx => pow_tail x r wx (by omega) (by omega)
                obtain ⟨s, hs⟩ : ∃ s, s = x % 2 ^ r := ⟨_, rfl⟩
                rw [← hs] at hdk ctl
                have D1 := Lib.hid (fun k => ctl (wq.drewN k))
                have hlen1 := HDL.out x
                have hlen2 := drk_le bs x j
                obtain ⟨T, hT⟩ : ∃ T, T = drs bs x ++ drk bs x j := ⟨_, rfl⟩
                have hTl : T.length ≤ 1000 := by rw [hT, List.length_append]; omega
                rw [← hT] at ho
                have hz1 := hB.size
                clear hs hr' ht hc2 hlen1 hlen2
                by_cases hst : s = t
                · rw [if_pos hst] at hdk
                  have htk : drs bs x ++ drk bs x (j + 1) = T ++ [(j : Int)] := by rw [hdk, ← List.append_assoc, ← hT]
                  have HTK := Lib.hid htk
                  have hd1 : ((s : Int) == (t : Int)) = true := by simp [hst]
                  clear htk hdk hT hst ctl
                  go_wp2_with fail
                  go_quiet ((with_reducible first | (go_at_call 49; exact quiet_pfN (D1.out _))))
                  all_goals
                    have ho2 := ho.below (below_drewN (Below.refl wq.heap.size wq) nq)
                    have hB2 := below_drewN hB nq
                    have hz2 := hB2.size
                    clear hB ho D1
                    go_wp2_with (at_builtin; refine push_int rfl (.tmp 63) (.tmp 65) rfl w2.heap.size _ T (j : Int) rfl ho2 rfl (by omega) hz2 ?_)
                    intro v' wf of _ gf
                    rw [← HTK.out] at of
                    have hBf := hB2.grown gf hB2.size (fun k hk => (ho2.lt k hk).1)
                    clear gf ho2 hB2
                    go_wp2
                    go_roundw
                    case rel => exact ⟨j + 1, by omega, by go_num, of, hBf⟩
                    case measure => simp [intOf]; omega
                · rw [if_neg hst, List.append_nil] at hdk
                  have htk : drs bs x ++ drk bs x (j + 1) = T := by rw [hdk, ← hT]
                  have HTK := Lib.hid htk
                  have hd1 : ((s : Int) == (t : Int)) = false := by simp; omega
                  clear htk hdk hT hst ctl
                  go_wp2_with fail
                  go_quiet ((with_reducible first | (go_at_call 49; exact quiet_pfN (D1.out _))))
                  all_goals
                    go_wp2
                    go_roundw
                    case rel => exact ⟨j + 1, by omega, by go_num, by rw [HTK.out]; exact ho.below (below_drewN (Below.refl _ _) _), below_drewN hB _⟩
                    case measure => simp [intOf]; omega
              · obtain rfl : j = i := by omega
                have hds := drs_succ bs x
                rw [← HB.out] at hds
                rw [← hds] at ho
                clear hds
                go_wp2
                go_roundw
                case rel => exact ⟨x + 1, by omega, by go_num, ho, hB⟩
                case measure => simp [intOf]; omega
          · obtain rfl : x = P := by omega
            rw [← HRV.out] at ho
            have hBf := b3.trans (hB.mono b3.size)
            go_wp2_with fail
            refine (CP.out _).mono ?_
            rintro e w' ⟨rfl, rfl⟩
            go_wp2
            go_ret2
            exact ⟨_, rfl, ho.mono b3.size, hBf⟩
end Go.Proofs.Ytoaiaindcmihjaa
