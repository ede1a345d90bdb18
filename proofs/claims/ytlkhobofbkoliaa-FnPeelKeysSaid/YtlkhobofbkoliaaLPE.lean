/-
  laws.FnPeelKeys: the walk.
-/
import Derived.Test.YtlkhobofbkoliaaDt
import Derived.Test.YtlkhobofbkoliaaPT
import Derived.Test.YtlkhobofbkoliaaQT
import Derived.Test.YtlkhobofbkoliaaLG
import Derived.Test.YtlkhobofbkoliaaG10
import Derived.Laws.Cover1
import Derived.BigRegion
import Derived.BigQuiet
namespace Go.Proofs.Ytlkhobofbkoliaa
open Go.RowKit

theorem isInN (a : Option Addr) (l : List Int) (n cap : Nat) (x : Int) (w : World) (hr : Reads w a l) (hn : l.length = n) (hl : n ≤ 1048586) :
    Calls Try.prog 31 #[.slice a n cap, .int .i64 x] w fun e w' => e = .returned (.bool (inL l x)) ∧ w = w' := by
  subst hn
  exact isIn_any a l cap x w hr hl
theorem inL_yes {l : List Int} {x : Int} (h : x ∈ l) : inL l x = true := by simp [inL, h]
theorem inL_no {l : List Int} {x : Int} (h : x ∉ l) : inL l x = false := by simp [inL, h]

theorem inL_con (l : List Int) (x : Int) : inL l x = l.contains x := by
  unfold inL
  cases h : l.contains x with
  | true => simpa using h
  | false => simpa using h
theorem inL_ints (l : List Nat) (x : Nat) : inL (ints l) x = l.contains x := by
  unfold inL
  cases h : l.contains x with
  | true => simp [ints_mem]; simpa using h
  | false => simp [ints_mem]; simpa using h

set_option maxHeartbeats 8000000 in
set_option maxRecDepth 100000 in
theorem lawFnPeelKeys (a : Option Addr) (n cap : Nat) (w : World) (hBy : Bytes w w.heap.size a n) (hn : n ≤ 9223372036854775807) (hc : n ≤ cap) :
    Calls Try.prog 10 #[.slice a n cap] w fun e w' => e = .returned (.bool true) ∧ Below w.heap.size w w' := by
  by_cases hbig : 1048576 < n
  · go_enter Try.func10, Try.ntmps10
    go_wp2
    go_ret
    exact ⟨rfl, Below.refl _ _⟩
  go_enter Try.func10, Try.ntmps10
  go_wp2_with fail
  refine (drawPeelKeys_any a n cap w hBy hn hc).mono ?_
  rintro e w1 ⟨m, v, ts, rfl, hm, ho, hbu, hb⟩
  obtain ⟨av, cv, rfl, hcv, hcv2, hr⟩ := ho.form
  have hm64 : In64 m := by unfold In64; omega
  have hlen := bulk_len ts
  have z1 := hb.size
  clear ho hBy
  obtain ⟨G, hG⟩ : ∃ G, G = (PK m ts).1 := ⟨_, rfl⟩
  obtain ⟨S, hS⟩ : ∃ S, S = (PK m ts).2 := ⟨_, rfl⟩
  have hGl : G.length ≤ 8 ∧ S.length ≤ 8 := by rw [hG, hS]; exact PK_len m ts
  have eG := eqL_self G
  have eS := eqL_self S
  have HG := Lib.hid hG
  have HS := Lib.hid hS
  clear hG hS
  have ci := implPeelKeys_any m av ts cv w1 hm64 hr (by omega)
  unfold PKPost2 at ci
  rw [← HG.out, ← HS.out] at ci
  go_wp2_with fail
  refine ci.mono ?_
  rintro e w2 ⟨v1, v2, rfl, ho1, ho2, hb2, _⟩
  clear ci
  have B2 := hb.trans (hb2.mono z1)
  have z2 := B2.size
  have hr2 := hr.below hb2
  have cs := specPeelKeys_any m av ts cv w2 hm64 hr2 (by omega)
  unfold PKPost2 at cs
  rw [← HG.out, ← HS.out] at cs
  go_wp2_with fail
  refine cs.mono ?_
  rintro e w3 ⟨v3, v4, rfl, ho3, ho4, hb3, _⟩
  clear cs
  have B3 := B2.trans (hb3.mono z2)
  have hr3 := hr2.below hb3
  replace ho1 := ho1.below hb3
  replace ho2 := ho2.below hb3
  obtain ⟨a1, c1, rfl, r1, k1, _, _⟩ := ho1.form
  obtain ⟨a2, c2, rfl, r2, k2, _, _⟩ := ho2.form
  obtain ⟨a3, c3, rfl, r3, _, _, _⟩ := ho3.form
  obtain ⟨a4, c4, rfl, r4, _, _, _⟩ := ho4.form
  have z3 := B3.size
  clear hb2 hb3 hr2 B2 hr hb ho1 ho2 ho3 ho4
  go_wp2_with fail
  refine (equalInts_any _ _ _ _ _ _ _ r1 r3 (by omega) (by omega)).mono ?_
  rintro e w4 ⟨rfl, n4, rfl⟩
  rw [eG]
  go_wp2_with fail
  refine (equalInts_any _ _ _ _ _ _ _ (show Reads (w3.drewN n4) _ _ from r2) (show Reads (w3.drewN n4) _ _ from r4) (by omega) (by omega)).mono ?_
  rintro e w5 ⟨rfl, n5, rfl⟩
  rw [eS, World.drewN_drewN]
  have hcase : (m < 1 ∨ 10 < m ∨ (1 ≤ m ∧ m ≤ 10 ∧ 8 < ts.length)) ∨ (1 ≤ m ∧ m ≤ 10 ∧ ts.length ≤ 8) := by omega
  rcases hcase with hcase | ⟨hm1, hm2, hl8⟩
  · rcases hcase with hcase | hcase | hcase
    all_goals
      go_wp2_with fail
      refine (equalInts_any _ _ _ _ _ _ _ (show Reads (w3.drewN _) _ _ from r1) (show Reads (w3.drewN _) _ _ from r3) (by omega) (by omega)).mono ?_
      rintro e w6 ⟨rfl, n6, rfl⟩
      rw [eG]
      go_wp2_with fail
      refine (equalInts_any _ _ _ _ _ _ _ (show Reads (World.drewN _ _) _ _ from r2) (show Reads (World.drewN _ _) _ _ from r4) (by omega) (by omega)).mono ?_
      rintro e w7 ⟨rfl, n7, rfl⟩
      rw [eS]
      go_wp2
      go_ret
      exact ⟨rfl, below_drewN B3 _⟩
  · obtain ⟨M, rfl⟩ : ∃ M : Nat, m = M := ⟨m.toNat, by omega⟩
    obtain ⟨w5, hw5⟩ : ∃ w5, w5 = w3.drewN (n4 + n5) := ⟨_, rfl⟩
    rw [← hw5]
    have B5 : Below w.heap.size w w5 := by rw [hw5]; exact below_drewN B3 _
    have hr5 : ReadsS w5 av ts := by rw [hw5]; exact hr3
    have q1 : Reads w5 a1 G := by rw [hw5]; exact r1
    have q2 : Reads w5 a2 S := by rw [hw5]; exact r2
    clear hw5 hr3 r1 r2 r3 r4 B3 z3 eG eS
    go_wp2_with fail
    go_loopw [9] (fun i wr => ∃ k n : Nat, k ≤ ts.length ∧ i = .int .i64 k ∧ Hid (FitT M ts k) ∧ wr = w5.drewN n) (fun i _ => ts.length - (intOf i).toNat)
    case atStart => exact ⟨0, 0, Nat.zero_le _, rfl, FitT.zero _ _, rfl⟩
    case round =>
      obtain ⟨k, n, hk, rfl, hft, rfl⟩ := hrel
      by_cases hlt : k < ts.length
      · obtain ⟨b, off, A, C, rfl, hbb, hc, hrow, hcap⟩ := hr5.get hlt
        obtain ⟨t, ht⟩ : ∃ t, t = tr ts k := ⟨_, rfl⟩
        rw [← ht] at hc hrow hcap
        have HTT := Lib.hid ht
        clear ht
        generalize hwq : w5.drewN n = wq
        have B6 : Below w.heap.size w wq := by rw [← hwq]; exact below_drewN B5 _
        have hcq : wq.cell? ⟨b, off + k, none⟩ = some (.slice A t.length C) := by rw [← hwq]; exact hc
        have hrq : Reads wq A t := by rw [← hwq]; exact hrow
        have HWQ := Lib.hid hwq
        clear hc hrow hwq
        by_cases h3 : t.length = 3
        · rw [h3] at hcq hcap
          obtain ⟨b', off', x0, rfl, hbb', hc0, hx0⟩ := hrq.get (k := 0) (by omega)
          obtain ⟨x1, hc1, hx1⟩ := hrq.at_ (k := 1) (by omega)
          obtain ⟨x2, hc2, hx2⟩ := hrq.at_ (k := 2) (by omega)
          rw [Nat.add_zero] at hc0
          have hd3 : ((3 : Int) != 3) = false := by decide
          obtain ⟨A1, hA1⟩ : ∃ A1, (if x0 < x1 then x1 else x0) = A1 := ⟨_, rfl⟩
          obtain ⟨A2, hA2⟩ : ∃ A2, (if A1 < x2 then x2 else A1) = A2 := ⟨_, rfl⟩
          obtain ⟨A3, hA3⟩ : ∃ A3, (if x1 < x0 then x1 else x0) = A3 := ⟨_, rfl⟩
          obtain ⟨A4, hA4⟩ : ∃ A4, (if x2 < A3 then x2 else A3) = A4 := ⟨_, rfl⟩
          have hth : three M t = true ↔ x0 ≠ x1 ∧ x0 ≠ x2 ∧ x1 ≠ x2 ∧ ¬ (M : Int) ≤ A2 ∧ ¬ A4 < 0 := by
            have hmx : (M : Int) ≤ A2 ↔ (M : Int) ≤ x0 ∨ (M : Int) ≤ x1 ∨ (M : Int) ≤ x2 := by
              rw [← hA2, ← hA1]; repeat' split
              all_goals omega
            have hmn : A4 < 0 ↔ x0 < 0 ∨ x1 < 0 ∨ x2 < 0 := by
              rw [← hA4, ← hA3]; repeat' split
              all_goals omega
            rw [hmx, hmn, three_iff, hx0.out, hx1.out, hx2.out]
            have hmem : (∀ x ∈ t, 0 ≤ x ∧ x < (M : Int)) ↔ (0 ≤ x0 ∧ x0 < (M : Int)) ∧ (0 ≤ x1 ∧ x1 < (M : Int)) ∧ (0 ≤ x2 ∧ x2 < (M : Int)) := by
              have e0 := hx0.out
              have e1 := hx1.out
              have e2 := hx2.out
              match t, h3 with
              | [p, q, r], _ =>
                simp at e0 e1 e2
                subst e0 e1 e2
                simp
            rw [hmem]
            constructor
            · rintro ⟨_, ⟨⟨_, _⟩, ⟨_, _⟩, _, _⟩, h1, h2, h4⟩
              exact ⟨h1, h2, h4, by omega, by omega⟩
            · rintro ⟨h1, h2, h4, h5, h6⟩
              exact ⟨h3, ⟨⟨by omega, by omega⟩, ⟨by omega, by omega⟩, by omega, by omega⟩, h1, h2, h4⟩
          clear hx0 hx1 hx2 hrq
          by_cases hgood : three M t = true
          · have hft2 : Hid (FitT M ts (k + 1)) := hft.out.succ (by rw [← HTT.out]; exact hgood)
            obtain ⟨d01, d02, d12, nM, n0⟩ := hth.1 hgood
            have e01 : (x0 == x1) = false := by simpa using d01
            have e02 : (x0 == x2) = false := by simpa using d02
            have e12 : (x1 == x2) = false := by simpa using d12
            have nM : decide ((M : Int) ≤ A2) = false := by simpa using nM
            have n0 : decide (A4 < 0) = false := by simpa using n0
            clear hth hgood h3 d01 d02 d12 HTT
            go_upto_region 12 with fail
            go_region
            all_goals
              go_wp2
              go_roundw
              case rel => exact ⟨k + 1, _, by omega, by go_num, hft2, by rw [← HWQ.out]; first | rfl | exact World.drewN_drewN _ _ _ | (show World.drewN (World.drewN _ _) _ = _; rw [World.drewN_drewN])⟩
              case measure => simp [intOf]; omega
          · have hV : TV M ts = false := notFitT hlt (by rw [← HTT.out]; simpa using hgood)
            have eG : G = [] := by rw [HG.out]; unfold PK; rw [if_neg (by rw [hV]; simp)]
            have eS : S = [] := by rw [HS.out]; unfold PK; rw [if_neg (by rw [hV]; simp)]
            subst eG eS
            have hng := fun h => hgood (hth.2 h)
            clear hth hgood h3 HTT HG HS hV hft
            by_cases d01 : x0 = x1
            · have e01 : (x0 == x1) = true := by simpa using d01
              clear d01 hng
              go_upto_region 12 with fail
              go_region
              all_goals
                go_wp2
                go_ret
                first | exact ⟨rfl, B6⟩ | exact ⟨rfl, below_drewN B6 _⟩
            have e01 : (x0 == x1) = false := by simpa using d01
            by_cases d02 : x0 = x2
            · have e02 : (x0 == x2) = true := by simpa using d02
              clear d01 d02 hng
              go_upto_region 12 with fail
              go_region
              all_goals
                go_wp2
                go_ret
                first | exact ⟨rfl, B6⟩ | exact ⟨rfl, below_drewN B6 _⟩
            have e02 : (x0 == x2) = false := by simpa using d02
            by_cases d12 : x1 = x2
            · have e12 : (x1 == x2) = true := by simpa using d12
              clear d01 d02 d12 hng
              go_upto_region 12 with fail
              go_region
              all_goals
                go_wp2
                go_ret
                first | exact ⟨rfl, B6⟩ | exact ⟨rfl, below_drewN B6 _⟩
            have e12 : (x1 == x2) = false := by simpa using d12
            by_cases nM : (M : Int) ≤ A2
            · have nM' : decide ((M : Int) ≤ A2) = true := by simpa using nM
              clear d01 d02 d12 hng
              go_upto_region 12 with fail
              go_region
              all_goals
                go_wp2
                go_ret
                first | exact ⟨rfl, B6⟩ | exact ⟨rfl, below_drewN B6 _⟩
            by_cases n0 : A4 < 0
            · have nM' : decide ((M : Int) ≤ A2) = false := by simpa using nM
              have n0' : decide (A4 < 0) = true := by simpa using n0
              clear d01 d02 d12 hng
              go_upto_region 12 with fail
              go_region
              all_goals
                go_wp2
                go_ret
                first | exact ⟨rfl, B6⟩ | exact ⟨rfl, below_drewN B6 _⟩
            exact absurd ⟨d01, d02, d12, nM, n0⟩ hng
        · have hd3 : ((t.length : Int) != 3) = true := by simp; omega
          have hV : TV M ts = false := notFitT hlt (by rw [← HTT.out]; exact three_len h3)
          have eG : G = [] := by rw [HG.out]; unfold PK; rw [if_neg (by rw [hV]; simp)]
          have eS : S = [] := by rw [HS.out]; unfold PK; rw [if_neg (by rw [hV]; simp)]
          subst eG eS
          clear HG HS hV hft h3
          go_upto_region 12 with fail
          go_region
          all_goals
            go_wp2
            go_ret
            first | exact ⟨rfl, B6⟩ | exact ⟨rfl, below_drewN B6 _⟩
      · obtain rfl : k = ts.length := by omega
        have hV : TV M ts = true := TV_iff.2 ⟨hm1, hm2, hl8, hft.out⟩
        have hP : Trp M ts := by
          obtain ⟨M', e, hP⟩ := Trp.of_TV hV
          obtain rfl : M = M' := by omega
          exact hP
        obtain ⟨ks, hks⟩ : ∃ ks, ks = (plk M ts).1 := ⟨_, rfl⟩
        obtain ⟨ss, hss⟩ : ∃ ss, ss = (plk M ts).2 := ⟨_, rfl⟩
        have eG : G = ints ks := by rw [HG.out, hks]; unfold PK; rw [if_pos hV, Int.toNat_natCast]
        have eS : S = ints ss := by rw [HS.out, hss]; unfold PK; rw [if_pos hV, Int.toNat_natCast]
        have hT : Taken M ts ks ss := by rw [hks, hss]; exact plk_taken M ts
        have hPe : Peeled ts ks ss := by rw [hks, hss]; exact plk_peeled M ts
        have hEnd : ∀ s, s < M → (lf ts ks s ts.length).length ≠ 1 := by rw [hks]; exact plk_end M ts
        have HT := Lib.hid hT
        have HPE := Lib.hid hPe
        have HEND := Lib.hid hEnd
        have hsl := hT.len
        have l1 : (ints ks).length = ks.length := ints_len ks
        have l2 : (ints ss).length = ks.length := by rw [ints_len, hsl]
        subst eG eS
        clear hks hss hT hPe hEnd HG HS hV hft hlt hk
        rw [l1] at k1 ⊢
        rw [l2] at k2 ⊢
        have hk8 : ks.length ≤ 8 := by omega
        have L1 := Lib.hid l1
        have L2 := Lib.hid l2
        clear l1 l2 hsl hGl
        go_wp2_with fail
        go_loopw [11] (fun i wr => ∃ k n : Nat, k ≤ ks.length ∧ i = .int .i64 k ∧ wr = w5.drewN n) (fun i _ => ks.length - (intOf i).toNat)
        case atStart => exact ⟨0, n, Nat.zero_le _, rfl, rfl⟩
        case round =>
          obtain ⟨k, n, hk, rfl, rfl⟩ := hrel
          by_cases hlt : k < ks.length
          · obtain ⟨bk, ok, x, rfl, hbk, hck, hx⟩ := q1.get (k := k) (by rw [L1.out]; exact hlt)
            obtain ⟨bs, os, y, rfl, hbs, hcs, hy⟩ := q2.get (k := k) (by rw [L2.out]; exact hlt)
            obtain ⟨f1, f2, f3⟩ := peel_tests HPE.out HT.out.nod hlt
            obtain ⟨kk, hkk⟩ : ∃ kk, kk = ks.getD k 0 := ⟨_, rfl⟩
            have hx2 : x = (kk : Int) := by rw [← hx.out, hkk, ints_get hlt]
            rw [← hkk] at f1
            rw [hx.out] at f2
            rw [hy.out] at f1 f3
            have hkl : kk < ts.length := by
              refine HT.out.key kk ?_
              rw [hkk, List.getD_eq_getElem?_getD, List.getElem?_eq_getElem hlt]; exact List.getElem_mem _
            subst hx2
            obtain ⟨b, off, A, C, rfl, hbb, hc, hrow, hcap⟩ := hr5.get hkl
            have h3 := (hP.three hkl).1
            rw [h3] at hc hcap
            have cI1 : ∀ wx, Reads wx A (tr ts kk) → Calls Try.prog 31 #[.slice A 3 C, .int .i64 y] wx fun e w' => e = .returned (.bool true) ∧ wx = w' := fun wx h => by
              have := isInN A (tr ts kk) 3 C y wx h h3 (by omega)
              rwa [inL_yes f1] at this
            have cI2 : ∀ wx, Reads wx (some ⟨bk, ok, none⟩) ((ints ks).take k) → Calls Try.prog 31 #[.slice (some ⟨bk, ok, none⟩) k c1, .int .i64 kk] wx fun e w' => e = .returned (.bool false) ∧ wx = w' := fun wx h => by
              have := isInN (some ⟨bk, ok, none⟩) ((ints ks).take k) k c1 kk wx h (by rw [List.length_take, L1.out]; omega) (by omega)
              rwa [inL_no f2] at this
            have cI3 : ∀ wx, Reads wx (some ⟨bs, os, none⟩) ((ints ss).take k) → Calls Try.prog 31 #[.slice (some ⟨bs, os, none⟩) k c2, .int .i64 y] wx fun e w' => e = .returned (.bool false) ∧ wx = w' := fun wx h => by
              have := isInN (some ⟨bs, os, none⟩) ((ints ss).take k) k c2 y wx h (by rw [List.length_take, L2.out]; omega) (by omega)
              rwa [inL_no f3] at this
            have t1 := q1.take k
            have t2 := q2.take k
            have D1 := Lib.hid (fun n => cI1 (w5.drewN n) hrow)
            have D2 := Lib.hid (fun n => cI2 (w5.drewN n) t1)
            have D3 := Lib.hid (fun n => cI3 (w5.drewN n) t2)
            have hb1 : (0 : Int) ≤ (kk : Int) := by omega
            have hb2 : (kk : Int) < (ts.length : Int) := by omega
            have hb3 : (0 : Int) ≤ (k : Int) := by omega
            have hb4 : (k : Int) < (ks.length : Int) := by omega
            have hb5 : (k : Int) ≤ (c1 : Int) := by omega
            have hb6 : (k : Int) ≤ (c2 : Int) := by omega
            clear cI1 cI2 cI3 hx hy f1 f2 f3 hkk h3 t1 t2
            go_upto_region 17 with fail
            go_quiet ((with_reducible first | (go_at_call 31; exact quiet_add_left' (D1.out _)) | (go_at_call 31; exact quiet_add_left' (D2.out _)) | (go_at_call 31; exact quiet_add_left' (D3.out _))))
            all_goals
              go_wp2
              go_roundw
              case rel => exact ⟨k + 1, _, by omega, by go_num, rfl⟩
              case measure => simp [intOf]; omega
          · obtain rfl : k = ks.length := by omega
            clear hlt hk
            go_wp2_with fail
            go_loopw [12] (fun i wr => ∃ s n : Nat, s ≤ M ∧ i = .int .i64 s ∧ wr = w5.drewN n) (fun i _ => M - (intOf i).toNat)
            case atStart => exact ⟨0, n, Nat.zero_le _, rfl, rfl⟩
            case round =>
              obtain ⟨s, n, hs, rfl, rfl⟩ := hrel
              by_cases hlt : s < M
              · go_wp2_with fail
                go_loopw [13, 14] (fun c i wr => ∃ i0 n : Nat, i0 ≤ ts.length ∧ i = .int .i64 i0 ∧ c = .int .i64 ((lf ts ks s i0).length : Nat) ∧ wr = w5.drewN n) (fun _ i _ => ts.length - (intOf i).toNat)
                case atStart => exact ⟨0, n, Nat.zero_le _, rfl, rfl, rfl⟩
                case round =>
                  obtain ⟨i, n, hi, rfl, rfl, rfl⟩ := hrel
                  have hll := lf_len ts ks s i
                  obtain ⟨L, hL⟩ : ∃ L, L = lf ts ks s i := ⟨_, rfl⟩
                  rw [← hL] at hll ⊢
                  have HL := Lib.hid hL
                  clear hL
                  by_cases hli : i < ts.length
                  · obtain ⟨b, off, A, C, rfl, hbb, hc, hrow, hcap⟩ := hr5.get hli
                    have h3 := (hP.three hli).1
                    rw [h3] at hc hcap
                    obtain ⟨gb, hgb⟩ : ∃ gb, gb = ks.contains i := ⟨_, rfl⟩
                    obtain ⟨hv, hhv⟩ : ∃ hv, hv = (tr ts i).contains (s : Int) := ⟨_, rfl⟩
                    have cK : Calls Try.prog 31 #[.slice a1 ks.length c1, .int .i64 i] (w5.drewN n) fun e w' => e = .returned (.bool gb) ∧ w5.drewN n = w' := by
                      have := isInN a1 (ints ks) ks.length c1 i (w5.drewN n) (by exact q1) L1.out (by omega)
                      rwa [inL_ints, ← hgb] at this
                    have cT : Calls Try.prog 31 #[.slice A 3 C, .int .i64 s] (w5.drewN n) fun e w' => e = .returned (.bool hv) ∧ w5.drewN n = w' := by
                      have := isInN A (tr ts i) 3 C s (w5.drewN n) (by exact hrow) h3 (by omega)
                      rwa [inL_con, ← hhv] at this
                    have HGB := Lib.hid hgb
                    have HHV := Lib.hid hhv
                    have HCK := Lib.hid cK
                    have HCT := Lib.hid cT
                    clear hgb hhv cK cT h3 hcap
                    cases gb with
                    | true =>
                      have e := lf_no (at_gone (ts := ts) (s := s) HGB.out.symm)
                      rw [← HL.out] at e
                      have HE := Lib.hid e
                      clear e
                      go_wp2_with fail
                      refine HCK.out.mono ?_
                      rintro e w' ⟨rfl, rfl⟩
                      go_wp2
                      go_roundw
                      case rel => exact ⟨i + 1, n, by omega, by go_num, by rw [HE.out], rfl⟩
                      case measure => simp [intOf]; omega
                    | false =>
                      cases hv with
                      | true =>
                        have e := lf_yes (ts := ts) (ks := ks) (s := s) (n := i) (by rw [at_left HGB.out.symm]; exact HHV.out.symm)
                        rw [← HL.out] at e
                        have HE := Lib.hid e
                        clear e
                        go_wp2_with fail
                        refine HCK.out.mono ?_
                        rintro e w' ⟨rfl, rfl⟩
                        go_wp2_with fail
                        refine HCT.out.mono ?_
                        rintro e w' ⟨rfl, rfl⟩
                        go_wp2
                        go_roundw
                        case rel => exact ⟨i + 1, n, by omega, by go_num, by rw [HE.out, List.length_append]; go_num, rfl⟩
                        case measure => simp [intOf]; omega
                      | false =>
                        have e := lf_no (ts := ts) (ks := ks) (s := s) (n := i) (by rw [at_left HGB.out.symm]; exact HHV.out.symm)
                        rw [← HL.out] at e
                        have HE := Lib.hid e
                        clear e
                        go_wp2_with fail
                        refine HCK.out.mono ?_
                        rintro e w' ⟨rfl, rfl⟩
                        go_wp2_with fail
                        refine HCT.out.mono ?_
                        rintro e w' ⟨rfl, rfl⟩
                        go_wp2
                        go_roundw
                        case rel => exact ⟨i + 1, n, by omega, by go_num, by rw [HE.out], rfl⟩
                        case measure => simp [intOf]; omega
                  · obtain rfl : i = ts.length := by omega
                    have hne := HEND.out s hlt
                    rw [← HL.out] at hne
                    have hd : ((L.length : Int) == 1) = false := by rw [beq_eq_false_iff_ne]; omega
                    clear hne
                    go_wp2
                    go_roundw
                    case rel => exact ⟨s + 1, n, by omega, by go_num, rfl⟩
                    case measure => simp [intOf]; omega
              · have hd : ((ks.length : Int) == (ks.length : Int)) = true := by simp
                go_wp2
                go_ret
                exact ⟨rfl, below_drewN B5 _⟩
end Go.Proofs.Ytlkhobofbkoliaa
