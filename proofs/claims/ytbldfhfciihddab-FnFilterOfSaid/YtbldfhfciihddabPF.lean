/-
  spec.FilterOf.
-/
import Derived.Test.YtbldfhfciihddabPT
import Derived.Test.YtbldfhfciihddabG5
import Derived.Test.YtbldfhfciihddabD0
namespace Go.Proofs.Ytbldfhfciihddab
open Go.RowKit

theorem getD_memN {l : List Nat} {i : Nat} (h : i < l.length) : l.getD i 0 ∈ l := by simp [List.getD, h]
/-- x and the numbers at the first k homes together. -/
def xk (L : List Nat) (p0 : Nat) (h : Nat → Nat) : Nat → Nat
  | 0 => p0
  | k + 1 => xk L p0 h k ^^^ L.getD (h k) 0
theorem xk_lt {L : List Nat} {p0 : Nat} {h : Nat → Nat} (hL : ∀ x ∈ L, x < 256) (hp : p0 < 256) : ∀ k, xk L p0 h k < 256 := by
  intro k
  induction k with
  | zero => exact hp
  | succ k ih => exact Nat.xor_lt_two_pow (n := 8) ih (getD_lt hL (by omega) _)
theorem ints_set (L : List Nat) (s x : Nat) : (ints L).set s (x : Int) = ints (L.set s x) := by simp [ints, List.map_set]
theorem FO_no {m : Int} {ts : List (List Int)} {ps : List Int} (h : ¬ (TV m ts = true ∧ PR ts.length ps = true ∧ ¬ (plk m.toNat ts).1.length < ts.length)) : FO m ts ps = ([], false) := by unfold FO; rw [if_neg h]

theorem made_tabF (w : World) (base n : Nat) (hb : base ≤ w.heap.size) (hn : n ≤ 10) : Tab (w.alloc (.cells (madeCells #[.int .i64 0] n) 3)) base w.heap.size n n (List.replicate n 0) := by
  have e := toList_madeCells_one (Value.int .i64 0) n
  have := World.ownsRow_lit (e := 3) (size := 1) (base := base) w (madeCells #[.int .i64 0] n) n hb (by unfold maxLen; omega) (by rw [← Array.length_toList, e]; simp)
  rw [e] at this
  unfold Tab
  rw [List.map_replicate]
  exact this

set_option maxHeartbeats 4000000 in
set_option maxRecDepth 20000 in
theorem specFilterOf_any (m : Int) (a : Option Addr) (ts : List (List Int)) (cap : Nat) (ap : Option Addr) (ps : List Int) (cp : Nat) (w : World) (hm : In64 m) (hr : ReadsS w a ts) (hl : bulk ts ≤ 1048586) (hrp : Reads w ap ps) (hip : ∀ n ∈ ps, In64 n) (hlp : ps.length ≤ 1048586) :
    Calls Try.prog 7 #[.int .i64 m, .slice a ts.length cap, .slice ap ps.length cp] w fun e w' => ∃ v, e = .returned (.tuple #[v, .bool (FO m ts ps).2]) ∧ Own w' w.heap.size v (FO m ts ps).1 ∧ Below w.heap.size w w' := by
  have cT := specvalidTrips_any m a ts cap w hr hm hl
  obtain ⟨F, hF⟩ : ∃ F, F = FO m ts ps := ⟨_, rfl⟩
  rw [← hF]
  have HF := Lib.hid hF
  clear hF hip
  by_cases hv : TV m ts = true
  · rw [hv] at cT
    have CT := Lib.hid cT
    by_cases hpl : ps.length = ts.length
    · have hne : ((ps.length : Int) != (ts.length : Int)) = false := by simp [hpl]
      have HV := Lib.hid hv
      have HPL := Lib.hid hpl
      clear cT hv hpl
      go_enter Try.func7, Try.ntmps7
      go_wp2_with fail
      refine CT.out.mono ?_
      rintro e w0 ⟨rfl, n, rfl⟩
      have b0 := below_drewN (Below.refl w.heap.size w) n
      go_wp2_with fail
      go_loopw [8] (fun iv wr => ∃ i : Nat, i ≤ ps.length ∧ iv = .int .i64 i ∧ Hid (FitR ps i) ∧ wr = w.drewN n) (fun iv _ => ps.length - (intOf iv).toNat)
      case atStart => exact ⟨0, Nat.zero_le _, rfl, FitR.zero ps, rfl⟩
      case round =>
        obtain ⟨i, hi, rfl, hfit, rfl⟩ := hrel
        by_cases hlt : i < ps.length
        · obtain ⟨bb, off, y, rfl, hbb, hcell, hy⟩ := hrp.get hlt
          have hi1 : (i : Int) < (ps.length : Int) := by omega
          have cI := fun wx => inRange_any y 0 255 wx
          by_cases hok : inR y 0 255 = true
          · have h2 := inR_iff.1 hok
            have hf2 : Hid (FitR ps (i + 1)) := FitR.succ hfit.out (by rw [hy.out]; exact h2.1) (by rw [hy.out]; exact h2.2)
            rw [hok] at cI
            have CI := Lib.hid cI
            clear cI hok hy h2
            go_wp2_with fail
            refine (CI.out _).mono ?_
            rintro e w2 ⟨rfl, rfl⟩
            go_wp2
            go_roundw
            case rel => exact ⟨i + 1, by omega, by go_num, hf2, by first | rfl | trivial⟩
            case measure => simp [intOf]; omega
          · have hFn : F = ([], false) := by
              rw [HF.out]
              refine FO_no fun h => hok ?_
              have h3 := (PR_iff.1 h.2.1).2 i hlt
              rw [hy.out] at h3
              exact inR_iff.2 h3
            subst hFn
            rw [show inR y 0 255 = false from by simpa using hok] at cI
            have CI := Lib.hid cI
            clear cI hok hy
            go_wp2_with fail
            refine (CI.out _).mono ?_
            rintro e w2 ⟨rfl, rfl⟩
            go_wp2
            go_ret2
            exact ⟨_, rfl, Own.nil _ _, b0⟩
        · obtain rfl : i = ps.length := by omega
          have hPR : PR ts.length ps = true := PR_iff.2 ⟨HPL.out, hfit.out⟩
          obtain ⟨M, rfl, hP⟩ := Trp.of_TV HV.out
          have hr0 := hr.below b0
          have cP := peel_any M a ts cap (w.drewN n) hr0 hP
          have htk := plk_taken M ts
          have hFO : ∀ (h : ¬ (plk M ts).1.length < ts.length), F = (ints (flt M ts (ps.map Int.toNat)), true) := by
            intro h
            rw [HF.out]; unfold FO
            rw [if_pos ⟨HV.out, hPR, h⟩]; rfl
          have hFN : (plk M ts).1.length < ts.length → F = ([], false) := by
            intro h
            rw [HF.out]; exact FO_no fun h2 => h2.2.2 h
          obtain ⟨K, hK⟩ : ∃ K, K = (plk M ts).1 := ⟨_, rfl⟩
          obtain ⟨S, hS⟩ : ∃ S, S = (plk M ts).2 := ⟨_, rfl⟩
          unfold PeelPost at cP
          unfold flt at hFO
          rw [← hK, ← hS] at cP htk hFO
          rw [← hK] at hFN
          obtain ⟨qs, rfl, hql, hq⟩ := PR_nats hPR
          rw [ints_toNat] at hFO
          have CP := Lib.hid cP
          have HTK := Lib.hid htk
          have HFO := Lib.hid hFO
          have HFN := Lib.hid hFN
          have HP := Lib.hid hP
          have HQ := Lib.hid hq
          clear cP htk hFO hFN hP hq hPR hK hS hr0
          go_wp2_with fail
          refine CP.out.mono ?_
          rintro e w1 ⟨v1, v2, rfl, ho1, ho2, hb1, _⟩
          have B1 := b0.trans (hb1.mono (by simp))
          obtain ⟨a1, c1, e1, hr1, _, _, _⟩ := ho1.form
          obtain ⟨a2, c2, e2, hr2, _, _, _⟩ := ho2.form
          rw [ints_len] at e1 e2
          subst e1
          subst e2
          have hP' := HP.out
          have hM1 := hP'.pos
          have hM2 := hP'.le
          have hts8 := hP'.len
          have hKlen : K.length ≤ ts.length := by have := HTK.out.count; omega
          clear ho1 ho2 hb1 hP'
          by_cases hKl : K.length < ts.length
          · have hFn := HFN.out hKl
            subst hFn
            go_wp2
            go_ret2
            exact ⟨_, rfl, Own.nil _ _, B1⟩
          · have hFn := HFO.out hKl
            subst hFn
            have hmk := run_make_row' (P := Try.prog) 24 3 (.int .i64 0) 8 Try.underlying24 infoInt rfl .i64 .i64 M (by omega) (by omega)
            have xA := made_tabF w1 w1.heap.size M (Nat.le_refl _) hM2
            have bA := (Below.refl w1.heap.size w1).alloc (Nat.le_refl _) (.cells (madeCells #[.int .i64 0] M) 3)
            obtain ⟨BB, hBB⟩ : ∃ BB, BB = madeCells #[.int .i64 0] M := ⟨_, rfl⟩
            rw [← hBB] at hmk xA bA
            have xA' : Tab (w1.alloc (.cells BB 3)) w1.heap.size w1.heap.size M M (ints (fl M ts qs K S 0)) := by
              rw [show ints (fl M ts qs K S 0) = List.replicate M 0 from by simp [fl, ints]]; exact xA
            have hr1w := hr.below B1
            have hrpw := hrp.below B1
            have hkw : IntKind.i64.wrap ((K.length : Int) - 1) = (K.length : Int) - 1 := IntWalk.i64_in _ (by omega)
            clear hBB xA HFO HFN
            go_wp2_with fail
            go_loopw [12] (fun iv wr => ∃ (j i1 : Nat) (v : Int), j + i1 = K.length ∧ iv = .int .i64 v ∧ v = (i1 : Int) - 1 ∧ Tab wr w1.heap.size w1.heap.size M M (ints (fl M ts qs K S j)) ∧ Below w1.heap.size w1 wr) (fun iv _ => (intOf iv + 1).toNat)
            case atStart => exact ⟨0, K.length, _, by omega, rfl, rfl, xA', bA⟩
            case round =>
              clear xA' bA hmk hkw
              obtain ⟨j, i1, v, hji, rfl, hvi, hT, hB⟩ := hrel
              have B2 := B1.trans (hB.mono B1.size)
              have HJI := Lib.hid hji
              cases i1 with
              | zero =>
                obtain rfl : v = -1 := by omega
                obtain rfl : j = K.length := by omega
                clear hvi hji
                have ho := hT.own.mono B1.size
                go_wp2
                go_ret2
                exact ⟨_, rfl, ho, B2⟩
              | succ i =>
                obtain rfl : v = (i : Int) := by omega
                clear hvi hji
                have hiK : i < K.length := by have := HJI.out; omega
                obtain ⟨kk, hkk⟩ : ∃ kk, kk = K.getD i 0 := ⟨_, rfl⟩
                have hkt : kk < ts.length := by rw [hkk]; exact HTK.out.key _ (getD_memN hiK)
                have hiS : i < S.length := by rw [← HTK.out.len]; exact hiK
                obtain ⟨ss, hss⟩ : ∃ ss, ss = S.getD i 0 := ⟨_, rfl⟩
                have hsM : ss < M := by rw [hss]; exact HTK.out.slot _ (getD_memN hiS)
                have hiK1 : (i : Int) < (K.length : Int) := by omega
                have hiS1 : (i : Int) < (S.length : Int) := by omega
                obtain ⟨b1, off1, y1, rfl, hbb1, hce1, hy1⟩ := hr1.get (k := i) (by rw [ints_len]; exact hiK)
                obtain ⟨b2, off2, y2, rfl, hbb2, hce2, hy2⟩ := hr2.get (k := i) (by rw [ints_len]; exact hiS)
                have hy1' := hy1.out
                rw [ints_get hiK, ← hkk] at hy1'
                subst hy1'
                have hy2' := hy2.out
                rw [ints_get hiS, ← hss] at hy2'
                subst hy2'
                have hcw1 := (hB.cell (p := ⟨b1, off1 + i, none⟩) hbb1).trans hce1
                have hcw2 := (hB.cell (p := ⟨b2, off2 + i, none⟩) hbb2).trans hce2
                have hkt2 : kk < qs.length := by rw [hql]; exact hkt
                obtain ⟨bp, offp, yp, rfl, hbbp, hcep, hyp⟩ := hrpw.get (k := kk) (by rw [ints_len]; exact hkt2)
                have hyp' := hyp.out
                rw [ints_get hkt2] at hyp'
                subst hyp'
                have hcwp := (hB.cell (p := ⟨bp, offp + kk, none⟩) hbbp).trans hcep
                obtain ⟨b, off, A, C, rfl, hbb, hcr, hrow, hrc⟩ := hr1w.get hkt
                have h3 := (HP.out.three hkt).1
                have hcwr := (hB.cell (p := ⟨b, off + kk, none⟩) hbb).trans hcr
                rw [h3] at hcwr hrc
                obtain ⟨L, hL⟩ : ∃ L, L = fl M ts qs K S j := ⟨_, rfl⟩
                rw [← hL] at hT
                have hLl : L.length = M := by rw [hL]; exact fl_len M ts qs K S j
                have hL256 : ∀ x ∈ L, x < 256 := by rw [hL]; exact fl_lt M ts qs K S HQ.out j
                have hp256 := getD_lt HQ.out (by omega) kk
                have hkt1 : (kk : Int) < (ts.length : Int) := by omega
                have hkq1 : (kk : Int) < (qs.length : Int) := by omega
                have hqi : (ints qs).length = qs.length := ints_len qs
                have hx0 : ((qs.getD kk 0 : Nat) : Int) = ((xk L (qs.getD kk 0) (th ts kk) 0 : Nat) : Int) := rfl
                have HL := Lib.hid hL
                have HL2 := Lib.hid hL256
                have HKK := Lib.hid hkk
                have HSS := Lib.hid hss
                have HLL := Lib.hid hLl
                have HQI := Lib.hid hqi
                have H3 := Lib.hid h3
                obtain ⟨pq, hpq⟩ : ∃ pq, pq = qs.getD kk 0 := ⟨_, rfl⟩
                rw [← hpq] at hcwp hp256
                have HPQ := Lib.hid hpq
                clear hL hL256 hkk hss hLl hqi h3 hx0 hpq
                have hcwp' := hcwp
                have hlq : (kk : Int) < ((ints qs).length : Int) := by rw [HQI.out]; omega
                go_wp2_with fail
                go_loopw [13, 14] (fun xv kv wk => ∃ k : Nat, k ≤ 3 ∧ kv = .int .i64 k ∧ xv = .int .i64 (xk L pq (th ts kk) k : Nat) ∧ wk = wr) (fun _ kv _ => 3 - (intOf kv).toNat)
                case atStart => exact ⟨0, by omega, rfl, rfl, rfl⟩
                case round =>
                  obtain ⟨k, hk, rfl, rfl, rfl⟩ := hrel
                  by_cases hk3 : k < 3
                  · obtain ⟨bq, offq, yq, rfl, hbq, hcq, hyq⟩ := hrow.get (k := k) (by rw [H3.out]; exact hk3)
                    obtain ⟨ht1, ht2⟩ := HP.out.th hkt hk3
                    have hyq' := hyq.out
                    rw [ht1] at hyq'
                    subst hyq'
                    have hcwq := (hB.cell (p := ⟨bq, offq + k, none⟩) hbq).trans hcq
                    obtain ⟨t, ht⟩ : ∃ t, t = th ts kk k := ⟨_, rfl⟩
                    rw [← ht] at hcwq ht2
                    obtain ⟨yo, hco, hyo⟩ := hT.get (k := t) ht2
                    have hyo' := hyo.out
                    rw [ints_get (by rw [HLL.out]; exact ht2)] at hyo'
                    subst hyo'
                    have hx256 := xk_lt HL2.out hp256 (h := th ts kk) k
                    have ho256 := getD_lt HL2.out (by omega) t
                    have hxs : xk L pq (th ts kk) (k + 1) = xk L pq (th ts kk) k ^^^ L.getD t 0 := by rw [ht]; rfl
                    obtain ⟨xv, hxv⟩ : ∃ xv, xv = xk L pq (th ts kk) k := ⟨_, rfl⟩
                    obtain ⟨ov, hov⟩ : ∃ ov, ov = L.getD t 0 := ⟨_, rfl⟩
                    rw [← hxv] at hx256 hxs ⊢
                    rw [← hov] at ho256 hxs hco
                    have hxor := bits_xor_i64_nat xv ov (by omega) (by omega)
                    have ht3 : (t : Int) < (M : Int) := by omega
                    have hk31 : (k : Int) < 3 := by omega
                    have HXS := Lib.hid hxs
                    clear hxs hxv hov ht ht1 hyq hyo hcq
                    go_wp2_with fail
                    refine ⟨⟨k + 1, by omega, by go_num, by rw [HXS.out], by first | rfl | trivial⟩, ?_⟩
                    simp [intOf]; omega
                  · obtain rfl : k = 3 := by omega
                    have hsM1 : (ss : Int) < (M : Int) := by omega
                    obtain ⟨yo, hco, hyo⟩ := hT.get (k := ss) hsM
                    have hfz := hT.frozen ss
                    obtain ⟨xv, hxv⟩ : ∃ xv, xv = xk L pq (th ts kk) 3 := ⟨_, rfl⟩
                    rw [← hxv]
                    have hst := hT.store ss (xv : Int)
                    have hB3 := hB.setCell (p := ⟨w1.heap.size, ss, none⟩) (Nat.le_refl _) (.int .i64 (xv : Int))
                    have hfl : (ints L).set ss (xv : Int) = ints (fl M ts qs K S (j + 1)) := by
                      have e : K.length - 1 - j = i := by have := HJI.out; omega
                      rw [ints_set, fl, e, ← HKK.out, ← HSS.out, ← HL.out, ← HPQ.out, hxv]
                      rfl
                    rw [hfl] at hst
                    have hiw : IntKind.i64.wrap ((i : Int) - 1) = (i : Int) - 1 := IntWalk.i64_in _ (by omega)
                    clear hfl hxv hyo hT hB
                    go_wp2
                    go_roundw
                    case rel => exact ⟨j + 1, i, (i : Int) - 1, by have := HJI.out; omega, by first | rfl | go_num, rfl, hst, hB3⟩
                    case measure => simp [intOf]
    · have hFn : F = ([], false) := by rw [HF.out]; exact FO_no fun h => hpl (PR_iff.1 h.2.1).1
      subst hFn
      have hne : ((ps.length : Int) != (ts.length : Int)) = true := by simp; omega
      clear cT hv
      go_enter Try.func7, Try.ntmps7
      go_wp2_with fail
      refine CT.out.mono ?_
      rintro e w0 ⟨rfl, n, rfl⟩
      have b0 := below_drewN (Below.refl w.heap.size w) n
      go_wp2
      go_ret2
      exact ⟨_, rfl, Own.nil _ _, b0⟩
  · have hv' : TV m ts = false := by simpa using hv
    rw [hv'] at cT
    have CT := Lib.hid cT
    have hFn : F = ([], false) := by rw [HF.out]; exact FO_no fun h => hv h.1
    subst hFn
    clear cT hv hv'
    go_enter Try.func7, Try.ntmps7
    go_wp2_with fail
    refine CT.out.mono ?_
    rintro e w0 ⟨rfl, n, rfl⟩
    have b0 := below_drewN (Below.refl w.heap.size w) n
    go_wp2
    go_ret2
    exact ⟨_, rfl, Own.nil _ _, b0⟩
end Go.Proofs.Ytbldfhfciihddab
