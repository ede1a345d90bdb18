/-
  laws.FnMovedBy: the walk.
-/
import Derived.Test.YtbldfhfciihddaaLR3
namespace Go.Proofs.Ytbldfhfciihddaa
open Go.RowKit

set_option maxHeartbeats 8000000 in
set_option maxRecDepth 100000 in
theorem lawFnMovedBy (a : Option Addr) (n cap : Nat) (w : World) (hB : Bytes w w.heap.size a n) (hn : n ≤ 9223372036854775807) (hc : n ≤ cap) :
    Calls Try.prog 6 #[.slice a n cap] w fun e w' => e = .returned (.bool true) ∧ Below w.heap.size w w' := by
  by_cases hbig : 1048576 < n
  · go_enter Try.func6, Try.ntmps6
    go_wp2
    go_ret
    exact ⟨rfl, Below.refl _ _⟩
  go_enter Try.func6, Try.ntmps6
  go_wp2_with fail
  refine (drawMovedBy_any a n cap w hB hn hc).mono ?_
  rintro e w1 ⟨v, l, p, rfl, ho, hl, hs, hp, B1⟩
  clear hB hn hc
  obtain ⟨al, cl, rfl, hr, hlc, hcm, _⟩ := ho.form
  have hi : ∀ x ∈ l, In64 x := fun x hx => by have := hs x hx; unfold In64; omega
  have hp64 : In64 p := by unfold In64; omega
  obtain ⟨R, hR⟩ : ∃ R, R = MV l p := ⟨_, rfl⟩
  have hRl : R.length ≤ 1048586 := by rw [hR]; exact MV_len l p
  have HR := Lib.hid hR
  have i1 := fun wx (h : Reads wx al l) => implMovedBy_any al l cl p wx h hi (by omega) hlc hp64
  have s1 := fun wx (h : Reads wx al l) => specMovedBy_any al l cl p wx h hi (by omega) hlc hp64
  rw [← hR] at i1 s1
  have CI := Lib.hid i1
  have CS := Lib.hid s1
  have HRL := Lib.hid hRl
  have HI := Lib.hid hi
  clear hR i1 s1 hi hlc hcm ho hs hRl
  go_wp2_with fail
  refine (CI.out _ hr).mono ?_
  rintro e w2 ⟨v2, rfl, ho2, b2⟩
  have hr2 := hr.below b2
  have B2 := B1.trans (b2.mono B1.size)
  obtain ⟨a2, c2, rfl, hq2, _, _, _⟩ := ho2.form
  clear b2 B1 hr ho2
  go_wp2_with fail
  refine (CS.out _ hr2).mono ?_
  rintro e w3 ⟨v3, rfl, ho3, b3⟩
  have hr3 := hr2.below b3
  have B3 := B2.trans (b3.mono B2.size)
  have hq3 := hq2.below b3
  obtain ⟨a3, c3, rfl, hs3, _, _, _⟩ := ho3.form
  clear b3 B2 hr2 ho3 hq2
  have ce := equalInts_any a2 a3 R R c2 c3 w3 hq3 hs3 HRL.out HRL.out
  rw [eqL_self] at ce
  have CE := Lib.hid ce
  clear ce
  go_wp2_with fail
  refine CE.out.mono ?_
  rintro e w4 ⟨rfl, m4, rfl⟩
  have hr4 := hr3.below (below_drewN (Below.refl _ w3) m4)
  have hq4 := hq3.below (below_drewN (Below.refl _ w3) m4)
  have B4 := below_drewN B3 m4
  obtain ⟨w4, hw4⟩ : ∃ w4, w4 = w3.drewN m4 := ⟨_, rfl⟩
  rw [← hw4] at hr4 hq4 B4 ⊢
  clear hw4 B3 hq3 hr3 hs3 CE
  by_cases hv : VR l = true ∧ VR (l ++ [p]) = true
  · have hF := MV_facts hv.1 hv.2
    have hl1 := (VR_iff.1 hv.1).1
    have hl6 := (VR_iff.1 hv.1).2.1
    have hm1 : MV l p = mvr l p 64 := by unfold MV; rw [if_pos hv]
    have hRm := mvr_len l p 64
    rw [← hm1] at hRm
    rw [← HR.out] at hF hRm
    obtain ⟨hF1, hF2, hF3, hF4⟩ := hF
    have hR0 : 0 < R.length := List.length_pos_of_mem hF3
    have hne0 : ¬ l.length = 0 := by omega
    have hin : inL R p = true := by unfold inL; exact decide_eq_true hF3
    have ci := fun wx (h : Reads wx a2 R) => isIn_any a2 R c2 p wx h (by omega)
    rw [hin] at ci
    have CIN := Lib.hid ci
    have CAS := Lib.hid (fun wx (h : Reads wx a2 R) => ascends_any a2 R c2 wx h (by omega) hF4)
    have hown : ∀ i, i < R.length → OW (l ++ [p]) (R.getD i 0) = (l.length : Int) := fun i hi => hF1 _ (by
      simp only [List.getD, List.getElem?_eq_getElem hi, Option.getD_some]; exact List.getElem_mem hi)
    have h64 : ∀ i, i < R.length → In64 (R.getD i 0) := fun i hi => by
      have h1 := hown i hi
      have := OW_ok (ps := l ++ [p]) (k := R.getD i 0) (by omega)
      unfold In64; omega
    have hiM : ∀ n ∈ l ++ [p], In64 n := fun n hn => by
      rcases List.mem_append.1 hn with h | h
      · exact HI.out n h
      · simp at h; subst h; exact hp64
    have hlm : (l ++ [p]).length = l.length + 1 := by simp
    have hSl : (SH (l ++ [p])).length = l.length + 1 := by unfold SH; rw [if_pos hv.2, shr_len, hlm]
    have g0 : ((R.length : Int) == 0) = false := beq_eq_false_iff_ne.2 (by omega)
    obtain ⟨Mo, hMo⟩ : ∃ Mo, Mo = l ++ [p] := ⟨_, rfl⟩
    rw [← hMo] at hown hiM hlm hSl hF2
    obtain ⟨S, hS⟩ : ∃ S, S = SH Mo := ⟨_, rfl⟩
    rw [← hS] at hSl hF2
    have HOWN := Lib.hid hown
    have H64 := Lib.hid h64
    have HIM := Lib.hid hiM
    have HLM := Lib.hid hlm
    have HSL := Lib.hid hSl
    have HF2 := Lib.hid hF2
    have HMO := Lib.hid hMo
    have HS := Lib.hid hS
    clear hown h64 hiM hlm hSl hF2 hMo hS hF1 hF3 hF4 hin ci hm1 hv CI CS HR
    go_wp2_with (at_builtin; refine dup_big rfl _ _ rfl al l l.length cl rfl rfl rfl hr4 hne0 (by omega) ?_)
    intro v5 w5 ho5 b5
    obtain ⟨a5, c5, rfl, hr5, hc5, _, _⟩ := ho5.form
    go_wp2_with (at_builtin; refine push_int rfl _ _ rfl w4.heap.size (.slice a5 l.length c5) l p rfl ho5 rfl (by omega) b5.size ?_)
    intro v6 w6 ho6 _ g6
    have b6 : Below w4.heap.size w4 w6 := Below.grownB b5 ho5 g6 b5.size (Nat.le_refl _)
    obtain ⟨a6, c6, e6, hr6, hc6, _, _⟩ := ho6.form
    rw [show (l ++ [p]).length = l.length + 1 by simp] at e6 hc6
    subst e6
    rw [← HMO.out] at hr6
    have hq6 := hq4.below b6
    have B6 := B4.trans (b6.mono B4.size)
    clear ho5 ho6 g6 b5 b6 hr5 hc5 hr4 hq4 B4
    have c1 := implSharesOf_any a6 Mo c6 w6 hr6 HIM.out (by rw [HLM.out]; omega) (by rw [HLM.out]; exact hc6)
    rw [HLM.out, ← HS.out] at c1
    have C1 := Lib.hid c1
    clear c1
    have cO := fun wx (h : Reads wx a6 Mo) k hk => implOwnerOf_any a6 Mo c6 k wx h HIM.out (by rw [HLM.out]; omega) (by rw [HLM.out]; exact hc6) hk
    rw [HLM.out] at cO
    have CO := Lib.hid cO
    clear cO
    go_wp2_with fail
    refine C1.out.mono ?_
    rintro e w7 ⟨v7, rfl, ho7, b7⟩
    have hr7 := hr6.below b7
    have hq7 := hq6.below b7
    have B7 := B6.trans (b7.mono B6.size)
    obtain ⟨a7, c7, e7, hs7, _, _, _⟩ := ho7.form
    rw [HSL.out] at e7
    subst e7
    clear ho7 b7 hr6 hq6 B6 C1
    go_wp2_with fail
    go_loopw [8] (fun iv wr => ∃ i : Nat, i ≤ R.length ∧ iv = .int .i64 i ∧ Below w7.heap.size w7 wr) (fun iv _ => R.length - (intOf iv).toNat)
    case atStart => exact ⟨0, by omega, rfl, Below.refl _ _⟩
    case round =>
      obtain ⟨i, hi, rfl, hB⟩ := hrel
      have hqw := hq7.below hB
      by_cases hlt : i < R.length
      · obtain ⟨b, off, y, rfl, hb, hcell, hy⟩ := hqw.get hlt
        have c1 := CO.out wr (hr7.below hB) y (by rw [← hy.out]; exact H64.out i hlt)
        have h2 := HOWN.out i hlt
        rw [hy.out] at h2
        rw [h2] at c1
        have C1 := Lib.hid c1
        have hi1 : (i : Int) < (R.length : Int) := by omega
        have hii : ((l.length : Int) != (l.length : Int)) = false := by simp
        clear c1 h2 hy
        go_wp2_with fail
        refine C1.out.mono ?_
        rintro e w8 ⟨rfl, b8⟩
        go_wp2
        go_roundw
        case rel => exact ⟨i + 1, by omega, by go_num, hB.trans (b8.mono hB.size)⟩
        case measure => simp [intOf]; omega
      · obtain rfl : i = R.length := by omega
        have hsw := hs7.below hB
        obtain ⟨b, off, y, rfl, hb, hcell, hy⟩ := hsw.get (k := l.length) (by have := HSL.out; omega)
        have hy' := HF2.out
        rw [hy.out] at hy'
        have i1 : ((l.length : Int)) < ((l.length + 1 : Nat) : Int) := by omega
        have BR := B7.trans (hB.mono B7.size)
        have g1 : ((R.length : Int) == y) = true := by rw [hy']; simp
        clear hy hy'
        go_wp2_with fail
        refine (CIN.out _ hqw).mono ?_
        rintro e w8 ⟨rfl, rfl⟩
        go_wp2_with fail
        refine (CAS.out _ hqw).mono ?_
        rintro e w8 ⟨rfl, m8, rfl⟩
        go_wp2
        go_ret
        exact ⟨rfl, below_drewN BR m8⟩
  · have hRe : R = [] := by rw [HR.out]; unfold MV; rw [if_neg hv]
    subst hRe
    clear hv
    go_wp2_with fail
    refine (CS.out _ hr4).mono ?_
    rintro e w5 ⟨v5, rfl, ho5, b5⟩
    have B5 := B4.trans (b5.mono B4.size)
    have hq5 := hq4.below b5
    obtain ⟨a5, c5, rfl, hs5, _, _, _⟩ := ho5.form
    have ce := equalInts_any a2 a5 [] [] c2 c5 w5 hq5 hs5 (by simp) (by simp)
    rw [eqL_self] at ce
    have CE := Lib.hid ce
    clear ce
    go_wp2_with fail
    refine CE.out.mono ?_
    rintro e w6 ⟨rfl, m6, rfl⟩
    go_wp2
    go_ret
    exact ⟨rfl, below_drewN B5 m6⟩
end Go.Proofs.Ytbldfhfciihddaa
