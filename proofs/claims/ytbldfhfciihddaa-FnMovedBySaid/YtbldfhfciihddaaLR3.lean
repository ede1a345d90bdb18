/-
  laws.FnSharesOf, FnMovedBy: the walks.
-/
import Derived.Test.YtbldfhfciihddaaZ4
import Derived.Test.YtbldfhfciihddaaZ3
import Derived.Test.YtbldfhfciihddaaZ5
import Derived.Test.YtbldfhfciihddaaD9
import Derived.Test.YtbldfhfciihddaaY3
import Derived.Test.YtbldfhfciihddaaLG
namespace Go.Proofs.Ytbldfhfciihddaa
open Go.RowKit

theorem summ_sum (l : List Int) : summ l = l.sum := by
  induction l with
  | nil => rfl
  | cons x l ih => rw [summ, List.sum_cons, ih]

set_option maxHeartbeats 2000000 in
theorem ascends_any (a : Option Addr) (l : List Int) (cap : Nat) (w : World) (hr : Reads w a l) (hl : l.length ≤ 1000) (hp : l.Pairwise (· < ·)) :
    Calls Try.prog 35 #[.slice a l.length cap] w fun e w' => e = .returned (.bool true) ∧ ∃ n, w' = w.drewN n := by
  have HP : Hid (∀ i j, i < j → j < l.length → l.getD i 0 < l.getD j 0) := by
    intro i j hij hj
    have := List.pairwise_iff_getElem.1 hp i j (by omega) hj hij
    simp only [List.getD, List.getElem?_eq_getElem hj, List.getElem?_eq_getElem (show i < l.length by omega), Option.getD_some]
    exact this
  clear hp
  go_enter Try.func35, Try.ntmps35
  go_wp2
  go_loopw [3] (fun iv wr => ∃ t t1 q : Nat, (t + 1 ≤ l.length ∨ t = 0) ∧ iv = .int .i64 (t1 : Int) ∧ Hid (t1 = t + 1) ∧ wr = w.drewN q) (fun iv _ => l.length - (intOf iv).toNat)
  case atStart => exact ⟨0, 1, 0, .inr rfl, rfl, rfl, rfl⟩
  case round =>
    obtain ⟨t, t1, q, ht, rfl, HT1, rfl⟩ := hrel
    by_cases hlt : t1 < l.length
    · obtain ⟨b, off, y, rfl, hb, hc1, hy⟩ := hr.get hlt
      have htl : t < l.length := by have := HT1.out; omega
      obtain ⟨z, hc2, hz⟩ := hr.at_ htl
      have hyz := HP.out t t1 (by have := HT1.out; omega) hlt
      rw [hy.out, hz.out] at hyz
      have hno : ¬ y ≤ z := by omega
      have i1 : (t1 : Int) < (l.length : Int) := by omega
      have i2 : (t : Int) < (l.length : Int) := by omega
      have hw1 : IntKind.i64.wrap ((t1 : Int) - 1) = (t : Int) := by rw [IntWalk.i64_in _ (by omega)]; have := HT1.out; omega
      have hw2 : IntKind.i64.wrap ((t1 : Int) + 1) = ((t1 + 1 : Nat) : Int) := by rw [IntWalk.i64_in _ (by omega)]; rfl
      clear hyz hy hz ht
      go_wp2_with fail
      go_quiet (fail)
      go_wp2
      go_roundw
      case rel => exact ⟨t1, t1 + 1, _, .inl (by omega), by first | rfl | go_num, rfl, by first | rfl | exact World.drewN_drewN _ _ _⟩
      case measure => simp [intOf]; omega
    · have ht1 : ¬ (t1 : Int) < (l.length : Int) := by omega
      go_wp2
      go_ret
      exact ⟨rfl, _, rfl⟩

set_option maxHeartbeats 8000000 in
set_option maxRecDepth 100000 in
theorem lawFnSharesOf (a : Option Addr) (n cap : Nat) (w : World) (hB : Bytes w w.heap.size a n) (hn : n ≤ 9223372036854775807) (hc : n ≤ cap) :
    Calls Try.prog 5 #[.slice a n cap] w fun e w' => e = .returned (.bool true) ∧ Below w.heap.size w w' := by
  by_cases hbig : 1048576 < n
  · go_enter Try.func5, Try.ntmps5
    go_wp2
    go_ret
    exact ⟨rfl, Below.refl _ _⟩
  go_enter Try.func5, Try.ntmps5
  go_wp2_with fail
  refine (drawSharesOf_any a n cap w hB hn hc).mono ?_
  rintro e w1 ⟨v, l, rfl, ho, hl, hs, B1⟩
  clear hB hn hc
  obtain ⟨al, cl, rfl, hr, hlc, hcm, _⟩ := ho.form
  have hi : ∀ x ∈ l, In64 x := fun x hx => by have := hs x hx; unfold In64; omega
  obtain ⟨R, hR⟩ : ∃ R, R = SH l := ⟨_, rfl⟩
  have hRl : R.length ≤ 1048586 := by rw [hR]; exact SH_len l
  have HR := Lib.hid hR
  have i1 := fun wx (h : Reads wx al l) => implSharesOf_any al l cl wx h hi (by omega) hlc
  have s1 := fun wx (h : Reads wx al l) => specSharesOf_any al l cl wx h hi (by omega) hlc
  rw [← hR] at i1 s1
  have CI := Lib.hid i1
  have CS := Lib.hid s1
  have HRL := Lib.hid hRl
  clear hR i1 s1 hi hlc hcm ho hs hRl
  go_wp2_with fail
  refine (CI.out _ hr).mono ?_
  rintro e w2 ⟨v2, rfl, ho2, b2⟩
  have hr2 := hr.below b2
  have B2 := B1.trans (b2.mono B1.size)
  obtain ⟨a2, c2, rfl, hq2, _, _, _⟩ := ho2.form
  clear b2 B1 hr ho2
  go_wp2_with fail
  refine (CS.out _ hr2).mono ?_
  rintro e w3 ⟨v3, rfl, ho3, b3⟩
  have hr3 := hr2.below b3
  have B3 := B2.trans (b3.mono B2.size)
  have hq3 := hq2.below b3
  obtain ⟨a3, c3, rfl, hs3, _, _, _⟩ := ho3.form
  clear b3 B2 hr2 ho3 hq2
  have ce := equalInts_any a2 a3 R R c2 c3 w3 hq3 hs3 HRL.out HRL.out
  rw [eqL_self] at ce
  have CE := Lib.hid ce
  clear ce
  go_wp2_with fail
  refine CE.out.mono ?_
  rintro e w4 ⟨rfl, m4, rfl⟩
  have hr4 := hr3.below (below_drewN (Below.refl _ w3) m4)
  have hq4 := hq3.below (below_drewN (Below.refl _ w3) m4)
  have B4 := below_drewN B3 m4
  obtain ⟨w4, hw4⟩ : ∃ w4, w4 = w3.drewN m4 := ⟨_, rfl⟩
  rw [← hw4] at hr4 hq4 B4 ⊢
  clear hw4 B3 hq3 hr3 hs3 CE
  by_cases hv : VR l = true
  · have hRe : R = shr l 64 := by rw [HR.out]; unfold SH; rw [if_pos hv]
    have hRn : R.length = l.length := by rw [hRe, shr_len]
    have hl1 := (VR_iff.1 hv).1
    have hl6 := (VR_iff.1 hv).2.1
    have hone : ∀ i, i < R.length → 1 ≤ R.getD i 0 := fun i h => by rw [HR.out]; exact SH_one hv (by omega)
    have hbnd : ∀ x ∈ R, -1000 ≤ x ∧ x ≤ 1000 := fun x hx => by
      obtain ⟨i, hi, rfl⟩ := List.getElem_of_mem hx
      have := shr_nn hv 64 i (by omega)
      rw [← hRe] at this
      simp only [List.getD, List.getElem?_eq_getElem hi, Option.getD_some] at this
      omega
    have hsum : summ R = 64 := by rw [summ_sum, hRe, shr_sum hv]; rfl
    have ct := fun wx (h : Reads wx a2 R) => total_any a2 R c2 wx h (by omega) hbnd
    rw [hsum] at ct
    have CT := Lib.hid ct
    have HONE := Lib.hid hone
    rw [hRn] at CT ⊢
    have HRN := Lib.hid hRn
    have hl0 : ((l.length : Int) == 0) = false := beq_eq_false_iff_ne.2 (by omega)
    have hll : ((l.length : Int) == (l.length : Int)) = true := by simp
    clear hRe hRn hone hbnd hsum ct hv CI CS HR
    go_wp2
    go_loop [5] (fun iv => ∃ i : Nat, i ≤ l.length ∧ iv = .int .i64 i) (fun iv => l.length - (intOf iv).toNat)
    case atStart => exact ⟨0, by omega, rfl⟩
    case round =>
      obtain ⟨i, hi, rfl⟩ := hrel
      by_cases hlt : i < l.length
      · obtain ⟨b, off, y, rfl, hb, hcell, hy⟩ := hq4.get (k := i) (by have := HRN.out; omega)
        have h1 := HONE.out i (by have := HRN.out; omega)
        rw [hy.out] at h1
        have hy1 : ¬ y < 1 := by omega
        have hi1 : (i : Int) < (l.length : Int) := by omega
        clear hy h1
        go_wp2
        go_round
        case rel => exact ⟨i + 1, by omega, by go_num⟩
        case measure => simp [intOf]; omega
      · obtain rfl : i = l.length := by omega
        go_wp2_with fail
        refine (CT.out _ hq4).mono ?_
        rintro e w5 ⟨rfl, rfl⟩
        go_wp2
        go_ret
        exact ⟨rfl, B4⟩
  · have hRe : R = [] := by rw [HR.out]; unfold SH; rw [if_neg hv]
    subst hRe
    clear hv
    go_wp2_with fail
    refine (CS.out _ hr4).mono ?_
    rintro e w5 ⟨v5, rfl, ho5, b5⟩
    have B5 := B4.trans (b5.mono B4.size)
    have hq5 := hq4.below b5
    obtain ⟨a5, c5, rfl, hs5, _, _, _⟩ := ho5.form
    have ce := equalInts_any a2 a5 [] [] c2 c5 w5 hq5 hs5 (by simp) (by simp)
    rw [eqL_self] at ce
    have CE := Lib.hid ce
    clear ce
    go_wp2_with fail
    refine CE.out.mono ?_
    rintro e w6 ⟨rfl, m6, rfl⟩
    go_wp2
    go_ret
    exact ⟨rfl, below_drewN B5 m6⟩
end Go.Proofs.Ytbldfhfciihddaa
