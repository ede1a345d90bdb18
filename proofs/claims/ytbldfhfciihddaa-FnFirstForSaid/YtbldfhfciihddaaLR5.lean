/-
  laws.FnFirstFor: the walk.
-/
import Derived.Test.YtbldfhfciihddaaZ6
import Derived.Test.YtbldfhfciihddaaY5
import Derived.Test.YtbldfhfciihddaaDA
import Derived.Test.YtbldfhfciihddaaW2
import Derived.Test.YtbldfhfciihddaaLG
namespace Go.Proofs.Ytbldfhfciihddaa
open Go.RowKit

set_option maxHeartbeats 8000000 in
set_option maxRecDepth 100000 in
theorem lawFnFirstFor (a : Option Addr) (n cap : Nat) (w : World) (hB : Bytes w w.heap.size a n) (hn : n ≤ 9223372036854775807) (hc : n ≤ cap) :
    Calls Try.prog 7 #[.slice a n cap] w fun e w' => e = .returned (.bool true) ∧ Below w.heap.size w w' := by
  by_cases hbig : 1048576 < n
  · go_enter Try.func7, Try.ntmps7
    go_wp2
    go_ret
    exact ⟨rfl, Below.refl _ _⟩
  go_enter Try.func7, Try.ntmps7
  go_wp2_with fail
  refine (drawFirstFor_any a n cap w hB hn hc).mono ?_
  rintro e w1 ⟨v, l, k, rfl, ho, hl, hs, hk, B1⟩
  clear hB hn hc
  obtain ⟨al, cl, rfl, hr, hlc, hcm, _⟩ := ho.form
  have hi : ∀ x ∈ l, In64 x := fun x hx => by have := hs x hx; unfold In64; omega
  have hk64 : In64 k := by unfold In64; omega
  obtain ⟨R, hR⟩ : ∃ R, R = FF l k := ⟨_, rfl⟩
  have e1 : (R != R) = false := by simp
  have e2 : (R == R) = true := by simp
  have HR := Lib.hid hR
  have i1 := fun wx (h : Reads wx al l) => implFirstFor_any al l cl k wx h hi (by omega) hk64
  have s1 := fun wx (h : Reads wx al l) => specFirstFor_any al l cl k wx h hi (by omega) hk64
  rw [← hR] at i1 s1
  have CI := Lib.hid i1
  have CS := Lib.hid s1
  have HI := Lib.hid hi
  have HLC := Lib.hid hlc
  have HCM := Lib.hid hcm
  clear hR i1 s1 hi hlc hcm ho hs
  go_wp2_with fail
  refine (CI.out _ hr).mono ?_
  rintro e w2 ⟨rfl, b2⟩
  have hr2 := hr.below b2
  have B2 := B1.trans (b2.mono B1.size)
  clear b2 B1 hr
  go_wp2_with fail
  refine (CS.out _ hr2).mono ?_
  rintro e w3 ⟨rfl, b3⟩
  have hr3 := hr2.below b3
  have B3 := B2.trans (b3.mono B2.size)
  clear b3 B2 hr2
  by_cases hneg : R < 0
  · go_wp2_with fail
    refine (CS.out _ hr3).mono ?_
    rintro e w4 ⟨rfl, b4⟩
    have B4 := B3.trans (b4.mono B3.size)
    clear b4 B3
    go_wp2
    go_ret
    exact ⟨rfl, B4⟩
  · obtain ⟨hv, k0, k1⟩ := FF_ok (l := l) (k := k) (by rw [← HR.out]; exact hneg)
    have hin : R ∈ l := by
      rw [HR.out, FF_yes hv k0 k1]
      have := fst_lt (k := k) hv
      simp only [List.getD, List.getElem?_eq_getElem this, Option.getD_some]
      exact List.getElem_mem this
    have ci := fun wx (h : Reads wx al l) => isIn_any al l cl R wx h (by omega)
    rw [show inL l R = true by unfold inL; exact decide_eq_true hin] at ci
    have CIN := Lib.hid ci
    have HV := Lib.hid hv
    clear hv ci hin e2 CI CS
    go_wp2_with fail
    go_loopw [6] (fun iv wr => ∃ i : Nat, i ≤ l.length ∧ iv = .int .i64 i ∧ Below w3.heap.size w3 wr) (fun iv _ => l.length - (intOf iv).toNat)
    case atStart => exact ⟨0, by omega, rfl, Below.refl _ _⟩
    case round =>
      obtain ⟨i, hi, rfl, hB⟩ := hrel
      have hrw := hr3.below hB
      by_cases hlt : i < l.length
      · obtain ⟨b, off, y, rfl, hb, hcell, hy⟩ := hrw.get hlt
        have hi1 : (i : Int) < (l.length : Int) := by omega
        by_cases hyR : y = R
        · subst hyR
          clear hy
          go_wp2
          go_roundw
          case rel => exact ⟨i + 1, by omega, by go_num, hB⟩
          case measure => simp [intOf]; omega
        · have hne : (y != R) = true := by simpa using hyR
          have hFE := FF_erase HV.out k0 k1 hlt (by rw [hy.out, ← HR.out]; exact hyR)
          rw [← HR.out] at hFE
          obtain ⟨E, hE⟩ : ∃ E, E = l.eraseIdx i := ⟨_, rfl⟩
          rw [← hE] at hFE
          have hEi : ∀ x ∈ E, In64 x := fun x hx => HI.out x (List.mem_of_mem_eraseIdx (by rw [← hE]; exact hx))
          have hle : E.length ≤ 1000 := by rw [hE]; have := List.length_eraseIdx_le l i; omega
          have cw := without_any (some ⟨b, off, none⟩) l cl i wr hrw (by omega) HLC.out HCM.out hlt
          rw [← hE] at cw
          have CW := Lib.hid cw
          have HFE := Lib.hid hFE
          have HEI := Lib.hid hEi
          have HLE := Lib.hid hle
          clear cw hFE hEi hle hE hyR hy
          go_wp2_with fail
          refine CW.out.mono ?_
          rintro e w5 ⟨v5, rfl, ho5, b5⟩
          have hB5 := hB.trans (b5.mono hB.size)
          obtain ⟨a5, c5, rfl, hr5, hc5, _, _⟩ := ho5.form
          have cF := implFirstFor_any a5 E c5 k w5 hr5 HEI.out (by have := HLE.out; omega) hk64
          rw [HFE.out] at cF
          have CF := Lib.hid cF
          clear cF ho5 hr5 b5 CW
          go_wp2_with fail
          refine CF.out.mono ?_
          rintro e w6 ⟨rfl, b6⟩
          have hB6 := hB5.trans (b6.mono hB5.size)
          go_wp2
          go_roundw
          case rel => exact ⟨i + 1, by omega, by go_num, hB6⟩
          case measure => simp [intOf]; omega
      · obtain rfl : i = l.length := by omega
        have B := B3.trans (hB.mono B3.size)
        go_wp2_with fail
        refine (CIN.out _ hrw).mono ?_
        rintro e w8 ⟨rfl, rfl⟩
        go_wp2
        go_ret
        exact ⟨rfl, B⟩
end Go.Proofs.Ytbldfhfciihddaa
