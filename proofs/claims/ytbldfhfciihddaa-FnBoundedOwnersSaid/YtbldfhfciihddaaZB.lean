/-
  validLoad, slices.IndexFunc with the closure, impl.BoundedOwners.
-/
import Derived.Test.YtbldfhfciihddaaZA
import Derived.Test.YtbldfhfciihddaaY6
namespace Go.Proofs.Ytbldfhfciihddaa
open Go.RowKit

/-- What validLoad says. -/
def VL (ks : List Int) (load : Int) : Bool := decide (ks.length ≤ 8) && decide (1 ≤ load) && decide (load ≤ 8) && decide (FitK ks ks.length)
theorem VL_iff {ks : List Int} {load : Int} : VL ks load = true ↔ ks.length ≤ 8 ∧ (1 ≤ load ∧ load ≤ 8) ∧ FitK ks ks.length := by
  unfold VL; simp only [Bool.and_eq_true, decide_eq_true_eq, and_assoc]
theorem VL_false {ks : List Int} {load : Int} (h : ¬ (ks.length ≤ 8 ∧ (1 ≤ load ∧ load ≤ 8) ∧ FitK ks ks.length)) : VL ks load = false := by
  rw [← VL_iff] at h; simpa using h

set_option maxHeartbeats 2000000 in
theorem validLoad_any (a : Option Addr) (l : List Int) (cap : Nat) (load : Int) (w : World) (hr : Reads w a l) (hl : l.length ≤ 1048586) :
    Calls Try.prog 76 #[.slice a l.length cap, .int .i64 load] w fun e w' => e = .returned (.bool (VL l load)) ∧ Below w.heap.size w w' := by
  by_cases h8 : 8 < l.length
  · rw [VL_false (ks := l) (load := load) (fun h => by have := h.1; omega)]
    have h8' : (l.length : Int) > 8 := by omega
    go_enter Try.func76, Try.ntmps76
    go_wp2
    go_ret
    exact ⟨rfl, Below.refl _ _⟩
  have h8' : ¬ (l.length : Int) > 8 := by omega
  by_cases h1 : load < 1
  · rw [VL_false (ks := l) (load := load) (fun h => by have := h.2.1.1; omega)]
    go_enter Try.func76, Try.ntmps76
    go_wp2
    go_ret
    exact ⟨rfl, Below.refl _ _⟩
  by_cases h9 : load > 8
  · rw [VL_false (ks := l) (load := load) (fun h => by have := h.2.1.2; omega)]
    go_enter Try.func76, Try.ntmps76
    go_wp2
    go_ret
    exact ⟨rfl, Below.refl _ _⟩
  obtain ⟨R, hR⟩ : ∃ R, R = VL l load := ⟨_, rfl⟩
  rw [← hR]
  have HR := Lib.hid hR
  clear hR
  go_enter Try.func76, Try.ntmps76
  go_wp2
  go_loopw [20] (fun iv wr => ∃ i : Nat, i ≤ l.length ∧ iv = .int .i64 i ∧ Hid (FitK l i) ∧ Below w.heap.size w wr) (fun iv _ => l.length - (intOf iv).toNat)
  case atStart => exact ⟨0, by omega, rfl, FitK.zero _, Below.refl _ _⟩
  case round =>
    obtain ⟨i, hi, rfl, hf, hB⟩ := hrel
    by_cases hlt : i < l.length
    · obtain ⟨b, off, y, rfl, hb, hcell, hy⟩ := (hr.below hB).get hlt
      have hi1 : (i : Int) < (l.length : Int) := by omega
      by_cases hin : inR y 0 63 = true
      · have hy63 := inR_iff.1 hin
        have HF := Lib.hid (show FitK l (i + 1) from hf.out.succ (by rw [hy.out]; exact hy63.1) (by rw [hy.out]; exact hy63.2))
        have c := fun wx => isPlace_any y wx
        rw [hin] at c
        have C := Lib.hid c
        clear c hin hy
        go_wp2_with fail
        refine (C.out _).mono ?_
        rintro e w' ⟨rfl, rfl⟩
        go_wp2
        go_roundw
        case rel => exact ⟨i + 1, by omega, by go_num, HF, hB⟩
        case measure => simp [intOf]; omega
      · have e : R = false := by
          rw [HR.out]; refine VL_false fun h => hin (inR_iff.2 ?_)
          have := h.2.2 i hlt
          rwa [hy.out] at this
        subst e
        have c := fun wx => isPlace_any y wx
        rw [show inR y 0 63 = false from by simpa using hin] at c
        have C := Lib.hid c
        clear c hin hy
        go_wp2_with fail
        refine (C.out _).mono ?_
        rintro e w' ⟨rfl, rfl⟩
        go_wp2
        go_ret
        exact ⟨rfl, hB⟩
    · obtain rfl : i = l.length := by omega
      have e : R = true := by rw [HR.out]; exact VL_iff.2 ⟨by omega, ⟨by omega, by omega⟩, hf.out⟩
      subst e
      go_wp2
      go_ret
      exact ⟨rfl, hB⟩

set_option maxHeartbeats 2000000 in
theorem mayMore_any (gP gL : Nat) (gC n cc : Nat) (C : List Int) (load : Int) (s : Nat) (w : World) (hs : s < C.length) (hn : C.length = n) (hP : w.cell? ⟨gP, 0, none⟩ = some (.slice (some ⟨gC, 0, none⟩) n cc)) (hL : w.cell? ⟨gL, 0, none⟩ = some (.int .i64 load)) (hC : CellsAt w gC 0 C) :
    Calls Try.prog 79 #[.int .i64 (s : Int), .pointer (some ⟨gP, 0, none⟩), .pointer (some ⟨gL, 0, none⟩)] w fun e w' => e = .returned (.bool (mo load C s)) ∧ ∃ q, w' = w.drewN q := by
  subst hn
  have hc := hC s hs
  rw [Nat.zero_add] at hc
  have hm : mo load C s = decide (C.getD s 0 < load) := rfl
  rw [hm]
  obtain ⟨c, hcc⟩ : ∃ c, c = C.getD s 0 := ⟨_, rfl⟩
  rw [← hcc] at hc ⊢
  have hsl : (s : Int) < (C.length : Int) := by omega
  clear hcc hm
  go_enter Try.func79, Try.ntmps79
  go_wp2
  go_quiet (fail)
  all_goals
    go_wp2
    go_ret
    exact ⟨rfl, _, rfl⟩

set_option maxHeartbeats 2000000 in
theorem indexFunc_any (aR : Option Addr) (R : List Nat) (nR cR : Nat) (gP gL : Nat) (gC n cc : Nat) (C : List Int) (load : Int) (w : World) (hn : C.length = n) (hR : R.length = nR) (h6 : nR ≤ 6) (hm : ∀ i, i < nR → R.getD i 0 < n) (hr : Reads w aR (nts R)) (hP : w.cell? ⟨gP, 0, none⟩ = some (.slice (some ⟨gC, 0, none⟩) n cc)) (hL : w.cell? ⟨gL, 0, none⟩ = some (.int .i64 load)) (hC : CellsAt w gC 0 C) :
    Calls Try.prog 78 #[.slice aR nR cR, .func (.func 79) #[] #[.pointer (some ⟨gP, 0, none⟩), .pointer (some ⟨gL, 0, none⟩)]] w fun e w' => (∃ r : Int, e = .returned (.int .i64 r) ∧ ((r = -1 ∧ ∀ j, j < nR → mo load C (R.getD j 0) = false) ∨ ∃ i : Nat, r = (i : Int) ∧ i < nR ∧ mo load C (R.getD i 0) = true ∧ ∀ j, j < i → mo load C (R.getD j 0) = false)) ∧ ∃ q, w' = w.drewN q := by
  subst hR
  have hrl : (nts R).length = R.length := nts_len R
  go_enter Try.func78, Try.ntmps78
  go_wp2
  go_loopw [8] (fun iv wr => ∃ i q : Nat, i ≤ R.length ∧ iv = .int .i64 i ∧ Hid (∀ j, j < i → mo load C (R.getD j 0) = false) ∧ wr = w.drewN q) (fun iv _ => R.length - (intOf iv).toNat)
  case atStart => exact ⟨0, 0, by omega, rfl, fun j hj => by omega, rfl⟩
  case round =>
    obtain ⟨i, q, hi, rfl, hf, rfl⟩ := hrel
    by_cases hlt : i < R.length
    · obtain ⟨b, off, y, rfl, hb, hcell, hy⟩ := hr.get (k := i) (by omega)
      have hy' : y = ((R.getD i 0 : Nat) : Int) := by rw [← hy.out, nts_get hlt]
      obtain ⟨s, hs⟩ : ∃ s, s = R.getD i 0 := ⟨_, rfl⟩
      have hsn := hm i hlt
      rw [← hs] at hy' hsn
      subst hy'
      have hi1 : (i : Int) < (R.length : Int) := by omega
      have c := fun q => mayMore_any gP gL gC n cc C load s (w.drewN q) (by omega) hn hP hL hC
      obtain ⟨m, hmm⟩ : ∃ m, m = mo load C s := ⟨_, rfl⟩
      rw [← hmm] at c
      rw [hs] at hmm
      have HMM := Lib.hid hmm
      have CC := Lib.hid c
      clear c hs hmm hy
      cases m with
      | true =>
        go_wp2_with fail
        refine (CC.out q).mono ?_
        rintro e w' ⟨rfl, q2, rfl⟩
        go_wp2
        go_ret
        exact ⟨⟨_, rfl, .inr ⟨i, rfl, hlt, HMM.out.symm, hf.out⟩⟩, _, rfl⟩
      | false =>
        have HF := Lib.hid (show ∀ j, j < i + 1 → mo load C (R.getD j 0) = false from fun j hj => by
          by_cases e : j = i
          · subst e; exact HMM.out.symm
          · exact hf.out j (by omega))
        go_wp2_with fail
        refine (CC.out q).mono ?_
        rintro e w' ⟨rfl, q2, rfl⟩
        go_wp2
        go_roundw
        case rel => exact ⟨i + 1, _, by omega, by go_num, HF, rfl⟩
        case measure => simp [intOf]; omega
    · obtain rfl : i = R.length := by omega
      go_wp2
      go_ret
      exact ⟨⟨_, rfl, .inl ⟨rfl, hf.out⟩⟩, _, rfl⟩
end Go.Proofs.Ytbldfhfciihddaa
