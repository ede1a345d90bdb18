/-
  impl.validPrints, printAt.
-/
import Derived.Test.YtbldfhfciihddabPF
namespace Go.Proofs.Ytbldfhfciihddab
open Go.RowKit

set_option maxHeartbeats 1000000 in
theorem validPrints_any (nk : Nat) (ap : Option Addr) (ps : List Int) (cp : Nat) (w : World) (hn : nk ≤ 1048586) (hrp : Reads w ap ps) (hlp : ps.length ≤ 1048586) :
    Calls Try.prog 23 #[.int .i64 nk, .slice ap ps.length cp] w fun e w' => e = .returned (.bool (PR nk ps)) ∧ Below w.heap.size w w' := by
  by_cases hne : ps.length = nk
  · have hd : ((ps.length : Int) != (nk : Int)) = false := by simp [hne]
    have HNE := Lib.hid hne
    clear hne
    go_enter Try.func23, Try.ntmps23
    go_wp2
    go_loopw [13] (fun iv wr => ∃ i : Nat, i ≤ ps.length ∧ iv = .int .i64 i ∧ Hid (FitR ps i) ∧ Below w.heap.size w wr) (fun iv _ => ps.length - (intOf iv).toNat)
    case atStart => exact ⟨0, Nat.zero_le _, rfl, FitR.zero ps, Below.refl _ _⟩
    case round =>
      obtain ⟨i, hi, rfl, hfit, hB⟩ := hrel
      by_cases hlt : i < ps.length
      · obtain ⟨bb, off, y, rfl, hbb, hcell, hy⟩ := hrp.get hlt
        have hc1 := (hB.cell (p := ⟨bb, off + i, none⟩) hbb).trans hcell
        have hi1 : (i : Int) < (ps.length : Int) := by omega
        by_cases h1 : y < 0
        · have hv : PR nk ps = false := PR_false fun h => by have := (h.2 i hlt).1; rw [hy.out] at this; omega
          have HV := Lib.hid hv
          clear hv hy
          go_wp2
          go_ret
          exact ⟨ret_bool HV.out.symm, hB⟩
        · by_cases h2 : 255 < y
          · have hv : PR nk ps = false := PR_false fun h => by have := (h.2 i hlt).2; rw [hy.out] at this; omega
            have HV := Lib.hid hv
            clear hv hy
            go_wp2
            go_ret
            exact ⟨ret_bool HV.out.symm, hB⟩
          · have hf2 : Hid (FitR ps (i + 1)) := FitR.succ hfit.out (by rw [hy.out]; omega) (by rw [hy.out]; omega)
            clear hy
            go_wp2
            go_roundw
            case rel => exact ⟨i + 1, by omega, by go_num, hf2, hB⟩
            case measure => simp [intOf]; omega
      · obtain rfl : i = ps.length := by omega
        have hv : PR nk ps = true := PR_iff.2 ⟨HNE.out, hfit.out⟩
        have HV := Lib.hid hv
        clear hv
        go_wp2
        go_ret
        exact ⟨ret_bool HV.out.symm, hB⟩
  · have hv : PR nk ps = false := PR_false fun h => hne h.1
    have hd : ((ps.length : Int) != (nk : Int)) = true := by simp; omega
    go_enter Try.func23, Try.ntmps23
    go_wp2
    go_ret
    exact ⟨ret_bool (by first | exact hv.symm | rfl), Below.refl _ _⟩

set_option maxHeartbeats 1000000 in
theorem printAt_any (M g base : Nat) (L : List Nat) (al : Option Addr) (t : List Int) (C : Nat) (h : Nat → Nat) (w : World) (hT : Tab w base g M M (ints L)) (hL : ∀ x ∈ L, x < 256) (hr : Reads w al t) (h3 : t.length = 3) (hh : ∀ j, j < 3 → t.getD j 0 = (h j : Int) ∧ h j < M) :
    Calls Try.prog 25 #[.slice (some ⟨g, 0, none⟩) M M, .slice al 3 C] w fun e w' => e = .returned (.int .i64 (xk L 0 h 3 : Nat)) ∧ Below w.heap.size w w' := by
  have HL := Lib.hid hL
  have HH := Lib.hid hh
  have hLl : L.length = M := by have := hT.len; rw [ints_len] at this; exact this
  have HLL := Lib.hid hLl
  have H3 := Lib.hid h3
  clear hL hh hLl h3
  go_enter Try.func25, Try.ntmps25
  go_wp2
  go_loopw [10, 5] (fun iv xv wr => ∃ k : Nat, k ≤ 3 ∧ iv = .int .i64 k ∧ xv = .int .i64 (xk L 0 h k : Nat) ∧ Below w.heap.size w wr) (fun iv _ _ => 3 - (intOf iv).toNat)
  case atStart => exact ⟨0, by omega, rfl, rfl, Below.refl _ _⟩
  case round =>
    obtain ⟨k, hk, rfl, rfl, hB⟩ := hrel
    by_cases hk3 : k < 3
    · obtain ⟨bq, offq, yq, rfl, hbq, hcq, hyq⟩ := hr.get (k := k) (by rw [H3.out]; exact hk3)
      obtain ⟨ht1, ht2⟩ := HH.out k hk3
      have hyq' := hyq.out
      rw [ht1] at hyq'
      subst hyq'
      have hcwq := (hB.cell (p := ⟨bq, offq + k, none⟩) hbq).trans hcq
      obtain ⟨t', ht⟩ : ∃ t', t' = h k := ⟨_, rfl⟩
      rw [← ht] at hcwq ht2
      obtain ⟨yo, hco, hyo⟩ := hT.get (k := t') ht2
      have hyo' := hyo.out
      rw [ints_get (by rw [HLL.out]; exact ht2)] at hyo'
      subst hyo'
      have hcw := (hB.cell (p := ⟨g, t', none⟩) hT.block.2).trans hco
      have hx256 := xk_lt HL.out (show 0 < 256 by omega) (h := h) k
      have ho256 := getD_lt HL.out (by omega) t'
      have hxs : xk L 0 h (k + 1) = xk L 0 h k ^^^ L.getD t' 0 := by rw [ht]; rfl
      obtain ⟨xv, hxv⟩ : ∃ xv, xv = xk L 0 h k := ⟨_, rfl⟩
      obtain ⟨ov, hov⟩ : ∃ ov, ov = L.getD t' 0 := ⟨_, rfl⟩
      rw [← hxv] at hx256 hxs ⊢
      rw [← hov] at ho256 hxs hco hcw
      have hxor := bits_xor_i64_nat xv ov (by omega) (by omega)
      have ht3 : (t' : Int) < (M : Int) := by omega
      have hk31 : (k : Int) < 3 := by omega
      have HXS := Lib.hid hxs
      clear hxs hxv hov ht ht1 hyq hyo hcq hco
      go_wp2
      go_roundw
      case rel => exact ⟨k + 1, by omega, by go_num, by rw [HXS.out], hB⟩
      case measure => simp [intOf]; omega
    · obtain rfl : k = 3 := by omega
      go_wp2
      go_ret
      exact ⟨rfl, hB⟩
end Go.Proofs.Ytbldfhfciihddab
