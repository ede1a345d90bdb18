/-
  impl.validBuckets, impl.ShiftsFor.
-/
import Derived.Test.YtapkalpmnldhpaaHb
namespace Go.Proofs.Ytapkalpmnldhpaa
open Go.RowKit

/-- The first k buckets' numbers are slots. -/
def FitB (m : Int) (ts : List (List Int)) (k : Nat) : Prop := ∀ r, r < k → ∀ i, i < (tr ts r).length → 0 ≤ (tr ts r).getD i 0 ∧ (tr ts r).getD i 0 < m
def FitR (m : Int) (t : List Int) (j : Nat) : Prop := ∀ i, i < j → 0 ≤ t.getD i 0 ∧ t.getD i 0 < m
theorem FitB.succ {m : Int} {ts : List (List Int)} {k : Nat} (h : FitB m ts k) (h1 : FitR m (tr ts k) (tr ts k).length) : FitB m ts (k + 1) := by
  intro r hr
  by_cases e : r < k
  · exact h r e
  · obtain rfl : r = k := by omega
    exact h1
theorem FitR.succ {m : Int} {t : List Int} {j : Nat} (h : FitR m t j) (h1 : 0 ≤ t.getD j 0 ∧ t.getD j 0 < m) : FitR m t (j + 1) := by
  intro r hr
  by_cases e : r < j
  · exact h r e
  · obtain rfl : r = j := by omega
    exact h1
theorem VB_bad {m : Int} {ts : List (List Int)} {r i : Nat} (hr : r < ts.length) (hi : i < (tr ts r).length) (h : ¬ (0 ≤ (tr ts r).getD i 0 ∧ (tr ts r).getD i 0 < m)) : VB m ts = false := VB_no fun ⟨_, _, _, _, h5⟩ => h (h5 r hr i hi)

set_option maxHeartbeats 2000000 in
set_option maxRecDepth 100000 in
theorem validBuckets_any (m : Int) (a : Option Addr) (ts : List (List Int)) (cap : Nat) (w : World) (hr : ReadsS w a ts) (hl : bulk ts ≤ 1048586) :
    Calls Try.prog 71 #[.int .i64 m, .slice a ts.length cap] w fun e w' => e = .returned (.bool (VB m ts)) ∧ Below w.heap.size w w' := by
  by_cases h1 : m < 1
  · have hv : VB m ts = false := VB_no fun h => by omega
    go_enter Try.func71, Try.ntmps71
    go_wp2
    go_ret
    exact ⟨ret_bool (by first | exact hv.symm | rfl), Below.refl _ _⟩
  by_cases h2 : 10 < m
  · have hv : VB m ts = false := VB_no fun h => by omega
    go_enter Try.func71, Try.ntmps71
    go_wp2
    go_ret
    exact ⟨ret_bool (by first | exact hv.symm | rfl), Below.refl _ _⟩
  by_cases h3 : 4 < ts.length
  · have hv : VB m ts = false := VB_no fun h => by omega
    go_enter Try.func71, Try.ntmps71
    go_wp2
    go_ret
    exact ⟨ret_bool (by first | exact hv.symm | rfl), Below.refl _ _⟩
  have h1' : 1 ≤ m := by omega
  have h2' : m ≤ 10 := by omega
  have h3' : ts.length ≤ 4 := by omega
  have hall : bulkK ts ts.length = allN ts := bulkK_all ts
  have hblen := bulk_len ts
  have HALL := Lib.hid hall
  have hd4 : decide ((4 : Int) < (ts.length : Int)) = false := by simp; omega
  clear hall
  go_enter Try.func71, Try.ntmps71
  go_wp2
  go_loopw [23, 5] (fun i c wr => ∃ k : Nat, k ≤ ts.length ∧ i = .int .i64 k ∧ c = .int .i64 (bulkK ts k : Nat) ∧ Hid (FitB m ts k) ∧ Below w.heap.size w wr) (fun i _ _ => ts.length - (intOf i).toNat)
  case atStart => exact ⟨0, Nat.zero_le _, rfl, by rw [bulkK_zero]; rfl, (fun r hr => by omega), Below.refl _ _⟩
  case round =>
    obtain ⟨k, hk, rfl, rfl, hf, hb⟩ := hrel
    have hs := hb.size
    have hbk := bulkK_le hk
    obtain ⟨c, hc⟩ : ∃ c, c = bulkK ts k := ⟨_, rfl⟩
    rw [← hc] at hbk ⊢
    have HC := Lib.hid hc
    clear hc
    by_cases hlt : k < ts.length
    · obtain ⟨b, off, A, C, rfl, hbb, hc0, hrow0, hcap⟩ := hr.get hlt
      have hcw : wr.cell? ⟨b, off + k, none⟩ = some (.slice A (tr ts k).length C) := (hb.cell (by exact hbb)).trans hc0
      have hrl := bulk_row hlt
      obtain ⟨t, ht⟩ : ∃ t, t = tr ts k := ⟨_, rfl⟩
      rw [← ht] at hcw hrow0 hcap hrl
      have HT := Lib.hid ht
      have hsum : IntKind.i64.wrap ((c : Int) + (t.length : Int)) = ((c + t.length : Nat) : Int) := by rw [Int.natCast_add]; exact IntWalk.i64_in _ (by omega)
      clear ht hc0
      go_wp2
      go_loopw [33] (fun i wx => ∃ j : Nat, j ≤ t.length ∧ i = .int .i64 j ∧ Hid (FitR m t j) ∧ Below w.heap.size w wx) (fun i _ => t.length - (intOf i).toNat)
      case atStart => exact ⟨0, Nat.zero_le _, rfl, (fun r hr => by omega), hb⟩
      case round =>
        clear hcw
        obtain ⟨j, hj, rfl, hJ, hB⟩ := hrel
        by_cases hlj : j < t.length
        · obtain ⟨b', off', y, rfl, hbb', hcell, hy⟩ := hrow0.get hlj
          have hc1 : wr.cell? ⟨b', off' + j, none⟩ = some (.int .i64 y) := (hB.cell (by exact hbb')).trans hcell
          have cI := isSlotI_any m y
          by_cases hok : 0 ≤ y ∧ y < m
          · have hJ2 : Hid (FitR m t (j + 1)) := FitR.succ hJ.out (by rw [hy.out]; exact hok)
            rw [show decide (0 ≤ y ∧ y < m) = true from by simpa using hok] at cI
            have CI := Lib.hid cI
            clear cI hok hcell hy
            go_wp2_with fail
            refine (CI.out wr).mono ?_
            rintro e w2 ⟨rfl, rfl⟩
            go_wp2
            go_roundw
            case rel => exact ⟨j + 1, by omega, by go_num, hJ2, hB⟩
            case measure => simp [intOf]; omega
          · have hv : VB m ts = false := VB_bad hlt (by rw [← HT.out]; exact hlj) (by rw [← HT.out, hy.out]; exact hok)
            have HV := Lib.hid hv
            rw [show decide (0 ≤ y ∧ y < m) = false from by simpa using hok] at cI
            have CI := Lib.hid cI
            clear cI hok hcell hy hv
            go_wp2_with fail
            refine (CI.out wr).mono ?_
            rintro e w2 ⟨rfl, rfl⟩
            go_wp2
            go_ret
            exact ⟨ret_bool HV.out.symm, hB⟩
        · obtain rfl : j = t.length := by omega
          have hf2 : Hid (FitB m ts (k + 1)) := FitB.succ hf.out (by rw [← HT.out]; exact hJ.out)
          have hc2 : c + t.length = bulkK ts (k + 1) := by rw [bulkK_succ hlt, HC.out, HT.out]
          have HC2 := Lib.hid hc2
          clear hc2
          go_wp2
          go_roundw
          case rel => exact ⟨k + 1, by omega, by go_num, by rw [← HC2.out]; first | rfl | go_num | simp, hf2, hB⟩
          case measure => simp [intOf]; omega
    · obtain rfl : k = ts.length := by omega
      by_cases h8 : c ≤ 8
      · have hv : VB m ts = true := VB_iff.2 ⟨h1', h2', h3', by rw [← HALL.out, ← HC.out]; exact h8, hf.out⟩
        have HV := Lib.hid hv
        clear hv
        go_wp2
        go_ret
        exact ⟨ret_bool (by rw [HV.out]; first | rfl | (simp; omega)), hb⟩
      · have hv : VB m ts = false := VB_no fun h => by
          have := h.2.2.2.1
          rw [← HALL.out, ← HC.out] at this
          omega
        have HV := Lib.hid hv
        clear hv
        go_wp2
        go_ret
        exact ⟨ret_bool (by rw [HV.out]; first | rfl | (simp; omega)), hb⟩

end Go.Proofs.Ytapkalpmnldhpaa
