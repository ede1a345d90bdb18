/-
  ring.from, ring.ownerOf.
-/
import Derived.Deep.OwnRows
import Derived.Test.YtbldfhfciihddaaZ9
import Derived.Test.YtbldfhfciihddaaY2
namespace Go.Proofs.Ytbldfhfciihddaa
open Go.RowKit

/-- The first i servers laid. -/
def fr (n i : Nat) : List Int := (List.range n).map fun j : Nat => if j < i then (j : Int) else 0
theorem fr_len (n i : Nat) : (fr n i).length = n := by simp [fr]
theorem fr_zero (n : Nat) : fr n 0 = List.replicate n 0 := by
  apply List.ext_getElem
  · simp [fr]
  · intro i h1 h2; simp [fr]
theorem fr_all (n : Nat) : fr n n = nts (List.range n) := by
  apply List.ext_getElem
  · simp [fr, nts]
  · intro i h1 h2
    have : i < n := by simpa [fr] using h1
    simp [fr, nts, this]
theorem fr_succ {n i : Nat} (h : i < n) : (fr n i).set i (i : Int) = fr n (i + 1) := by
  apply List.ext_getElem
  · simp [fr]
  · intro j h1 h2
    rw [List.getElem_set]
    have hj : j < n := by simpa [fr] using h2
    by_cases e : i = j
    · subst e; simp [fr]
    · rw [if_neg e]
      by_cases e2 : j < i
      · have : j < i + 1 := by omega
        simp [fr, e2, this]
      · have : ¬ j < i + 1 := by omega
        simp [fr, e2, this]

set_option maxHeartbeats 4000000 in
theorem from_any (a : Option Addr) (l : List Int) (cap : Nat) (k : Int) (w : World) (hr : Reads w a l) (hv : VR l = true) (k0 : 0 ≤ k) (k1 : k ≤ 63) :
    Calls Try.prog 77 #[.slice a l.length cap, .int .i64 k] w fun e w' => ∃ v R, e = .returned v ∧ SO (st l k) l.length R l.length ∧ Own w' w.heap.size v (nts R) ∧ Below w.heap.size w w' := by
  have hl1 := (VR_iff.1 hv).1
  have hl6 := (VR_iff.1 hv).2.1
  have bA := ((Below.refl w.heap.size w).alloc (Nat.le_refl _) (.cells #[.slice a l.length cap] 59)).alloc (by simp) (.cells #[.int .i64 k] 3)
  have hmk := run_make_row' (P := Try.prog) 23 3 (.int .i64 0) 8 Try.underlying23 infoInt rfl .i64 .i64 l.length (by omega) (by omega)
  have xA := made_tabR ((w.alloc (.cells #[.slice a l.length cap] 59)).alloc (.cells #[.int .i64 k] 3)) w.heap.size l.length (by rw [World.size_alloc, World.size_alloc]; omega) (by omega)
  obtain ⟨BB, hBB⟩ : ∃ BB, BB = madeCells #[.int .i64 0] l.length := ⟨_, rfl⟩
  rw [← hBB] at hmk xA
  have bB := bA.alloc (by rw [World.size_alloc, World.size_alloc]; omega) (.cells BB 3)
  rw [← fr_zero] at xA
  simp only [World.size_alloc] at xA
  have hcp : (((w.alloc (.cells #[.slice a l.length cap] 59)).alloc (.cells #[.int .i64 k] 3)).alloc (.cells BB 3)).cell? ⟨w.heap.size, 0, none⟩ = some (.slice a l.length cap) := by
    rw [World.cell?_alloc_lt _ _ _ (by simp; omega), World.cell?_alloc_lt _ _ _ (by simp)]; simp
  have hck : (((w.alloc (.cells #[.slice a l.length cap] 59)).alloc (.cells #[.int .i64 k] 3)).alloc (.cells BB 3)).cell? ⟨w.heap.size + 1, 0, none⟩ = some (.int .i64 k) := by
    rw [World.cell?_alloc_lt _ _ _ (by simp)]
    have : w.heap.size + 1 = (w.alloc (.cells #[.slice a l.length cap] 59)).heap.size := (World.size_alloc _ _).symm
    rw [this]; simp
  obtain ⟨wm, hwm⟩ : ∃ wm, wm = (((w.alloc (.cells #[.slice a l.length cap] 59)).alloc (.cells #[.int .i64 k] 3)).alloc (.cells BB 3)) := ⟨_, rfl⟩
  rw [← hwm] at hcp hck xA bB
  have HV := Lib.hid hv
  have HBB := Lib.hid hBB
  have hrm := hr.below bB
  have hag : ∀ b off, a = some ⟨b, off, none⟩ → b ≠ w.heap.size + 1 + 1 := by
    intro b off e
    rcases hr with h | ⟨b', off', e', hb', _⟩
    · rw [h] at hl1; simp at hl1
    · rw [e] at e'; cases e'; omega
  have HAG := Lib.hid hag
  have HWM := Lib.hid hwm
  clear hBB hv bA hwm hag
  go_enter Try.func77, Try.ntmps77
  go_wp2_with fail
  rw [← HWM.out]
  go_loopw [12] (fun iv wr => ∃ i : Nat, i ≤ l.length ∧ iv = .int .i64 i ∧ Tab wr w.heap.size (w.heap.size + 1 + 1) l.length l.length (fr l.length i) ∧ KeptB (w.heap.size + 1 + 1) wm wr ∧ Below w.heap.size w wr) (fun iv _ => l.length - (intOf iv).toNat)
  case atStart => exact ⟨0, by omega, rfl, xA, KeptB.refl _ _, bB⟩
  case round =>
    clear xA bB hmk
    obtain ⟨i, hi, rfl, hT, hK, hB⟩ := hrel
    by_cases hlt : i < l.length
    · have hi1 : (i : Int) < (l.length : Int) := by omega
      obtain ⟨y, hcy, hy⟩ := hT.get (k := i) hlt
      have hfz := hT.frozen i
      have hst := hT.store i (i : Int)
      rw [fr_succ hlt] at hst
      have hB2 := hB.setCell (p := ⟨w.heap.size + 1 + 1, i, none⟩) (by show w.heap.size ≤ w.heap.size + 1 + 1; omega) (.int .i64 (i : Int))
      have hK2 := hK.trans (KeptB.store (w.heap.size + 1 + 1) i wr (.int .i64 (i : Int)))
      clear hT hB hK hy
      go_wp2
      go_roundw
      case rel => exact ⟨i + 1, by omega, by go_num, hst, hK2, hB2⟩
      case measure => simp [intOf]; omega
    · obtain rfl : i = l.length := by omega
      rw [fr_all] at hT
      have hck' := hK _ _ _ (by omega) hck
      have hcp' := hK _ _ _ (by omega) hcp
      have cS := sortFunc_any (w.heap.size + 1) w.heap.size (w.heap.size + 1 + 1) w.heap.size w.heap.size l.length l.length a l cap k wr rfl (hrm.keptB hK HAG.out) HAG.out hck' hcp' (by omega) (by omega) HV.out k0 k1 hT (by omega)
      have CS := Lib.hid cS
      clear cS hT hck hcp
      go_wp2_with fail
      refine CS.out.mono ?_
      rintro e w' ⟨rfl, R, h1, h2, h3, h4⟩
      have hB' := hB.trans h4
      have ho := h2.own
      clear h3 h4 hck' hcp'
      go_wp2
      go_ret
      exact ⟨_, R, rfl, h1, ho, hB'⟩

set_option maxHeartbeats 1000000 in
theorem ringOwner_any (a : Option Addr) (l : List Int) (cap : Nat) (k : Int) (w : World) (hr : Reads w a l) (hv : VR l = true) (k0 : 0 ≤ k) (k1 : k ≤ 63) :
    Calls Try.prog 66 #[.slice a l.length cap, .int .i64 k] w fun e w' => e = .returned (.int .i64 (own l k : Nat)) ∧ Below w.heap.size w w' := by
  have hl1 := (VR_iff.1 hv).1
  have C := Lib.hid (from_any a l cap k w hr hv k0 k1)
  have HV := Lib.hid hv
  clear hv
  go_enter Try.func66, Try.ntmps66
  go_wp2_with fail
  refine C.out.mono ?_
  rintro e w' ⟨v, R, rfl, hS, hO, hB⟩
  have hh := hS.head HV.out
  have hRl := hS.len
  obtain ⟨g, c, rfl, hT⟩ := hO.tab (by rw [nts_len]; omega)
  rw [nts_len, hRl] at hT ⊢
  obtain ⟨y, hcy, hy⟩ := hT.get (k := 0) (by omega)
  have hy' := hy.out
  rw [nts_get (by omega), hh] at hy'
  have HY := Lib.hid hy'
  have h0 : 0 < l.length := by omega
  clear hy hy' hh hT hO
  go_wp2
  go_ret
  exact ⟨ret_int HY.out.symm, hB⟩
end Go.Proofs.Ytbldfhfciihddaa
