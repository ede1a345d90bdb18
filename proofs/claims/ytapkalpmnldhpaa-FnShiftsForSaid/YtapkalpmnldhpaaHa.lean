/-
  impl.isSlot, takeSlots.
-/
import Derived.Test.YtapkalpmnldhpaaBA
import Derived.Test.YtapkalpmnldhpaaC4
import Derived.Test.YtapkalpmnldhpaaW1
import Derived.Deep.DeepCutAuto
import Derived.Deep.LoopGhost
namespace Go.Proofs.Ytapkalpmnldhpaa
open Go.RowKit

theorem und_b10 : Try.prog.underlying 73 = some (.array 10 4) := by kernel_rfl
theorem inf_b10 : (Try.prog.info? 73).map (·.size) = some 10 := by kernel_rfl

set_option maxHeartbeats 400000 in
theorem isSlotI_any (m n : Int) (w : World) : Calls Try.prog 82 #[.int .i64 m, .int .i64 n] w fun e w' => e = .returned (.bool (decide (0 ≤ n ∧ n < m))) ∧ w = w' := by
  by_cases h1 : 0 ≤ n
  · by_cases h2 : n < m
    · go_enter Try.func82, Try.ntmps82
      go_wp2
      go_ret
      exact ⟨ret_bool (by first | (simp; done) | (simp; omega)), rfl⟩
    · have hv : decide (0 ≤ n ∧ n < m) = false := by simp; omega
      go_enter Try.func82, Try.ntmps82
      go_wp2
      go_ret
      exact ⟨ret_bool (by first | (simp; done) | (simp; omega)), rfl⟩
  · have hv : decide (0 ≤ n ∧ n < m) = false := by simp; omega
    go_enter Try.func82, Try.ntmps82
    go_wp2
    go_ret
    exact ⟨ret_bool (by first | (simp; done) | (simp; omega)), rfl⟩

set_option maxHeartbeats 4000000 in
theorem takeSlots_any (M s : Nat) (al : Option Addr) (l : List Int) (cap : Nat) (T : List Bool) (w : World) (h1 : 1 ≤ M) (h2 : M ≤ 10) (hs : s < M) (hr : Reads w al l) (hl : l.length ≤ 100) (hf : ∀ i, i < l.length → 0 ≤ l.getD i 0 ∧ l.getD i 0 < M) (hT : T.length = 10) :
    Calls Try.prog 83 #[.int .i64 M, .slice al l.length cap, .int .i64 s, .agg (barr T)] w fun e w' => ∃ (T' : List Bool) (ok : Bool), e = .returned (.tuple #[.agg (barr T'), .bool ok]) ∧ T'.length = 10 ∧ ((ok = true ∧ tryS M s l T = some T') ∨ (ok = false ∧ tryS M s l T = none)) ∧ Below w.heap.size w w' := by
  have x0 : BArr (w.alloc (.cells (barr T) 73)) 73 w.heap.size T := BArr.new w _ _
  have b0 := (Below.refl w.heap.size w).alloc (Nat.le_refl _) (.cells (barr T) 73)
  have x1 : BArr ((w.alloc (.cells (barr T) 73)).alloc (.cells (barr (List.replicate 10 false)) 73)) 73 (w.heap.size + 1) (List.replicate 10 false) := by
    have := BArr.new (w.alloc (.cells (barr T) 73)) 73 (List.replicate 10 false)
    rw [World.size_alloc] at this
    exact this
  have x0' := x0.alloc (.cells (barr (List.replicate 10 false)) 73)
  have b1 := b0.alloc (by simp) (.cells (barr (List.replicate 10 false)) 73)
  obtain ⟨w1, e1⟩ : ∃ w1, w1 = (w.alloc (.cells (barr T) 73)).alloc (.cells (barr (List.replicate 10 false)) 73) := ⟨_, rfl⟩
  rw [← e1] at x0' x1 b1
  have E1 : Hid (w1 = (w.alloc (.cells (barr T) 73)).alloc (.cells #[.bool false, .bool false, .bool false, .bool false, .bool false, .bool false, .bool false, .bool false, .bool false, .bool false] 73)) := by show w1 = _; rw [e1, barr_zero10]
  have HF := Lib.hid hf
  have HT := Lib.hid hT
  clear e1 x0 b0 hf hT
  go_enter Try.func83, Try.ntmps83
  go_wp2_with fail
  rw [← E1.out]
  go_loopw [15] (fun i wr => ∃ k : Nat, k ≤ l.length ∧ i = .int .i64 k ∧ Hid (fits M s l T k) ∧ BArr wr 73 w.heap.size (tkS M s l T k) ∧ BArr wr 73 (w.heap.size + 1) (List.replicate 10 false) ∧ Below w.heap.size w wr) (fun i _ => l.length - (intOf i).toNat)
  case atStart => exact ⟨0, Nat.zero_le _, rfl, fun i hi => by omega, x0', x1, b1⟩
  case round =>
    clear x0' x1 b1 E1
    obtain ⟨k, hk, rfl, hfit, hX, hR, hB⟩ := hrel
    have htl : (tkS M s l T k).length = 10 := by rw [tkS_len]; exact HT.out
    have HTL := Lib.hid htl
    clear htl
    by_cases hlt : k < l.length
    · obtain ⟨bb, off, y, rfl, hbb, hcell, hy⟩ := hr.get hlt
      have hc1 : wr.cell? ⟨bb, off + k, none⟩ = some (.int .i64 y) := (hB.cell (by exact hbb)).trans hcell
      have hyf := HF.out k hlt
      rw [hy.out] at hyf
      have hk1 : (k : Int) < (l.length : Int) := by omega
      obtain ⟨p, hp⟩ : ∃ p, p = pos M s y := ⟨_, rfl⟩
      have hpM : p < M := by rw [hp]; exact pos_lt (by omega)
      have hpc : (y + (s : Int)) % (M : Int) = (p : Int) := by rw [hp, pos_cast (by omega)]
      have hpc2 : (y + (s : Int)).tmod (M : Int) = (p : Int) := by rw [Int.tmod_eq_emod_of_nonneg (by omega)]; exact hpc
      have hne : ((M : Int) == 0) = false := by simp; omega
      obtain ⟨q, hcq, hq⟩ := hX.get (k := p) (by rw [HTL.out]; omega)
      have hfz := hX.frozen p
      have HP : Hid (pos M s (l.getD k 0) = p) := by show pos M s (l.getD k 0) = p; rw [hy.out, hp]
      clear hp hcell hy
      cases q with
      | true =>
        have htry := tryS_no (m := M) (s := s) (T := T) hlt (by rw [HP.out]; exact hq.out)
        have HTRY := Lib.hid htry
        clear htry
        go_wp2_with (first | (refine load_barr rfl _ _ rfl _ rfl _ _ _ _ hX und_b10 inf_b10 HTL.out ?_) | (refine store_barr rfl _ _ _ rfl _ rfl _ _ rfl _ _ hR inf_b10 HTL.out rfl ?_))
        intro w4 h4 hg4
        have hB4 := hB.grown hg4 hB.size (fun q hq => by cases hq; exact Nat.le_succ _)
        go_wp2
        exact ret_barr2 rfl rfl _ rfl _ _ 10 _ h4 und_b10 inf_b10 HTL.out _ rfl ⟨_, false, rfl, HTL.out, .inr ⟨rfl, HTRY.out⟩, hB4⟩
      | false =>
        have hfit2 := fits_succ hfit.out (by rw [HP.out]; exact hq.out)
        have HFIT := Lib.hid hfit2
        have hst := hX.store p true
        have hst2 : BArr (wr.setCell ⟨w.heap.size, p, none⟩ (.bool true)) 73 w.heap.size (tkS M s l T (k + 1)) := by rw [tkS, HP.out]; exact hst
        have hR2 := hR.other (g' := w.heap.size) (by omega) p (.bool true)
        have hB2 := hB.setCell (p := ⟨w.heap.size, p, none⟩) (Nat.le_refl _) (.bool true)
        clear hfit2 hst hX hR hB
        go_wp2
        go_roundw
        case rel => exact ⟨k + 1, by omega, by go_num, HFIT, hst2, hR2, hB2⟩
        case measure => simp [intOf]; omega
    · obtain rfl : k = l.length := by omega
      have htry := tryS_yes hfit.out
      have HTRY := Lib.hid htry
      clear htry
      go_wp2_with (first | (refine load_barr rfl _ _ rfl _ rfl _ _ _ _ hX und_b10 inf_b10 HTL.out ?_) | (refine store_barr rfl _ _ _ rfl _ rfl _ _ rfl _ _ hR inf_b10 HTL.out rfl ?_))
      intro w4 h4 hg4
      have hB4 := hB.grown hg4 hB.size (fun q hq => by cases hq; exact Nat.le_succ _)
      go_wp2
      exact ret_barr2 rfl rfl _ rfl _ _ 10 _ h4 und_b10 inf_b10 HTL.out _ rfl ⟨_, true, rfl, HTL.out, .inl ⟨rfl, HTRY.out⟩, hB4⟩
end Go.Proofs.Ytapkalpmnldhpaa
