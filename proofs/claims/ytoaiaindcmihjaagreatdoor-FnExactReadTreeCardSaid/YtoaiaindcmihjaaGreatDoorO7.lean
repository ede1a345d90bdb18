/-
  impl.validNames (an array of 64 truth values).
-/
import Derived.Test.YtoaiaindcmihjaaGreatDoorO6
namespace Go.Proofs.YtoaiaindcmihjaaGreatDoor
open Go.RowKit

theorem barr_zero64 : ((List.replicate 64 false).map Value.bool).toArray = #[.bool false, .bool false, .bool false, .bool false, .bool false, .bool false, .bool false, .bool false, .bool false, .bool false, .bool false, .bool false, .bool false, .bool false, .bool false, .bool false, .bool false, .bool false, .bool false, .bool false, .bool false, .bool false, .bool false, .bool false, .bool false, .bool false, .bool false, .bool false, .bool false, .bool false, .bool false, .bool false, .bool false, .bool false, .bool false, .bool false, .bool false, .bool false, .bool false, .bool false, .bool false, .bool false, .bool false, .bool false, .bool false, .bool false, .bool false, .bool false, .bool false, .bool false, .bool false, .bool false, .bool false, .bool false, .bool false, .bool false, .bool false, .bool false, .bool false, .bool false, .bool false, .bool false, .bool false, .bool false] := rfl
/-- Which names have been seen. -/
def skN (l : List Int) (k : Nat) : List Bool := (List.range 64).map fun s : Nat => decide ((s : Int) ∈ l.take k)
theorem skN_len (l : List Int) (k : Nat) : (skN l k).length = 64 := by simp [skN]
theorem skN_zero (l : List Int) : skN l 0 = List.replicate 64 false := by simp [skN]; decide
theorem skN_get (l : List Int) (k : Nat) {s : Nat} (h : s < 64) : (skN l k).getD s false = decide ((s : Int) ∈ l.take k) := by simp [skN, List.getD, h]
theorem skN_succ {l : List Int} {k X : Nat} (hk : k < l.length) (hX : l.getD k 0 = X) (h31 : X < 64) : (skN l k).set X true = skN l (k + 1) := by
  refine List.ext_getElem (by simp [skN]) fun i h1 h2 => ?_
  have hi : i < 64 := by simpa [skN] using h2
  rw [List.getElem_set]
  simp only [skN, List.getElem_map, List.getElem_range, take_snocN hk, hX]
  by_cases e : X = i
  · subst e; simp
  · have : ¬ (i : Int) = (X : Int) := by omega
    simp [e, this]
set_option maxHeartbeats 4000000 in
theorem implvalidNames_any (a : Option Addr) (l : List Int) (cap : Nat) (w : World) (hr : Reads w a l) (hl : l.length ≤ 1048586) :
    Calls Tryz.prog 30 #[.slice a l.length cap] w fun e w' => e = .returned (.bool (VNm l)) ∧ Below w.heap.size w w' := by
  by_cases h8 : 12 < l.length
  · have hv : VNm l = false := by rw [← Bool.not_eq_true, VNm_iff]; omega
    go_enter Tryz.func30, Tryz.ntmps30
    go_wp2
    go_ret
    exact ⟨ret_bool (by first | exact hv.symm | rfl), Below.refl _ _⟩
  · have h0 : BArr (w.alloc (.cells ((List.replicate 64 false).map Value.bool).toArray 75)) 75 w.heap.size (List.replicate 64 false) := BArr.new w _ _
    rw [barr_zero64, ← skN_zero l] at h0
    have B0 := (Below.refl w.heap.size w).alloc (Nat.le_refl _) (.cells ((List.replicate 64 false).map Value.bool).toArray 75)
    rw [barr_zero64] at B0
    go_enter Tryz.func30, Tryz.ntmps30
    go_wp2
    go_loopw [11] (fun i wr => ∃ k : Nat, k ≤ l.length ∧ i = .int .i64 k ∧ Hid (VNp l k) ∧ BArr wr 75 w.heap.size (skN l k) ∧ Below w.heap.size w wr) (fun i _ => l.length - (intOf i).toNat)
    case atStart => exact ⟨0, Nat.zero_le _, rfl, fun j hj => by omega, h0, B0⟩
    case round =>
      clear h0 B0
      obtain ⟨k, hk, rfl, hf, hS, hB⟩ := hrel
      by_cases hlt : k < l.length
      · obtain ⟨b, off, y, rfl, hbb, hcell, hy⟩ := hr.get hlt
        have hc1 : wr.cell? ⟨b, off + k, none⟩ = some (.int .i64 y) := (hB.cell (by exact hbb)).trans hcell
        have hk1 : (k : Int) < (l.length : Int) := by omega
        have ci := fun wx => isName_any y wx
        by_cases g1 : 0 ≤ y ∧ y ≤ 63
        · obtain ⟨y0, y1⟩ := g1
          rw [decide_eq_true (show 0 ≤ y ∧ y ≤ 63 from ⟨y0, y1⟩)] at ci
          obtain ⟨Y, rfl⟩ := Int.eq_ofNat_of_zero_le y0
          obtain ⟨s, hcs, hs⟩ := hS.get (k := Y) (by rw [skN_len]; omega)
          have hs2 := hs.out
          rw [skN_get _ _ (by omega)] at hs2
          have hfz := hS.frozen Y
          have D := Lib.hid ci
          clear ci
          by_cases g2 : (Y : Int) ∈ l.take k
          · have : s = true := by rw [← hs2]; exact decide_eq_true g2
            subst this
            have HB := Lib.hid (VNm_bad2 hlt (by rw [hy.out]; exact g2))
            clear g2 hs2
            go_wp2_with (first | (go_at_call 52; refine (D.out _).mono ?_; rintro e w' ⟨rfl, rfl⟩))
            go_ret
            exact ⟨ret_bool HB.out.symm, hB⟩
          · have : s = false := by rw [← hs2]; exact decide_eq_false g2
            subst this
            have HB := Lib.hid (hf.out.succ (by rw [hy.out]; omega) (by rw [hy.out]; exact g2))
            have hst := hS.store Y true
            rw [skN_succ hlt hy.out (by omega)] at hst
            have hB2 := hB.setCell (p := ⟨w.heap.size, Y, none⟩) (Nat.le_refl _) (.bool true)
            clear g2 hs2
            go_wp2_with (first | (go_at_call 52; refine (D.out _).mono ?_; rintro e w' ⟨rfl, rfl⟩))
            go_roundw
            case rel => exact ⟨k + 1, by omega, by go_num, HB, hst, hB2⟩
            case measure => simp [intOf]; omega
        · rw [decide_eq_false g1] at ci
          have D := Lib.hid ci
          clear ci
          have HB := Lib.hid (VNm_bad1 hlt (by rw [hy.out]; exact g1))
          go_wp2_with (first | (go_at_call 52; refine (D.out _).mono ?_; rintro e w' ⟨rfl, rfl⟩))
          go_ret
          exact ⟨ret_bool HB.out.symm, hB⟩
      · obtain rfl : k = l.length := by omega
        have HB := Lib.hid (VNm_end hf.out)
        go_wp2
        go_ret
        exact ⟨ret_bool (by rw [HB.out]; simp; omega), hB⟩
end Go.Proofs.YtoaiaindcmihjaaGreatDoor
