/-
  laws.toIntS, eqIntS, markIntS, heldIntS.
-/
import Derived.Test.YtoaiaindcmihjaaDoorBase
namespace Go.Proofs.YtoaiaindcmihjaaDoor
open Go.RowKit

/-- What toIntS has copied. -/
def cop (l : List Int) (k : Nat) : List Int := l.take k ++ List.replicate (l.length - k) 0
theorem cop_len (l : List Int) (k : Nat) (h : k ≤ l.length) : (cop l k).length = l.length := by simp [cop]; omega
theorem cop_zero (l : List Int) : cop l 0 = List.replicate l.length 0 := by simp [cop]
theorem cop_all (l : List Int) : cop l l.length = l := by simp [cop]
theorem cop_succ (l : List Int) (k : Nat) (h : k < l.length) : (cop l k).set k (l.getD k 0) = cop l (k + 1) := by
  apply List.ext_getElem?
  intro i
  have e : (l.take k).length = k := by simp; omega
  by_cases h1 : i < k
  · rw [List.getElem?_set_ne (by omega)]
    simp [cop, List.getElem?_append, e, h1, show i < k + 1 by omega, Nat.min_eq_left (show k + 1 ≤ l.length by omega)]
  by_cases h2 : i = k
  · subst h2
    rw [List.getElem?_set_self (by rw [cop_len _ _ (by omega)]; exact h)]
    simp [cop, List.getElem?_append, h, Nat.min_eq_left (show i + 1 ≤ l.length by omega)]
  · rw [List.getElem?_set_ne (by omega)]
    simp only [cop, List.getElem?_append, List.length_take, Nat.min_eq_left (show k + 1 ≤ l.length by omega), Nat.min_eq_left (show k ≤ l.length by omega)]
    rw [if_neg (by omega), if_neg (by omega)]
    simp only [List.getElem?_replicate]
    by_cases h3 : i < l.length
    · rw [if_pos (by omega), if_pos (by omega)]
    · rw [if_neg (by omega), if_neg (by omega)]

set_option maxHeartbeats 400000 in
theorem toIntS_any (a : Option Addr) (l : List Int) (cap : Nat) (w : World) (hr : Reads w a l) (hl : l.length ≤ 1048586) :
    Calls Tryd.prog 5 #[.slice a l.length cap] w fun e w' => e = .returned (.slice (some ⟨w.heap.size, 0, none⟩) l.length l.length) ∧ Own w' w.heap.size (.slice (some ⟨w.heap.size, 0, none⟩) l.length l.length) l ∧ Below w.heap.size w w' ∧ w.heap.size < w'.heap.size := by
  obtain ⟨i0, hi, hz0, hz1, hz2⟩ := info_parts infoInt
  go_enter Tryd.func5, Tryd.ntmps5
  go_wp2_with (refine wpList_make_full _ rfl _ _ 22 rfl w.heap.size 3 i0 (.int .i64 0) 1 Tryd.underlying22 hi hz0 hz1 .i64 .i64 _ _ l.length rfl rfl rfl rfl ?c1 ?c2 ?c3 ?_)
  case c1 => rw [hz2]; omega
  case c2 => unfold maxLen; omega
  case c3 => exact Nat.le_refl _
  intro w1 hown hgrow
  have hb1 : Below w.heap.size w w1 := (Below.refl _ _).grown hgrow (Nat.le_refl _) (fun k h => by cases h)
  have hown1 : w1.ownsRow w.heap.size 3 1 (.slice (some ⟨w.heap.size, 0, none⟩) l.length l.length) l.length ((cop l 0).map (Value.int .i64)) := by
    rw [cop_zero, List.map_replicate, ← toList_madeCells_one]; exact hown
  clear hown hgrow hi hz0 hz1 hz2
  go_wp2
  go_loopw [4] (fun i wr => ∃ k : Nat, k ≤ l.length ∧ i = .int .i64 k ∧ wr.ownsRow w.heap.size 3 1 (.slice (some ⟨w.heap.size, 0, none⟩) l.length l.length) l.length ((cop l k).map (Value.int .i64)) ∧ Below w.heap.size w wr) (fun i _ => l.length - (intOf i).toNat)
  case atStart => exact ⟨0, Nat.zero_le _, rfl, hown1, hb1⟩
  case round =>
    clear hown1 hb1
    obtain ⟨k, hk, rfl, hown, hb⟩ := hrel
    have hsz := (hown.lt w.heap.size rfl).2
    by_cases hlt : k < l.length
    · obtain ⟨b, off, x, rfl, hbb, hcell, hx⟩ := hr.get hlt
      have hc1 : wr.cell? ⟨b, off + k, none⟩ = some (.int .i64 x) := (hb.cell (by exact hbb)).trans hcell
      have hc2 : wr.cell? ⟨w.heap.size, k, none⟩ = some (.int .i64 ((cop l k).getD k 0)) := by
        rw [hown.cellAt k (by omega)]; exact getD_map (by rw [cop_len _ _ hk]; exact hlt)
      have hf2 := hown.frozenAt k
      obtain ⟨y, hy⟩ : ∃ y, (cop l k).getD k 0 = y := ⟨_, rfl⟩
      rw [hy] at hc2
      clear hy
      have hst := hown.stored k (.int .i64 x)
      obtain ⟨hst1, hst2⟩ := hst
      have hb2 := hb.setCell (p := ⟨w.heap.size, k, none⟩) (Nat.le_refl _) (.int .i64 x)
      have hst3 : (wr.setCell ⟨w.heap.size, k, none⟩ (.int .i64 x)).ownsRow w.heap.size 3 1 (.slice (some ⟨w.heap.size, 0, none⟩) l.length l.length) l.length ((cop l (k + 1)).map (Value.int .i64)) := by
        rw [← cop_succ _ _ hlt, List.map_set, hx.out]; exact hst1
      clear hst1 hst2
      go_wp2
      go_roundw
      case rel => exact ⟨k + 1, by omega, by go_num, hst3, hb2⟩
      case measure => simp [intOf]; omega
    · obtain rfl : k = l.length := by omega
      rw [cop_all] at hown
      go_wp2
      go_ret
      exact ⟨rfl, hown, hb, hsz⟩
/-- The lists are equal. -/
def eqL (l l' : List Int) : Bool := decide (l = l')
theorem eqL_self (l : List Int) : eqL l l = true := by simp [eqL]
theorem eqL_len {l l' : List Int} (h : ¬ l.length = l'.length) : eqL l l' = false := by
  simp only [eqL, decide_eq_false_iff_not]; intro e; exact h (by rw [e])
theorem eqL_ne {l l' : List Int} {k : Nat} (h : l.getD k 0 ≠ l'.getD k 0) : eqL l l' = false := by
  simp only [eqL, decide_eq_false_iff_not]; intro e; exact h (by rw [e])
theorem eqL_all {l l' : List Int} (hl : l.length = l'.length) (h : ∀ i, i < l.length → l.getD i 0 = l'.getD i 0) : eqL l l' = true := by
  simp only [eqL, decide_eq_true_eq]
  refine List.ext_getElem hl fun i h1 h2 => ?_
  have := h i h1
  simpa [List.getD, h1, h2] using this
set_option maxHeartbeats 400000 in
theorem eqIntS_any (a a' : Option Addr) (l l' : List Int) (cap cap' : Nat) (w : World) (hr : Reads w a l) (hr' : Reads w a' l') (hl : l.length ≤ 1048586) (hl' : l'.length ≤ 1048586) :
    Calls Tryd.prog 7 #[.slice a l.length cap, .slice a' l'.length cap'] w fun e w' => e = .returned (.bool (eqL l l')) ∧ ∃ n, w' = w.drewN n := by
  by_cases hne : l.length = l'.length
  · have hlen : ((l.length : Int) != (l'.length : Int)) = false := by simp [hne]
    have hne' : l'.length = l.length := hne.symm
    have H := Lib.hid hne
    clear hne
    go_enter Tryd.func7, Tryd.ntmps7
    go_wp2
    go_loopw [5] (fun i wr => ∃ k : Nat, k ≤ l.length ∧ i = .int .i64 k ∧ (∀ i, i < k → l.getD i 0 = l'.getD i 0) ∧ ∃ n, wr = w.drewN n) (fun i _ => l.length - (intOf i).toNat)
    case atStart => exact ⟨0, Nat.zero_le _, rfl, fun i hi => by omega, 0, rfl⟩
    case round =>
      obtain ⟨k, hk, rfl, hf, n, rfl⟩ := hrel
      have HF := Lib.hid hf
      clear hf
      by_cases hlt : k < l.length
      · obtain ⟨b, off, x, rfl, hbb, hcell, hx⟩ := hr.get hlt
        obtain ⟨b', off', x', rfl, hbb', hcell', hx'⟩ := hr'.get (k := k) (by omega)
        by_cases hxx : x = x'
        · have hd : (x != x') = false := by simp [hxx]
          have HX := Lib.hid hxx
          clear hxx
          go_wp2
          go_quiet (fail)
          go_wp2
          go_roundw
          case rel => exact ⟨k + 1, by omega, by go_num, below_all HF.out (by rw [hx.out, hx'.out, HX.out]), _, rfl⟩
          case measure => simp [intOf]; omega
        · have hd : (x != x') = true := by simp [hxx]
          go_wp2
          go_quiet (fail)
          go_wp2
          go_ret
          exact ⟨ret_bool (eqL_ne (by rw [hx.out, hx'.out]; exact hxx)).symm, _, by rw [World.drewN_drewN]⟩
      · obtain rfl : k = l.length := by omega
        go_wp2
        go_ret
        exact ⟨ret_bool (eqL_all H.out HF.out).symm, _, rfl⟩
  · have hlen : ((l.length : Int) != (l'.length : Int)) = true := by simp; omega
    go_enter Tryd.func7, Tryd.ntmps7
    go_wp2
    go_ret
    exact ⟨ret_bool (eqL_len hne).symm, 0, rfl⟩
/-- What markIntS writes. -/
def marks (k : Int) (n : Nat) : List Int := (List.range n).map fun i : Nat => k + i
theorem marks_len (k : Int) (n : Nat) : (marks k n).length = n := by simp [marks]
theorem marks_get (k : Int) (n i : Nat) (h : i < n) : (marks k n).getD i 0 = k + i := by simp [marks, List.getD, h]
/-- What markIntS has written so far. -/
def mk (k : Int) (l : List Int) (j : Nat) : List Int := marks k j ++ l.drop j
theorem mk_len (k : Int) (l : List Int) (j : Nat) (h : j ≤ l.length) : (mk k l j).length = l.length := by simp [mk, marks_len]; omega
theorem mk_zero (k : Int) (l : List Int) : mk k l 0 = l := by simp [mk, marks]
theorem mk_all (k : Int) (l : List Int) : mk k l l.length = marks k l.length := by simp [mk]
theorem mk_succ (k : Int) (l : List Int) (j : Nat) (h : j < l.length) : (mk k l j).set j (k + j) = mk k l (j + 1) := by
  have e : marks k (j + 1) = marks k j ++ [k + j] := by simp [marks, List.range_succ]
  have e2 : l.drop j = l[j] :: l.drop (j + 1) := by rw [List.drop_eq_getElem_cons h]
  unfold mk
  rw [e, e2, List.set_append_right _ _ (by rw [marks_len]; exact Nat.le_refl _), marks_len, Nat.sub_self, List.set_cons_zero, List.append_assoc]
  rfl

end Go.Proofs.YtoaiaindcmihjaaDoor
