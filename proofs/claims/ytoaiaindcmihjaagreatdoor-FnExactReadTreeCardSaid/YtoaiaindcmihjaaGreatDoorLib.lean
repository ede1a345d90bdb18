/-
  laws.toIntS, eqIntS, markIntS, heldIntS.
-/
import Derived.Test.YtoaiaindcmihjaaGreatDoorBase
namespace Go.Proofs.YtoaiaindcmihjaaGreatDoor
open Go.RowKit

/-- What toIntS has copied. -/
def cop (l : List Int) (k : Nat) : List Int := l.take k ++ List.replicate (l.length - k) 0
theorem cop_len (l : List Int) (k : Nat) (h : k ≤ l.length) : (cop l k).length = l.length := by simp [cop]; omega
theorem cop_zero (l : List Int) : cop l 0 = List.replicate l.length 0 := by simp [cop]
theorem cop_all (l : List Int) : cop l l.length = l := by simp [cop]
theorem cop_succ (l : List Int) (k : Nat) (h : k < l.length) : (cop l k).set k (l.getD k 0) = cop l (k + 1) := by
  apply List.ext_getElem?
  intro i
  have e : (l.take k).length = k := by simp; omega
  by_cases h1 : i < k
  · rw [List.getElem?_set_ne (by omega)]
    simp [cop, List.getElem?_append, e, h1, show i < k + 1 by omega, Nat.min_eq_left (show k + 1 ≤ l.length by omega)]
  by_cases h2 : i = k
  · subst h2
    rw [List.getElem?_set_self (by rw [cop_len _ _ (by omega)]; exact h)]
    simp [cop, List.getElem?_append, h, Nat.min_eq_left (show i + 1 ≤ l.length by omega)]
  · rw [List.getElem?_set_ne (by omega)]
    simp only [cop, List.getElem?_append, List.length_take, Nat.min_eq_left (show k + 1 ≤ l.length by omega), Nat.min_eq_left (show k ≤ l.length by omega)]
    rw [if_neg (by omega), if_neg (by omega)]
    simp only [List.getElem?_replicate]
    by_cases h3 : i < l.length
    · rw [if_pos (by omega), if_pos (by omega)]
    · rw [if_neg (by omega), if_neg (by omega)]

/-- The lists are equal. -/
def eqL (l l' : List Int) : Bool := decide (l = l')
theorem eqL_self (l : List Int) : eqL l l = true := by simp [eqL]
theorem eqL_len {l l' : List Int} (h : ¬ l.length = l'.length) : eqL l l' = false := by
  simp only [eqL, decide_eq_false_iff_not]; intro e; exact h (by rw [e])
theorem eqL_ne {l l' : List Int} {k : Nat} (h : l.getD k 0 ≠ l'.getD k 0) : eqL l l' = false := by
  simp only [eqL, decide_eq_false_iff_not]; intro e; exact h (by rw [e])
theorem eqL_all {l l' : List Int} (hl : l.length = l'.length) (h : ∀ i, i < l.length → l.getD i 0 = l'.getD i 0) : eqL l l' = true := by
  simp only [eqL, decide_eq_true_eq]
  refine List.ext_getElem hl fun i h1 h2 => ?_
  have := h i h1
  simpa [List.getD, h1, h2] using this
set_option maxHeartbeats 400000 in
theorem eqIntS_any (a a' : Option Addr) (l l' : List Int) (cap cap' : Nat) (w : World) (hr : Reads w a l) (hr' : Reads w a' l') (hl : l.length ≤ 1048586) (hl' : l'.length ≤ 1048586) :
    Calls Tryz.prog 22 #[.slice a l.length cap, .slice a' l'.length cap'] w fun e w' => e = .returned (.bool (eqL l l')) ∧ ∃ n, w' = w.drewN n := by
  by_cases hne : l.length = l'.length
  · have hlen : ((l.length : Int) != (l'.length : Int)) = false := by simp [hne]
    have hne' : l'.length = l.length := hne.symm
    have H := Lib.hid hne
    clear hne
    go_enter Tryz.func22, Tryz.ntmps22
    go_wp2
    go_loopw [5] (fun i wr => ∃ k : Nat, k ≤ l.length ∧ i = .int .i64 k ∧ (∀ i, i < k → l.getD i 0 = l'.getD i 0) ∧ ∃ n, wr = w.drewN n) (fun i _ => l.length - (intOf i).toNat)
    case atStart => exact ⟨0, Nat.zero_le _, rfl, fun i hi => by omega, 0, rfl⟩
    case round =>
      obtain ⟨k, hk, rfl, hf, n, rfl⟩ := hrel
      have HF := Lib.hid hf
      clear hf
      by_cases hlt : k < l.length
      · obtain ⟨b, off, x, rfl, hbb, hcell, hx⟩ := hr.get hlt
        obtain ⟨b', off', x', rfl, hbb', hcell', hx'⟩ := hr'.get (k := k) (by omega)
        by_cases hxx : x = x'
        · have hd : (x != x') = false := by simp [hxx]
          have HX := Lib.hid hxx
          clear hxx
          go_wp2
          go_quiet (fail)
          go_wp2
          go_roundw
          case rel => exact ⟨k + 1, by omega, by go_num, below_all HF.out (by rw [hx.out, hx'.out, HX.out]), _, rfl⟩
          case measure => simp [intOf]; omega
        · have hd : (x != x') = true := by simp [hxx]
          go_wp2
          go_quiet (fail)
          go_wp2
          go_ret
          exact ⟨ret_bool (eqL_ne (by rw [hx.out, hx'.out]; exact hxx)).symm, _, by rw [World.drewN_drewN]⟩
      · obtain rfl : k = l.length := by omega
        go_wp2
        go_ret
        exact ⟨ret_bool (eqL_all H.out HF.out).symm, _, rfl⟩
  · have hlen : ((l.length : Int) != (l'.length : Int)) = true := by simp; omega
    go_enter Tryz.func22, Tryz.ntmps22
    go_wp2
    go_ret
    exact ⟨ret_bool (eqL_len hne).symm, 0, rfl⟩
/-- What markIntS writes. -/
def marks (k : Int) (n : Nat) : List Int := (List.range n).map fun i : Nat => k + i
theorem marks_len (k : Int) (n : Nat) : (marks k n).length = n := by simp [marks]
theorem marks_get (k : Int) (n i : Nat) (h : i < n) : (marks k n).getD i 0 = k + i := by simp [marks, List.getD, h]
/-- What markIntS has written so far. -/
def mk (k : Int) (l : List Int) (j : Nat) : List Int := marks k j ++ l.drop j
theorem mk_len (k : Int) (l : List Int) (j : Nat) (h : j ≤ l.length) : (mk k l j).length = l.length := by simp [mk, marks_len]; omega
theorem mk_zero (k : Int) (l : List Int) : mk k l 0 = l := by simp [mk, marks]
theorem mk_all (k : Int) (l : List Int) : mk k l l.length = marks k l.length := by simp [mk]
theorem mk_succ (k : Int) (l : List Int) (j : Nat) (h : j < l.length) : (mk k l j).set j (k + j) = mk k l (j + 1) := by
  have e : marks k (j + 1) = marks k j ++ [k + j] := by simp [marks, List.range_succ]
  have e2 : l.drop j = l[j] :: l.drop (j + 1) := by rw [List.drop_eq_getElem_cons h]
  unfold mk
  rw [e, e2, List.set_append_right _ _ (by rw [marks_len]; exact Nat.le_refl _), marks_len, Nat.sub_self, List.set_cons_zero, List.append_assoc]
  rfl

set_option maxHeartbeats 400000 in
theorem markIntS_any (v : Value) (l : List Int) (k : Int) (base : Nat) (w : World) (hown : Own w base v l) (hl : l.length ≤ 1048586) (hk0 : 0 ≤ k) (hk1 : k ≤ 20000000) :
    Calls Tryz.prog 23 #[v, .int .i64 k] w fun e w' => e = .returned (.int .i64 (k + l.length)) ∧ Own w' base v (marks k l.length) ∧ w.grownBy w' v.ownBlock := by
  rcases hown.2 with ⟨rfl, h0⟩ | ⟨g, cap, cur, rfl, hb, hg, hn, hm, hs, ht⟩
  · obtain rfl := List.eq_nil_of_length_eq_zero h0
    go_enter Tryz.func23, Tryz.ntmps23
    go_wp2
    refine wp_loop_rounds 1 ?_
    rw [rounds_succ]
    go_wp2
    go_ret
    exact ⟨ret_int (by simp), Own.nil _ _, World.grownBy.refl _ _⟩
  · clear hg hs ht hb
    go_enter Tryz.func23, Tryz.ntmps23
    go_wp2
    go_loopw [1, 5] (fun kk i wr => ∃ j : Nat, j ≤ l.length ∧ i = .int .i64 j ∧ kk = .int .i64 (k + j) ∧ wr.ownsRow base 3 1 (.slice (some ⟨g, 0, none⟩) l.length cap) l.length ((mk k l j).map (Value.int .i64)) ∧ w.grownBy wr (some g)) (fun _ i _ => l.length - (intOf i).toNat)
    case atStart => exact ⟨0, Nat.zero_le _, rfl, by simp, by rw [mk_zero]; exact hown, World.grownBy.refl _ _⟩
    case round =>
      obtain ⟨j, hj, rfl, rfl, ho, hgr⟩ := hrel
      by_cases hlt : j < l.length
      · obtain ⟨y, hy⟩ : ∃ y, (mk k l j).getD j 0 = y := ⟨_, rfl⟩
        have hc2 : wr.cell? ⟨g, j, none⟩ = some (.int .i64 y) := by
          rw [ho.cellAt j (by omega), ← hy]; exact getD_map (by rw [mk_len _ _ _ hj]; exact hlt)
        have hf2 := ho.frozenAt j
        clear hy
        have hst := ho.stored j (.int .i64 (k + j))
        obtain ⟨hst1, hst2⟩ := hst
        have hst3 : (wr.setCell ⟨g, j, none⟩ (.int .i64 (k + j))).ownsRow base 3 1 (.slice (some ⟨g, 0, none⟩) l.length cap) l.length ((mk k l (j + 1)).map (Value.int .i64)) := by
          rw [← mk_succ _ _ _ hlt, List.map_set]; exact hst1
        have hg3 : w.grownBy (wr.setCell ⟨g, j, none⟩ (.int .i64 (k + j))) (some g) :=
          ⟨hst2.os.trans hgr.os, hst2.tape.trans hgr.tape, hst2.output.trans hgr.output, Nat.le_trans hgr.size hst2.size, fun q hq hne => (hst2.block q (Nat.lt_of_lt_of_le hq hgr.size) hne).trans (hgr.block q hq hne)⟩
        clear hst1 hst2
        have hk2 : k + (j : Int) ≤ 90000000 := by omega
        go_wp2
        go_roundw
        case rel => exact ⟨j + 1, by omega, by go_num, by go_num, hst3, hg3⟩
        case measure => simp [intOf]; omega
      · obtain rfl : j = l.length := by omega
        rw [mk_all] at ho
        go_wp2
        go_ret
        refine ⟨rfl, ?_, hgr⟩
        unfold Own
        rw [marks_len]
        exact ho

set_option maxHeartbeats 400000 in
theorem heldIntS_any (a : Option Addr) (n cap : Nat) (k : Int) (w : World) (hr : Reads w a (marks k n)) (hn : n ≤ 1048586) (hk0 : 0 ≤ k) (hk1 : k ≤ 20000000) :
    Calls Tryz.prog 24 #[.slice a n cap, .int .i64 k] w fun e w' => e = .returned (.int .i64 (k + n)) ∧ w = w' := by
  go_enter Tryz.func24, Tryz.ntmps24
  go_wp2
  go_loop [1, 5] (fun kk i => ∃ j : Nat, j ≤ n ∧ i = .int .i64 j ∧ kk = .int .i64 (k + j)) (fun _ i => n - (intOf i).toNat)
  case atStart => exact ⟨0, Nat.zero_le _, rfl, by simp⟩
  case round =>
    obtain ⟨j, hj, rfl, rfl⟩ := hrel
    by_cases hlt : j < n
    · obtain ⟨b, off, x, rfl, hb, hcell, hx⟩ := hr.get (k := j) (by rw [marks_len]; exact hlt)
      have hx' : x = k + j := by rw [← hx.out, marks_get _ _ _ hlt]
      obtain rfl := hx'
      have hd : (k + (j : Int) != k + j) = false := by simp
      have hk2 : k + (j : Int) ≤ 90000000 := by omega
      go_wp2
      go_round
      case rel => exact ⟨j + 1, by omega, by go_num, by go_num⟩
      case measure => simp [intOf]; omega
    · obtain rfl : j = n := by omega
      go_wp2
      go_ret
      exact ⟨rfl, rfl⟩

end Go.Proofs.YtoaiaindcmihjaaGreatDoor
