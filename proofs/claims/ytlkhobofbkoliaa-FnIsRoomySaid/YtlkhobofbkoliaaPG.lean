/-
  spec.groups, spec.GroupsOf.
-/
import Derived.Test.YtlkhobofbkoliaaPd
import Derived.Test.YtlkhobofbkoliaaQG
namespace Go.Proofs.Ytlkhobofbkoliaa
open Go.RowKit

/-- The slots so far: 0, 1, .., k - 1. -/
def upto (k : Nat) : List Int := (List.range k).map fun s : Nat => (s : Int)
theorem upto_len (k : Nat) : (upto k).length = k := by simp [upto]
theorem upto_succ (k : Nat) : upto k ++ [(k : Int)] = upto (k + 1) := by simp [upto, List.range_succ]

set_option maxHeartbeats 2000000 in
set_option maxRecDepth 100000 in
theorem groups_any (M : Nat) (a : Option Addr) (l : List (Int × Int)) (cap : Nat) (w : World) (hr : ReadsP w a l) (hP : Prs M l) :
    Calls Try.prog 90 #[.int .i64 M, .slice a l.length cap] w fun e w' => ∃ v, e = .returned v ∧ Own w' w.heap.size v (gra M l) ∧ Below w.heap.size w w' := by
  have hM := hP.le
  have hM1 := hP.pos
  have hlen := hP.len
  have ho := Own.lit0 w w.heap.size (Nat.le_refl _)
  have hb0 : Below w.heap.size w (w.alloc (.cells #[] 3)) := (Below.refl _ _).alloc (Nat.le_refl _) _
  go_enter Try.func90, Try.ntmps90
  go_wp2
  go_loopw [5, 6] (fun v i wr => ∃ k : Nat, k ≤ M ∧ i = .int .i64 k ∧ Own wr w.heap.size v (upto k) ∧ Below w.heap.size w wr) (fun _ i _ => M - (intOf i).toNat)
  case atStart => exact ⟨0, Nat.zero_le _, rfl, ho, hb0⟩
  case round =>
    clear ho hb0
    obtain ⟨k, hk, rfl, hown, hb⟩ := hrel
    have hsz := hb.size
    by_cases hlt : k < M
    · go_wp2_with (at_builtin; refine push_int rfl _ _ rfl w.heap.size u5 _ k rfl hown rfl (by rw [upto_len]; omega) hsz ?_)
      intro v' w1 ho1 _ hg1
      have hb1 := Below.grownB hb hown hg1 hsz (Nat.le_refl _)
      rw [upto_succ] at ho1
      clear hg1 hown hb
      go_wp2
      go_roundw
      case rel => exact ⟨k + 1, by omega, by go_num, ho1, hb1⟩
      case measure => simp [intOf]; omega
    · obtain rfl : k = M := by omega
      obtain ⟨g, cap', rfl, ht⟩ := hown.tab (by rw [upto_len]; omega)
      rw [upto_len] at ht ⊢
      have hgrp := Grp.start k l
      change Grp k l (upto k) at hgrp
      clear hown
      go_wp2
      go_loopg [7] (tot (upto k) + 1) (fun n ag wr => ∃ (b : Bool) (X : List Int), ag = .bool b ∧ Grp k l X ∧ (b = true → tot X < n) ∧ (b = false → Same l X l.length) ∧ Tab wr w.heap.size g k cap' X ∧ Below w.heap.size w wr)
      case atStart => exact ⟨true, upto k, rfl, hgrp, (fun _ => by omega), (fun h => by cases h), ht, hb⟩
      case round =>
        clear hgrp ht hb
        obtain ⟨ag, X, rfl, hG, hag1, hag2, hT, hb⟩ := hrel
        cases ag with
        | false =>
          have e := gra_eq hP hG (hag2 rfl)
          rw [e] at hT
          clear e hag1 hag2
          go_wp2
          go_ret
          exact ⟨_, rfl, hT.own, hb⟩
        | true =>
          have hlow := hag1 rfl
          clear hag1 hag2
          go_wp2
          go_loopw [7, 8] (fun ag i wr => ∃ (b : Bool) (j : Nat) (Y : List Int), ag = .bool b ∧ j ≤ l.length ∧ i = .int .i64 j ∧ Grp k l Y ∧ (tot Y ≤ tot X ∧ (b = true → tot Y < tot X)) ∧ (b = false → Same l Y j) ∧ Tab wr w.heap.size g k cap' Y ∧ Below w.heap.size w wr) (fun _ i _ => l.length - (intOf i).toNat)
          case atStart => exact ⟨false, 0, X, rfl, Nat.zero_le _, rfl, hG, ⟨Nat.le_refl _, (fun h => by cases h)⟩, (fun _ => Same.zero _ _), hT, hb⟩
          case round =>
            clear hG hT hb
            obtain ⟨ag, j, Y, rfl, hj, rfl, hG, hag1, hag2, hT, hb⟩ := hrel
            have HA1 := Lib.hid hag1
            have HA2 := Lib.hid hag2
            clear hag1 hag2
            by_cases hlt2 : j < l.length
            · obtain ⟨b, off, x, y, rfl, hbb, hcx, hcy, hx, hy⟩ := hr.get hlt2
              have fx := hP.cA hlt2
              have fy := hP.cB hlt2
              have lx := hP.lA hlt2
              have ly := hP.lB hlt2
              have hlowr := fun z hz => hG.lower hP hlt2 (x := z) hz
              have htot := fun z hz hne => tot_lower hG hP hlt2 (x := z) hz hne
              obtain ⟨p, hp⟩ : ∃ p, p = hA l j := ⟨_, rfl⟩
              obtain ⟨q, hq⟩ : ∃ q, q = hB l j := ⟨_, rfl⟩
              rw [hx.out, ← hp] at fx
              rw [hy.out, ← hq] at fy
              rw [← hp, ← hq] at hlowr htot
              rw [← hp] at lx
              rw [← hq] at ly
              have HP := Lib.hid hp
              have HQ := Lib.hid hq
              have HL := Lib.hid hlowr
              have HT := Lib.hid htot
              clear hp hq hx hy hlowr htot
              subst fx fy
              have c1 : wr.cell? ⟨b, off + j * 2, none⟩ = some (.int .i64 p) := (hb.cell (by exact hbb)).trans hcx
              have c2 : wr.cell? ⟨b, off + j * 2 + 1, none⟩ = some (.int .i64 q) := (hb.cell (by exact hbb)).trans hcy
              clear hcx hcy
              obtain ⟨u, hcu, hu⟩ := hT.get lx
              obtain ⟨v, hcv, hv⟩ := hT.get ly
              have hf1 := hT.frozen p
              have hf2 := hT.frozen q
              by_cases huv : u = v
              · have hmin : (u != u) = false := by simp
                obtain rfl := huv
                have hs : ag = false → Same l Y (j + 1) := fun h => (HA2.out h).succ (by rw [← HP.out, ← HQ.out, hu.out, hv.out])
                have HS := Lib.hid hs
                clear hs
                go_wp2
                go_quiet (fail)
                go_wp2
                go_roundw
                case rel => exact ⟨ag, j + 1, Y, rfl, by omega, by go_num, hG, HA1.out, HS.out, hT, below_drewN hb _⟩
                case measure => simp [intOf]; omega
              · have hpq : p ≠ q := fun e => huv (by rw [← hu.out, ← hv.out, e])
                have hqp : q ≠ p := fun e => hpq e.symm
                have hbg : b ≠ g := by have := hT.block; omega
                rcases Int.lt_or_gt_of_ne huv with hlv | hlv
                · have hd0 : decide (v < u) = false := by simp; omega
                  have hd1 : (u != u) = false := by simp
                  have hd2 : (v != u) = true := by simp; omega
                  have hst := (hT.store p u).store q u
                  have e := HL.out u (by rw [hu.out, hv.out]; omega)
                  have t := HT.out u (by rw [hu.out, hv.out]; omega) (by rw [hu.out, hv.out]; omega)
                  clear huv
                  go_wp2
                  go_quiet (fail)
                  go_wp2
                  go_roundw
                  case rel => exact ⟨true, j + 1, _, rfl, by omega, by go_num, e, (by have := HA1.out.1; exact ⟨by omega, fun _ => by omega⟩), (fun h => by cases h), hst, ((below_drewN hb _).setCell (p := ⟨g, p, none⟩) hT.block.1 _).setCell (p := ⟨g, q, none⟩) hT.block.1 _⟩
                  case measure => simp [intOf]; omega
                · have hd0 : decide (v < u) = true := by simp; omega
                  have hd1 : (u != v) = true := by simp; omega
                  have hst := (hT.store p v).store q v
                  have e := HL.out v (by rw [hu.out, hv.out]; omega)
                  have t := HT.out v (by rw [hu.out, hv.out]; omega) (by rw [hu.out, hv.out]; omega)
                  clear huv
                  go_wp2
                  go_quiet (fail)
                  go_wp2
                  go_roundw
                  case rel => exact ⟨true, j + 1, _, rfl, by omega, by go_num, e, (by have := HA1.out.1; exact ⟨by omega, fun _ => by omega⟩), (fun h => by cases h), hst, ((below_drewN hb _).setCell (p := ⟨g, p, none⟩) hT.block.1 _).setCell (p := ⟨g, q, none⟩) hT.block.1 _⟩
                  case measure => simp [intOf]; omega
            · obtain rfl : j = l.length := by omega
              go_wp2
              go_roundg (gk - 1)
              case measure => omega
              case rel => exact ⟨ag, Y, rfl, hG, (fun h => by have := HA1.out.2 h; omega), HA2.out, hT, hb⟩

theorem specGroupsOf_any (m : Int) (a : Option Addr) (l : List (Int × Int)) (cap : Nat) (w : World) (hm : In64 m) (hr : ReadsP w a l) (_hl : l.length ≤ 1048586) :
    Calls Try.prog 39 #[.int .i64 m, .slice a l.length cap] w fun e w' => ∃ v, e = .returned v ∧ Own w' w.heap.size v (GO m l) ∧ Below w.heap.size w w' := by
  by_cases hv : VP m l = true
  · obtain ⟨M, rfl, hP⟩ := Prs.of_VP hv
    unfold GO
    rw [if_pos hv]
    have HV := Lib.hid hv
    clear hv
    go_enter Try.func39, Try.ntmps39
    go_wp2_with fail
    refine (specvalidPairs_any _ _ _ _ _ hr hm _hl).mono ?_
    rintro e w0 ⟨rfl, rfl⟩
    rw [HV.out]
    go_wp2_with fail
    refine (groups_any M _ _ _ _ hr hP).mono ?_
    rintro e w0 ⟨v, rfl, ho, hb⟩
    go_wp2
    go_ret
    exact ⟨_, rfl, ho, hb⟩
  · have hv' : VP m l = false := by simpa using hv
    unfold GO
    rw [if_neg hv]
    clear hv
    have HV := Lib.hid hv'
    clear hv'
    go_enter Try.func39, Try.ntmps39
    go_wp2_with fail
    refine (specvalidPairs_any _ _ _ _ _ hr hm _hl).mono ?_
    rintro e w0 ⟨rfl, rfl⟩
    rw [HV.out]
    go_wp2
    go_ret
    exact ⟨_, rfl, Own.nil _ _, Below.refl _ _⟩
end Go.Proofs.Ytlkhobofbkoliaa
