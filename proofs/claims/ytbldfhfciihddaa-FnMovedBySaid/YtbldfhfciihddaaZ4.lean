/-
  impl.SharesOf.
-/
import Derived.Test.YtbldfhfciihddaaZA
namespace Go.Proofs.Ytbldfhfciihddaa
open Go.RowKit

set_option maxHeartbeats 4000000 in
theorem implSharesOf_any (a : Option Addr) (l : List Int) (cap : Nat) (w : World) (hr : Reads w a l) (hi : ∀ n ∈ l, In64 n) (hl : l.length ≤ 1048586) (hcap : l.length ≤ cap) :
    Calls Try.prog 27 #[.slice a l.length cap] w fun e w' => ∃ v, e = .returned v ∧ Own w' w.heap.size v (SH l) ∧ Below w.heap.size w w' := by
  have cV := implValidRing_any a l cap w hr hi hl hcap
  obtain ⟨R, hR⟩ : ∃ R, R = SH l := ⟨_, rfl⟩
  rw [← hR]
  have HR := Lib.hid hR
  clear hR hi
  by_cases hv : VR l = true
  · rw [hv] at cV
    have CV := Lib.hid cV
    have hl1 := (VR_iff.1 hv).1
    have hl6 := (VR_iff.1 hv).2.1
    have e : R = shr l 64 := by rw [HR.out]; unfold SH; rw [if_pos hv]
    have E := Lib.hid e
    have CO := Lib.hid (fun wx h k h1 h2 => ringOwner_any a l cap k wx h hv h1 h2)
    have HV := Lib.hid hv
    clear cV e hv
    go_enter Try.func27, Try.ntmps27
    go_wp2_with fail
    refine CV.out.mono ?_
    rintro e w1 ⟨rfl, b1⟩
    have hmk := run_make_row' (P := Try.prog) 23 3 (.int .i64 0) 8 Try.underlying23 infoInt rfl .i64 .i64 l.length (by omega) (by omega)
    have xA := made_tabR w1 w.heap.size l.length b1.size (by omega)
    have bA := b1.alloc b1.size (.cells (madeCells #[.int .i64 0] l.length) 3)
    obtain ⟨BB, hBB⟩ : ∃ BB, BB = madeCells #[.int .i64 0] l.length := ⟨_, rfl⟩
    rw [← hBB] at hmk xA bA
    have xA1 := xA.below (below_drewN (Below.refl _ _) 1)
    have bA1 := below_drewN bA 1
    have hsz := b1.size
    clear hBB xA bA CV
    go_wp2_with fail
    go_region
    all_goals
      go_wp2_with fail
      go_loopw [14] (fun iv wr => ∃ j : Nat, j ≤ 64 ∧ iv = .int .i64 j ∧ Tab wr w.heap.size w1.heap.size l.length l.length (shr l j) ∧ Below w.heap.size w wr) (fun iv _ => 64 - (intOf iv).toNat)
      case atStart => exact ⟨0, by omega, rfl, xA1, bA1⟩
      case round =>
        clear bA1 hmk xA1
        obtain ⟨j, hj, rfl, hT, hB⟩ := hrel
        by_cases hj6 : j < 64
        · have hj1 : (j : Int) < 64 := by omega
          have ho := own_lt (k := (j : Int)) HV.out
          have hnn := shr_nn HV.out j _ ho
          have hsh : shr l (j + 1) = (shr l j).set (own l j) ((shr l j).getD (own l j) 0 + 1) := rfl
          have cO := CO.out wr (hr.below hB) (j : Int) (by omega) (by omega)
          obtain ⟨s, hs⟩ : ∃ s, s = own l (j : Int) := ⟨_, rfl⟩
          rw [← hs] at ho hnn hsh cO
          have C1 := Lib.hid cO
          have HSH := Lib.hid hsh
          clear hs hsh cO
          go_wp2_with fail
          refine C1.out.mono ?_
          rintro e w2 ⟨rfl, b2⟩
          have hT2 := hT.below b2
          have hB2 := hB.trans (b2.mono hB.size)
          obtain ⟨y, hcy, hy⟩ := hT2.get (k := s) ho
          have hfz := hT2.frozen s
          rw [hy.out] at hnn
          have hyw : IntKind.i64.wrap (y + 1) = y + 1 := IntWalk.i64_in _ (by omega)
          have hst := hT2.store s (y + 1)
          have hnew : (shr l j).set s (y + 1) = shr l (j + 1) := by rw [HSH.out, hy.out]
          rw [hnew] at hst
          have hs1 : (s : Int) < (l.length : Int) := by omega
          have hB3 := hB2.setCell (p := ⟨w1.heap.size, s, none⟩) hsz (.int .i64 (y + 1))
          clear hnew hy hT hB hT2 hB2 b2
          go_wp2
          go_roundw
          case rel => exact ⟨j + 1, by omega, by go_num, hst, hB3⟩
          case measure => simp [intOf]; omega
        · obtain rfl : j = 64 := by omega
          have ho := hT.own
          rw [← E.out] at ho
          go_wp2
          go_ret
          exact ⟨_, rfl, ho, hB⟩
  · have e : R = [] := by rw [HR.out]; unfold SH; rw [if_neg hv]
    subst e
    rw [show VR l = false from by simpa using hv] at cV
    have CV := Lib.hid cV
    clear cV hv
    go_enter Try.func27, Try.ntmps27
    go_wp2_with fail
    refine CV.out.mono ?_
    rintro e w1 ⟨rfl, b1⟩
    go_wp2
    go_ret
    exact ⟨_, rfl, Own.nil _ _, b1⟩
end Go.Proofs.Ytbldfhfciihddaa
