/-
  The laws' helpers: equalInts, keysIn, total, isIn.
-/
import Derived.Test.YtoaiaindcmihjaaGreatDoorM1
import Derived.Test.YtoaiaindcmihjaaGreatDoorLib
namespace Go.Proofs.YtoaiaindcmihjaaGreatDoor
open Go.RowKit

theorem take_succ_getD {l : List Int} {k : Nat} (h : k < l.length) : l.take (k + 1) = l.take k ++ [l.getD k 0] := by
  rw [List.take_succ_eq_append_getElem h]; simp [List.getD, h]

theorem held_take {l : List Int} {k : Nat} (h : k < l.length) : held (l.take (k + 1)) = held (l.take k) + (if 0 ≤ l.getD k 0 then 1 else 0) := by
  rw [take_succ_getD h]; unfold held; rw [List.countP_append]; simp [List.countP_cons]

set_option maxHeartbeats 1000000 in
theorem equalInts_any (a a' : Option Addr) (l l' : List Int) (cap cap' : Nat) (w : World) (hr : Reads w a l) (hr' : Reads w a' l') (hl : l.length ≤ 1048586) (hl' : l'.length ≤ 1048586) :
    Calls Tryz.prog 13 #[.slice a l.length cap, .slice a' l'.length cap'] w fun e w' => e = .returned (.bool (eqL l l')) ∧ ∃ n, w' = w.drewN n := by
  by_cases hne : l.length = l'.length
  · have hlen : ((l.length : Int) != (l'.length : Int)) = false := by simp [hne]
    have hne' : l'.length = l.length := hne.symm
    have H := Lib.hid hne
    clear hne
    go_enter Tryz.func13, Tryz.ntmps13
    go_wp2
    go_loopw [5] (fun i wr => ∃ k : Nat, k ≤ l.length ∧ i = .int .i64 k ∧ (∀ i, i < k → l.getD i 0 = l'.getD i 0) ∧ ∃ n, wr = w.drewN n) (fun i _ => l.length - (intOf i).toNat)
    case atStart => exact ⟨0, Nat.zero_le _, rfl, fun i hi => by omega, 0, rfl⟩
    case round =>
      obtain ⟨k, hk, rfl, hf, n, rfl⟩ := hrel
      have HF := Lib.hid hf
      clear hf
      by_cases hlt : k < l.length
      · obtain ⟨b, off, x, rfl, hbb, hcell, hx⟩ := hr.get hlt
        obtain ⟨b', off', x', rfl, hbb', hcell', hx'⟩ := hr'.get (k := k) (by omega)
        by_cases hxx : x = x'
        · have hd : (x != x') = false := by simp [hxx]
          have HX := Lib.hid hxx
          clear hxx
          go_wp2
          go_quiet (fail)
          go_wp2
          go_roundw
          case rel => exact ⟨k + 1, by omega, by go_num, below_all HF.out (by rw [hx.out, hx'.out, HX.out]), _, rfl⟩
          case measure => simp [intOf]; omega
        · have hd : (x != x') = true := by simp [hxx]
          go_wp2
          go_quiet (fail)
          go_wp2
          go_ret
          exact ⟨ret_bool (eqL_ne (by rw [hx.out, hx'.out]; exact hxx)).symm, _, by rw [World.drewN_drewN]⟩
      · obtain rfl : k = l.length := by omega
        go_wp2
        go_ret
        exact ⟨ret_bool (eqL_all H.out HF.out).symm, _, rfl⟩
  · have hlen : ((l.length : Int) != (l'.length : Int)) = true := by simp; omega
    go_enter Tryz.func13, Tryz.ntmps13
    go_wp2
    go_ret
    exact ⟨ret_bool (eqL_len hne).symm, 0, rfl⟩

end Go.Proofs.YtoaiaindcmihjaaGreatDoor
