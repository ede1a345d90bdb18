/-
  The laws' helpers besides: total, isIn, taken, turned.
-/
import Derived.Test.YtoaiaindcmihjaaLH
namespace Go.Proofs.Ytoaiaindcmihjaa
open Go.RowKit

/-- The sum of numbers. -/
def summ : List Int → Int
  | [] => 0
  | x :: r => x + summ r
theorem summ_append (a b : List Int) : summ (a ++ b) = summ a + summ b := by
  induction a with
  | nil => simp [summ]
  | cons x r ih => simp only [List.cons_append, summ, ih]; omega
theorem summ_take {l : List Int} {k : Nat} (h : k < l.length) : summ (l.take (k + 1)) = summ (l.take k) + l.getD k 0 := by
  rw [take_succ_getD h, summ_append]; simp [summ]

/-- Is the number in the list? -/
def inL (l : List Int) (n : Int) : Bool := decide (n ∈ l)

set_option maxHeartbeats 1000000 in
theorem isIn_any (a : Option Addr) (l : List Int) (cap : Nat) (n : Int) (w : World) (hr : Reads w a l) (hl : l.length ≤ 1048586) :
    Calls Try.prog 22 #[.slice a l.length cap, .int .i64 n] w fun e w' => e = .returned (.bool (inL l n)) ∧ w = w' := by
  go_enter Try.func22, Try.ntmps22
  go_wp2
  go_loop [5] (fun i => ∃ k : Nat, k ≤ l.length ∧ i = .int .i64 k ∧ Hid (∀ j, j < k → l.getD j 0 ≠ n)) (fun i => l.length - (intOf i).toNat)
  case atStart => exact ⟨0, Nat.zero_le _, rfl, fun j hj => by omega⟩
  case round =>
    obtain ⟨k, hk, rfl, hf⟩ := hrel
    by_cases hlt : k < l.length
    · obtain ⟨b, off, y, rfl, hb, hcell, hy⟩ := hr.get hlt
      by_cases g1 : y = n
      · have hd : (y == n) = true := by simp [g1]
        have hin : inL l n = true := by
          unfold inL
          have e : l.getD k 0 = l[k] := by simp [List.getD, hlt]
          have := hy.out
          rw [e, g1] at this
          exact decide_eq_true (this ▸ List.getElem_mem hlt)
        have HIN := Lib.hid hin
        clear hin g1
        go_wp2
        go_ret
        exact ⟨ret_bool HIN.out.symm, rfl⟩
      · have hd : (y == n) = false := by simpa using g1
        have HG := Lib.hid g1
        clear g1
        go_wp2
        go_round
        case rel =>
          refine ⟨k + 1, by omega, by go_num, ?_⟩
          intro j hj
          by_cases e : j = k
          · subst e; rw [hy.out]; exact HG.out
          · exact hf.out j (by omega)
        case measure => simp [intOf]; omega
    · obtain rfl : k = l.length := by omega
      have hin : inL l n = false := by
        unfold inL
        apply decide_eq_false
        intro h
        obtain ⟨i, hi, e⟩ := List.getElem_of_mem h
        exact hf.out i hi (by simp [List.getD, hi, e])
      have HIN := Lib.hid hin
      clear hin
      go_wp2
      go_ret
      exact ⟨ret_bool HIN.out.symm, rfl⟩

/-- Are keys in the same slots? -/
def tkn (a b : List Int) : Bool := decide (∀ i, i < a.length → (a.getD i 0 < 0 ↔ b.getD i 0 < 0))

end Go.Proofs.Ytoaiaindcmihjaa
