/-
  The laws' helpers besides: total, isIn, taken, turned.
-/
import Derived.Test.YtjkcahmbocjacaaLH
namespace Go.Proofs.Ytjkcahmbocjacaa
open Go.RowKit

/-- The sum of numbers. -/
def summ : List Int → Int
  | [] => 0
  | x :: r => x + summ r
theorem summ_append (a b : List Int) : summ (a ++ b) = summ a + summ b := by
  induction a with
  | nil => simp [summ]
  | cons x r ih => simp only [List.cons_append, summ, ih]; omega
theorem summ_take {l : List Int} {k : Nat} (h : k < l.length) : summ (l.take (k + 1)) = summ (l.take k) + l.getD k 0 := by
  rw [take_succ_getD h, summ_append]; simp [summ]

set_option maxHeartbeats 1000000 in
theorem total_any (a : Option Addr) (l : List Int) (cap : Nat) (w : World) (hr : Reads w a l) (hl : l.length ≤ 1000) (hi : ∀ x ∈ l, -1000 ≤ x ∧ x ≤ 1000) :
    Calls Try.prog 42 #[.slice a l.length cap] w fun e w' => e = .returned (.int .i64 (summ l)) ∧ w = w' := by
  have HI : Hid (∀ k, k < l.length → -1000 ≤ l.getD k 0 ∧ l.getD k 0 ≤ 1000) := by
    intro k hk
    have e : l.getD k 0 = l[k] := by simp [List.getD, hk]
    rw [e]; exact hi _ (List.getElem_mem hk)
  clear hi
  go_enter Try.func42, Try.ntmps42
  go_wp2
  go_loop [3, 4] (fun n i => ∃ (k : Nat) (x : Int), k ≤ l.length ∧ i = .int .i64 k ∧ n = .int .i64 x ∧ Hid (x = summ (l.take k)) ∧ -1000 * (k : Int) ≤ x ∧ x ≤ 1000 * (k : Int)) (fun _ i => l.length - (intOf i).toNat)
  case atStart => exact ⟨0, 0, Nat.zero_le _, rfl, rfl, by simp [Hid, summ], by simp, by simp⟩
  case round =>
    obtain ⟨k, x, hk, rfl, rfl, hx, hx1, hx2⟩ := hrel
    by_cases hlt : k < l.length
    · obtain ⟨b, off, y, rfl, hb, hcell, hy⟩ := hr.get hlt
      have hyr := HI.out k hlt
      rw [hy.out] at hyr
      have hs := summ_take hlt
      rw [hy.out] at hs
      have HS := Lib.hid hs
      clear hs
      go_wp2
      go_round
      case rel => exact ⟨k + 1, x + y, by omega, by go_num, rfl, by show x + y = _; rw [HS.out, hx.out], by omega, by omega⟩
      case measure => simp [intOf]; omega
    · obtain rfl : k = l.length := by omega
      have hx3 : x = summ l := by rw [hx.out, List.take_length]
      subst hx3
      go_wp2
      go_ret
      exact ⟨rfl, rfl⟩

/-- Is the number in the list? -/
def inL (l : List Int) (n : Int) : Bool := decide (n ∈ l)

/-- Are keys in the same slots? -/
def tkn (a b : List Int) : Bool := decide (∀ i, i < a.length → (a.getD i 0 < 0 ↔ b.getD i 0 < 0))

end Go.Proofs.Ytjkcahmbocjacaa
