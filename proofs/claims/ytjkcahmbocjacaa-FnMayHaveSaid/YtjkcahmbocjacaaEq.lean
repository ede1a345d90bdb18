/-
  '==' of two sieves.
-/
import Derived.Test.YtjkcahmbocjacaaW7
import Derived.Laws.StructEq
namespace Go.Proofs.Ytjkcahmbocjacaa
open Go.RowKit

set_option maxRecDepth 100000 in
set_option maxHeartbeats 1000000 in
theorem eq_sv (b ww s b' ww' s' : Int) (w : World) : (Op.equalIn 10000 24 (.agg #[.int .i64 b, .int .i64 ww, .int .i64 s]) (.agg #[.int .i64 b', .int .i64 ww', .int .i64 s'])).run Try.prog w = .ok (b == b' && (ww == ww' && s == s')) w := by
  have hS : Try.prog.underlying 24 = some (.struct (Try.prog.fieldsOf 24)) := by kernel_rfl
  have hp : Try.prog.stoodInHeld 24 = false := by kernel_rfl
  rw [show (10000 : Nat) = 9999 + 1 from rfl, run_equalIn_agg w 9999 24 _ _ hS hp]
  simp only [Program.fieldsOf, Try.underlying24]
  go_simp
  by_cases h1 : b = b' <;> by_cases h2 : ww = ww' <;> by_cases h3 : s = s' <;> simp [h1, h2, h3]
theorem eqg_sv : Try.prog.eqGuardType Try.prog.depth 24 = false := by kernel_rfl
theorem eq_sv_self (b ww s : Int) (w : World) : (Op.equalIn 10000 24 (.agg #[.int .i64 b, .int .i64 ww, .int .i64 s]) (.agg #[.int .i64 b, .int .i64 ww, .int .i64 s])).run Try.prog w = .ok true w := by rw [eq_sv]; simp
theorem eq_sv_set (b ww s s' : Int) (w : World) : (Op.equalIn 10000 24 (.agg #[.int .i64 b, .int .i64 ww, .int .i64 s]) (.agg #[.int .i64 b, .int .i64 ww, .int .i64 s'])).run Try.prog w = .ok (decide (s = s')) w := by
  rw [eq_sv]
  by_cases h : s = s' <;> simp [h]
end Go.Proofs.Ytjkcahmbocjacaa
