/- Whatever the arguments, laws.FnExactHowMany returns true, and nothing that was there before the call has changed. No condition beyond the given row's own. -/
import Derived.Test.YtjkcahmbocjacaaRows
import Derived.Test.YtjkcahmbocjacaaFacts
import Derived.Test.YtjkcahmbocjacaaES
import Derived.WalkKit
import Derived.ProofKit
import Derived.OpenShut
import Derived.ShutString
namespace Go.Proofs.Ytjkcahmbocjacaa.fnExactHowMany
open Go.ChangeShapes Go.WideShapes Go.ChangeAt Go.RowKit
open Go.ChangeMaps (open_string shut_string)
set_option linter.unusedVariables false      -- a walk need not use every 'w<i>' (that an integer argument fits its kind)

theorem own : ownKnob Try.prog.godebug = none := by kernel_rfl

/-! ### STEP 1: THE WALK: the Go text returns true. 'Grown w w'': the world has at most new blocks (Derived/RowKit3.lean). Part the cases AHEAD of 'go_enter' where a test parts the walk; take each callee by a contract of your own. -/
theorem walk (a0b a0w a0s : Int) (w0b : (Lit.int .i64 a0b).wf = true) (w0w : (Lit.int .i64 a0w).wf = true) (w0s : (Lit.int .i64 a0s).wf = true) (w : World) :
    Calls Try.prog 16 #[.agg #[.int .i64 a0b, .int .i64 a0w, .int .i64 a0s]] w fun e w' => e = .returned (.bool true) ∧ Below w.heap.size w w' := by
  exact lawExactHowMany a0b a0w a0s w 
  -- go_enter Try.func16, Try.ntmps16
  -- go_wp2
  -- go_ret
  -- exact ⟨rfl, by repeat (first | exact Grown.refl _ | apply Grown.drew | apply Grown.alloc)⟩

/-! ### THE ROW's STEP: WRITTEN OUT: LEAVE IT -/
set_option maxRecDepth 100000 in
theorem lifted (os : Os) (started : os.Started) (H : Type) (enc : TypeId × Value → H) :
    ReturnsInHanded {} Try.checked os 16 .any (Rows.fnExactHowManySpec.pre6 enc Try.prog Try.f16 Rows.fnExactHowManyRow.domain false) (Rows.fnExactHowManySpec.post enc Try.prog Try.f16 false true false false) := by
  refine returnsInHanded_of_change (C := Try.checked) own started (by kernel_rfl) Try.func16
    (ChangeSpec.witness6 (enc := enc) (C := Try.checked) false ⟨#[], #[.agg #[.int .i64 0, .int .i64 0, .int .i64 0]], []⟩ 8 (by kernel_rfl) (by kernel_rfl) (by kernel_rfl) (by kernel_rfl)) ?_
  intro W base args ds gs before hval0 hW hcnd _
  have hval : ∀ (j : Nat) t v, Try.f16.params[j]? = some t → args[j]? = some v → Value.okWide Try.prog W .any base t v := hval0
  have hW' := hW
  obtain ⟨p, q, hA0, hV, rfl, hfz, hnd⟩ := hW
  have hA : DataW.TrodAll enc Try.prog W 0 (fun _ => true) true Try.f16.params.toList args.toList ds p := hA0
  rw [Try.params16] at hA hval
  obtain ⟨v0, vs0, d0, ds0, p0, q0, hargs, rfl, rfl, h0, r0⟩ := trodAll_cons hA
  obtain ⟨rfl, rfl, rfl⟩ := trodAll_nil r0
  obtain rfl : args = #[v0] := by cases args; simp_all
  obtain ⟨rfl, rfl⟩ := trodVars_none hV
  obtain ⟨a0b, a0w, a0s, rfl, rfl, rfl, w0b, w0w, w0s⟩ := open_sieve (hval 0 54 v0 rfl rfl) h0
  clear hA0 hval0
  refine (walk a0b a0w a0s w0b w0w w0s W).mono fun e W' ⟨he, bel⟩ => ?_
  subst he
  exact ⟨_, rfl, _, _, _, [], _, [], hW', (trodAll_mk1 (shut_bool Try.underlying4 _)), (trodAll_cons_mk (shut_sieve w0b w0w w0s) trodAll_mk0), rfl, bel.frame _, fun h => by cases h⟩

theorem closed : joinedFacts Try.checked.prog 16 Try.f16 Rows.fnExactHowManySpec Rows.fnExactHowManyRow = true := by
  unfold joinedFacts
  refine (band (band (band (band (band (band (band (band (band (band (band (band (band (band (band (band (band (band (band (band (band (band (band (band (band (band (band (band (band (band (band ?F0 ?F1) ?F2) ?F3) ?F4) ?F5) ?F6) ?F7) ?F8) ?F9) ?F10) ?F11) ?F12) ?F13) ?F14) ?F15) ?F16) ?F17) ?F18) ?F19) ?F20) ?F21) ?F22) ?F23) ?F24) ?F25) ?F26) ?F27) ?F28) ?F29) ?F30) ?F31)
  case F25 => exact mayEnter
  case F26 => rw [liftsFinal]; rfl
  case F27 => rw [make]; rfl
  all_goals (as_aux_lemma => kernel_rfl)

theorem over : Rows.fnExactHowManyRow.holds Try.pinned (OpenSpec.ofChange Rows.fnExactHowManySpec) :=
  OpenClaim.holds_of_wide 16 Try.f16 rfl rfl rfl rfl rfl rfl rfl ⟨rfl, rfl, rfl, rfl, rfl⟩ rfl rfl rfl rfl rfl (by as_aux_lemma => kernel_rfl) Try.func16 closed
    (of_decide_eq_true (by kernel_rfl)) (by unfold Func.isWrapper; first | (rw [if_pos (by decide +kernel)]; kernel_rfl) | (rw [if_neg (by decide +kernel)]; exact ⟨rfl, rfl⟩))
    (fun os started H enc _ => lifted os started H enc)

/-- ████ THE STATEMENT ████ -/
theorem proved : Rows.FnExactHowManySaid :=
  over
#print axioms proved
end Go.Proofs.Ytjkcahmbocjacaa.fnExactHowMany
