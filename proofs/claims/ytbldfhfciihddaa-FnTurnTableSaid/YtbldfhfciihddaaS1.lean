/-
  spec.empty, spec.linear, spec.LinearTable.
-/
import Derived.Test.YtbldfhfciihddaaM1
import Derived.Test.YtbldfhfciihddaaW1
namespace Go.Proofs.Ytbldfhfciihddaa
open Go.RowKit

set_option maxHeartbeats 400000 in
theorem empty_any (M : Nat) (hM : M ≤ 1000) (w : World) :
    Calls Try.prog 89 #[.int .i64 M] w fun e w' => ∃ v, e = .returned v ∧ Own w' w.heap.size v (List.replicate M (-1)) ∧ Below w.heap.size w w' := by
  go_enter Try.func89, Try.ntmps89
  go_wp2
  go_loopw [0, 3] (fun s v wr => ∃ j : Nat, j ≤ M ∧ s = .int .i64 j ∧ Own wr w.heap.size v (List.replicate (M - j) (-1)) ∧ Below w.heap.size w wr) (fun s _ _ => (intOf s).toNat)
  case atStart => exact ⟨M, Nat.le_refl _, rfl, by rw [Nat.sub_self]; exact Own.lit0 _ _ (Nat.le_refl _), (Below.refl _ _).alloc (Nat.le_refl _) _⟩
  case round =>
    obtain ⟨j, hj, rfl, hown, hb⟩ := hrel
    have hsz := hb.size
    by_cases hlt : 0 < j
    · go_wp2_with (at_builtin; refine push_int rfl _ _ rfl w.heap.size u3 _ (-1) rfl hown rfl (by rw [List.length_replicate]; omega) hsz ?_)
      intro v' w1 ho1 _ hg1
      have hb1 := Below.grownB hb hown hg1 hsz (Nat.le_refl _)
      have ho2 : Own w1 w.heap.size v' (List.replicate (M - (j - 1)) (-1)) := by
        rw [show M - (j - 1) = (M - j) + 1 by omega, List.replicate_succ']; exact ho1
      clear ho1 hg1 hown hb
      go_wp2
      go_roundw
      case rel => exact ⟨j - 1, by omega, by rw [Int.ofNat_sub (by omega)]; rfl, ho2, hb1⟩
      case measure => simp [intOf]; omega
    · obtain rfl : j = 0 := by omega
      go_wp2
      go_ret
      exact ⟨_, rfl, hown, hb⟩

end Go.Proofs.Ytbldfhfciihddaa
