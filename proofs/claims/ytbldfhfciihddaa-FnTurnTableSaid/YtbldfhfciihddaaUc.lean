/-
  laws.szTurnS, eqTurn, eqTurnS, markTurnS.
-/
import Derived.Test.YtbldfhfciihddaaUb
namespace Go.Proofs.Ytbldfhfciihddaa
open Go.RowKit

theorem szTurnS_any (a : Option Addr) (l : List (Int × Int)) (cap : Nat) (w : World) (_hr : ReadsP w a l) (hn : l.length ≤ 9223372036854775807) :
    Calls Try.prog 52 #[.slice a l.length cap, .int .i64 1048576] w fun e w' => e = .returned (.int .i64 (if 1048576 < l.length then -1 else 1048576 - l.length)) ∧ w = w' := by
  by_cases h : 1048576 < l.length
  · rw [if_pos h]
    go_enter Try.func52, Try.ntmps52
    go_wp2
    go_ret
    exact ⟨rfl, rfl⟩
  · rw [if_neg h]
    go_enter Try.func52, Try.ntmps52
    go_wp2
    go_ret
    exact ⟨rfl, rfl⟩

theorem grownBy_trans' {a b c : World} {row : Option Nat} (h : a.grownBy b row) (h' : b.grownBy c row) : a.grownBy c row :=
  ⟨h'.os.trans h.os, h'.tape.trans h.tape, h'.output.trans h.output, Nat.le_trans h.size h'.size, fun q hq hne => (h'.block q (Nat.lt_of_lt_of_le hq h.size) hne).trans (h.block q hq hne)⟩
/-- The lists of pairs are equal. -/
def eqP (l l' : List (Int × Int)) : Bool := decide (l = l')
theorem eqP_self (l : List (Int × Int)) : eqP l l = true := by simp [eqP]
theorem eqP_all {l l' : List (Int × Int)} (hl : l.length = l'.length) (h : ∀ i, i < l.length → pA l i = pA l' i ∧ pB l i = pB l' i) : eqP l l' = true := by
  simp only [eqP, decide_eq_true_eq]
  refine List.ext_getElem hl fun i h1 h2 => ?_
  have := h i h1
  rw [pA_eq h1, pA_eq h2, pB_eq h1, pB_eq h2] at this
  exact Prod.ext this.1 this.2

set_option maxHeartbeats 400000 in
theorem eqTurn_same (x y : Int) (w : World) :
    Calls Try.prog 81 #[.agg #[.int .i64 x, .int .i64 y], .agg #[.int .i64 x, .int .i64 y]] w fun e w' => e = .returned (.bool true) ∧ Below w.heap.size w w' := by
  have e1 : (x != x) = false := by simp
  have e2 : (y != y) = false := by simp
  go_enter Try.func81, Try.ntmps81
  go_wp2
  go_ret
  exact ⟨rfl, ((Below.refl _ _).alloc (Nat.le_refl _) _).alloc (by simp) _⟩

set_option maxHeartbeats 1000000 in
set_option maxRecDepth 100000 in
theorem eqTurnS_self (a a' : Option Addr) (l : List (Int × Int)) (cap cap' : Nat) (w : World) (hr : ReadsP w a l) (hr' : ReadsP w a' l) (hl : l.length ≤ 1048586) :
    Calls Try.prog 54 #[.slice a l.length cap, .slice a' l.length cap'] w fun e w' => e = .returned (.bool true) ∧ Below w.heap.size w w' := by
  have hlen : ((l.length : Int) != (l.length : Int)) = false := by simp
  go_enter Try.func54, Try.ntmps54
  go_wp2
  go_loopw [5] (fun i wr => ∃ k : Nat, k ≤ l.length ∧ i = .int .i64 k ∧ Below w.heap.size w wr) (fun i _ => l.length - (intOf i).toNat)
  case atStart => exact ⟨0, Nat.zero_le _, rfl, Below.refl _ _⟩
  case round =>
    obtain ⟨k, hk, rfl, hb⟩ := hrel
    by_cases hlt : k < l.length
    · obtain ⟨b, off, x, y, rfl, hbb, hcx, hcy, hx, hy⟩ := hr.get hlt
      obtain ⟨b', off', x', y', rfl, hbb', hcx', hcy', hx', hy'⟩ := hr'.get hlt
      obtain rfl : x' = x := by rw [← hx'.out, ← hx.out]
      obtain rfl : y' = y := by rw [← hy'.out, ← hy.out]
      have c1 : wr.cell? ⟨b, off + k * 2, none⟩ = some (.int .i64 x') := (hb.cell (by exact hbb)).trans hcx
      have c2 : wr.cell? ⟨b, off + k * 2 + 1, none⟩ = some (.int .i64 y') := (hb.cell (by exact hbb)).trans hcy
      have c3 : wr.cell? ⟨b', off' + k * 2, none⟩ = some (.int .i64 x') := (hb.cell (by exact hbb')).trans hcx'
      have c4 : wr.cell? ⟨b', off' + k * 2 + 1, none⟩ = some (.int .i64 y') := (hb.cell (by exact hbb')).trans hcy'
      clear hcx hcy hcx' hcy'
      go_wp2
      refine region_tail 8 (by kernel_rfl) (by kernel_rfl) ?_
      simp only [List.take_succ_cons, List.take_zero, List.drop_succ_cons, List.drop_zero]
      repeat still_step
      refine wpStill_nil ?_
      go_wp2_with fail
      refine (eqTurn_same _ _ _).mono ?_
      rintro e w2 ⟨rfl, hb2⟩
      have hb3 := (hb.drew).trans (hb2.mono (by exact hb.size))
      go_wp2
      go_roundw
      case rel => exact ⟨k + 1, by omega, by go_num, hb3⟩
      case measure => simp [intOf]; omega
    · obtain rfl : k = l.length := by omega
      go_wp2
      go_ret
      exact ⟨rfl, hb⟩

set_option maxHeartbeats 1000000 in
theorem markTurnS_any (v : Value) (l : List (Int × Int)) (base : Nat) (w : World) (hown : OwnP w base v l) (hl : l.length ≤ 1048586) :
    Calls Try.prog 55 #[v, .int .i64 1] w fun e w' => e = .returned (.int .i64 (1 + 2 * l.length)) ∧ w.grownBy w' v.ownBlock := by
  rcases hown.2 with ⟨rfl, h0⟩ | ⟨g, cap, cur, rfl, hb, hg, hn, hm, hs, ht⟩
  · obtain rfl := List.eq_nil_of_length_eq_zero h0
    go_enter Try.func55, Try.ntmps55
    go_wp2
    refine wp_loop_rounds 1 ?_
    rw [rounds_succ]
    go_wp2
    go_ret
    exact ⟨ret_int (by simp), World.grownBy.refl _ _⟩
  · clear hg hs ht hb
    go_enter Try.func55, Try.ntmps55
    go_wp2
    go_loopw [1, 5] (fun kk i wr => ∃ (j : Nat) (xs : List Value), j ≤ l.length ∧ i = .int .i64 j ∧ kk = .int .i64 (1 + 2 * (j : Int)) ∧ wr.ownsRow base 65 2 (.slice (some ⟨g, 0, none⟩) l.length cap) l.length xs ∧ w.grownBy wr (some g)) (fun _ i _ => l.length - (intOf i).toNat)
    case atStart => exact ⟨0, _, Nat.zero_le _, rfl, by simp, hown, World.grownBy.refl _ _⟩
    case round =>
      obtain ⟨j, xs, hj, rfl, rfl, ho, hgr⟩ := hrel
      by_cases hlt : j < l.length
      · have hlx : xs.length = l.length * 2 := ho.1
        obtain ⟨u1, hu1⟩ : ∃ u, wr.cell? ⟨g, j * 2, none⟩ = some u := ⟨_, by rw [ho.cellAt (j * 2) (by omega)]; exact List.getElem?_eq_getElem (by omega)⟩
        obtain ⟨u2, hu2⟩ : ∃ u, wr.cell? ⟨g, j * 2 + 1, none⟩ = some u := ⟨_, by rw [ho.cellAt (j * 2 + 1) (by omega)]; exact List.getElem?_eq_getElem (by omega)⟩
        have hf1 := ho.frozenAt (j * 2)
        have hf2 := ho.frozenAt (j * 2 + 1)
        obtain ⟨st1, s1⟩ := ho.stored (j * 2) (.int .i64 (1 + 2 * (j : Int)))
        obtain ⟨st2, s2⟩ := st1.stored (j * 2 + 1) (.int .i64 (1 + 2 * (j : Int) + 1))
        have hg3 : w.grownBy ((wr.setCell ⟨g, j * 2, none⟩ (.int .i64 (1 + 2 * (j : Int)))).setCell ⟨g, j * 2 + 1, none⟩ (.int .i64 (1 + 2 * (j : Int) + 1))) (some g) := grownBy_trans' (grownBy_trans' hgr s1) s2
        clear st1 s1 s2
        go_wp2
        go_roundw
        case rel => exact ⟨j + 1, _, by omega, by go_num, by go_num, st2, hg3⟩
        case measure => simp [intOf]; omega
      · obtain rfl : j = l.length := by omega
        go_wp2
        go_ret
        exact ⟨rfl, hgr⟩
end Go.Proofs.Ytbldfhfciihddaa
