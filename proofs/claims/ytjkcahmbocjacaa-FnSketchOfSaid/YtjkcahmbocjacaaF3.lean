/-
  impl.isRest, isSize, validFunction, functionOf, its function, HashOf.
-/
import Derived.Test.YtjkcahmbocjacaaF1
import Derived.Test.YtjkcahmbocjacaaArr
import Derived.Laws.EntriesVeiled
namespace Go.Proofs.Ytjkcahmbocjacaa
open Go.RowKit

set_option maxHeartbeats 400000 in
theorem isRest_any (n : Int) (w : World) : Calls Try.prog 83 #[.int .i64 n] w fun e w' => e = .returned (.bool (KR n)) ∧ w = w' := by
  by_cases h1 : 0 ≤ n
  · by_cases h2 : n < 31
    · go_enter Try.func83, Try.ntmps83
      go_wp2
      go_ret
      exact ⟨ret_bool (KR_iff.2 (by omega)).symm, rfl⟩
    · have hv : KR n = false := by rw [← Bool.not_eq_true, KR_iff]; omega
      go_enter Try.func83, Try.ntmps83
      go_wp2
      go_ret
      exact ⟨ret_bool (by first | exact hv.symm | rfl), rfl⟩
  · have hv : KR n = false := by rw [← Bool.not_eq_true, KR_iff]; omega
    go_enter Try.func83, Try.ntmps83
    go_wp2
    go_ret
    exact ⟨ret_bool (by first | exact hv.symm | rfl), rfl⟩
set_option maxHeartbeats 400000 in
theorem isSize_any (n : Int) (w : World) : Calls Try.prog 115 #[.int .i64 n] w fun e w' => e = .returned (.bool (SZ n)) ∧ w = w' := by
  by_cases h1 : 1 ≤ n
  · by_cases h2 : n ≤ 31
    · go_enter Try.func115, Try.ntmps115
      go_wp2
      go_ret
      exact ⟨ret_bool (SZ_iff.2 (by omega)).symm, rfl⟩
    · have hv : SZ n = false := by rw [← Bool.not_eq_true, SZ_iff]; omega
      go_enter Try.func115, Try.ntmps115
      go_wp2
      go_ret
      exact ⟨ret_bool (by first | exact hv.symm | rfl), rfl⟩
  · have hv : SZ n = false := by rw [← Bool.not_eq_true, SZ_iff]; omega
    go_enter Try.func115, Try.ntmps115
    go_wp2
    go_ret
    exact ⟨ret_bool (by first | exact hv.symm | rfl), rfl⟩

theorem VF_eq2 (a b m : Int) : VF a b m = (KR a && decide (0 < a) && KR b && SZ m) := by
  rw [Bool.eq_iff_iff]; simp only [VF_iff, Bool.and_eq_true, KR_iff, SZ_iff, decide_eq_true_eq]; omega

set_option maxHeartbeats 2000000 in
theorem validFunction_any (a b m : Int) (w : World) : Calls Try.prog 109 #[.int .i64 a, .int .i64 b, .int .i64 m] w fun e w' => e = .returned (.bool (VF a b m)) ∧ w = w' := by
  by_cases g1 : KR a = true
  · by_cases g2 : 0 < a
    · by_cases g3 : KR b = true
      · go_enter Try.func109, Try.ntmps109
        go_wp2_with (first | (go_at_call 83; refine (isRest_any _ _).mono ?_; rintro e w' ⟨rfl, rfl⟩) | (go_at_call 115; refine (isSize_any _ _).mono ?_; rintro e w' ⟨rfl, rfl⟩))
        go_ret
        exact ⟨ret_bool (by rw [VF_eq2]; simp [g1, g2, g3]), rfl⟩
      · have g3' : KR b = false := by simpa using g3
        go_enter Try.func109, Try.ntmps109
        go_wp2_with (first | (go_at_call 83; refine (isRest_any _ _).mono ?_; rintro e w' ⟨rfl, rfl⟩) | (go_at_call 115; refine (isSize_any _ _).mono ?_; rintro e w' ⟨rfl, rfl⟩))
        go_ret
        exact ⟨ret_bool (by rw [VF_eq2]; simp [g3']), rfl⟩
    · go_enter Try.func109, Try.ntmps109
      go_wp2_with (first | (go_at_call 83; refine (isRest_any _ _).mono ?_; rintro e w' ⟨rfl, rfl⟩) | (go_at_call 115; refine (isSize_any _ _).mono ?_; rintro e w' ⟨rfl, rfl⟩))
      go_ret
      exact ⟨ret_bool (by rw [VF_eq2]; simp; intro _ _; omega), rfl⟩
  · have g1' : KR a = false := by simpa using g1
    go_enter Try.func109, Try.ntmps109
    go_wp2_with (first | (go_at_call 83; refine (isRest_any _ _).mono ?_; rintro e w' ⟨rfl, rfl⟩) | (go_at_call 115; refine (isSize_any _ _).mono ?_; rintro e w' ⟨rfl, rfl⟩))
    go_ret
    exact ⟨ret_bool (by rw [VF_eq2]; simp [g1']), rfl⟩

/-- The function's value: what it captures lies in three variables. -/
abbrev FnV (A B M : Nat) : Value := .func (.func 116) #[] #[.pointer (some ⟨A, 0, none⟩), .pointer (some ⟨B, 0, none⟩), .pointer (some ⟨M, 0, none⟩)]
/-- The three variables hold a, b and m. -/
structure FunAt (w : World) (A B M : Nat) (a b m : Int) : Prop where
  ca : w.cell? ⟨A, 0, none⟩ = some (.int .i64 a)
  cb : w.cell? ⟨B, 0, none⟩ = some (.int .i64 b)
  cm : w.cell? ⟨M, 0, none⟩ = some (.int .i64 m)
theorem FunAt.lt {w : World} {A B M : Nat} {a b m : Int} (h : FunAt w A B M a b m) : A < w.heap.size ∧ B < w.heap.size ∧ M < w.heap.size :=
  ⟨World.block_lt_of_cell? w _ h.ca, World.block_lt_of_cell? w _ h.cb, World.block_lt_of_cell? w _ h.cm⟩
theorem FunAt.below {w w' : World} {A B M : Nat} {a b m : Int} (hb : Below w.heap.size w w') (h : FunAt w A B M a b m) : FunAt w' A B M a b m := by
  obtain ⟨h1, h2, h3⟩ := h.lt
  exact ⟨(hb.cell (p := ⟨A, 0, none⟩) h1).trans h.ca, (hb.cell (p := ⟨B, 0, none⟩) h2).trans h.cb, (hb.cell (p := ⟨M, 0, none⟩) h3).trans h.cm⟩

set_option maxHeartbeats 1000000 in
theorem functionOf_any (a b m : Int) (w : World) :
    Calls Try.prog 110 #[.int .i64 a, .int .i64 b, .int .i64 m] w fun e w' => ∃ A B M, e = .returned (.agg #[.int .i64 a, .int .i64 b, FnV A B M]) ∧ FunAt w' A B M a b m ∧ Below w.heap.size w w' := by
  go_enter Try.func110, Try.ntmps110
  go_wp2
  refine bodyPost_ret (v := .agg #[.int .i64 a, .int .i64 b, FnV w.heap.size (w.heap.size + 1) (w.heap.size + 2)]) (by simp [results, Try.results110, go_sem]) rfl ⟨_, _, _, rfl, ?_, ?_⟩
  · exact ⟨by simp [go_sem, World.cell?_alloc_past], by simp [go_sem, World.cell?_alloc_past], by simp [go_sem, World.cell?_alloc_past]⟩
  · exact ((((Below.refl _ _).alloc (Nat.le_refl _) _).alloc (by simp) _).alloc (by simp; omega) _).alloc (by simp; omega) _

set_option maxHeartbeats 1000000 in
theorem slot_any (A B M : Nat) (a b m k : Int) (w : World) (hF : FunAt w A B M a b m) (ha : 0 ≤ a) (ha' : a ≤ 30) (hb : 0 ≤ b) (hb' : b ≤ 30) (hm : 1 ≤ m) (hm' : m ≤ 31) (hk : 0 ≤ k) (hk' : k ≤ 30) :
    Calls Try.prog 116 #[.int .i64 k, .pointer (some ⟨A, 0, none⟩), .pointer (some ⟨B, 0, none⟩), .pointer (some ⟨M, 0, none⟩)] w fun e w' => e = .returned (.int .i64 (hs a b m k)) ∧ w = w' := by
  have h0 : 0 ≤ a * k := Int.mul_nonneg ha hk
  have h1 : a * k ≤ 30 * 30 := Int.mul_le_mul ha' hk' hk (by omega)
  have hne : (m == 0) = false := by simp; omega
  obtain ⟨c1, c2, c3⟩ := hF
  go_enter Try.func116, Try.ntmps116
  go_wp2
  go_ret
  exact ⟨rfl, rfl⟩

set_option maxRecDepth 100000 in
theorem field2 (x y v : Value) (A B M : Nat) (hv : v = FnV A B M) (w : World) : (Instr.field 95 (.agg #[x, y, v]) 2).run Try.prog w = .ok v w := by
  subst hv
  rfl

set_option maxHeartbeats 1000000 in
theorem implHashOf_any (a b m k : Int) (w : World) (_ha : In64 a) (_hb : In64 b) (_hm : In64 m) (_hk : In64 k) :
    Calls Try.prog 97 #[.int .i64 a, .int .i64 b, .int .i64 m, .int .i64 k] w fun e w' => e = .returned (.int .i64 (HO a b m k)) ∧ Below w.heap.size w w' := by
  by_cases g1 : VF a b m = true
  · obtain ⟨f1, f2, f3, f4, f5, f6⟩ := VF_iff.1 g1
    by_cases g2 : KR k = true
    · obtain ⟨k0, k1⟩ := KR_iff.1 g2
      go_enter Try.func97, Try.ntmps97
      go_wp2_with (first | (go_at_call 109; refine (validFunction_any _ _ _ _).mono ?_; rintro e w' ⟨rfl, rfl⟩) | (go_at_call 83; refine (isRest_any _ _).mono ?_; rintro e w' ⟨rfl, rfl⟩))
      refine (functionOf_any a b m w).mono ?_
      rintro e w1 ⟨A, B, M, rfl, hF, hb⟩
      have hfd := fun wx => field2 (.int .i64 a) (.int .i64 b) (FnV A B M) A B M rfl wx
      go_wp2_with fail
      refine (slot_any A B M a b m k w1 hF (by omega) f2 f3 f4 f5 f6 k0 k1).mono ?_
      rintro e w' ⟨rfl, rfl⟩
      go_wp2
      go_ret
      refine ⟨ret_int ?_, hb⟩
      unfold HO; rw [if_pos ⟨g1, g2⟩]
    · have g2' : KR k = false := by simpa using g2
      go_enter Try.func97, Try.ntmps97
      go_wp2_with (first | (go_at_call 109; refine (validFunction_any _ _ _ _).mono ?_; rintro e w' ⟨rfl, rfl⟩) | (go_at_call 83; refine (isRest_any _ _).mono ?_; rintro e w' ⟨rfl, rfl⟩))
      go_ret
      refine ⟨ret_int ?_, Below.refl _ _⟩
      unfold HO; rw [if_neg (fun h => g2 h.2)]
  · have g1' : VF a b m = false := by simpa using g1
    go_enter Try.func97, Try.ntmps97
    go_wp2_with (first | (go_at_call 109; refine (validFunction_any _ _ _ _).mono ?_; rintro e w' ⟨rfl, rfl⟩) | (go_at_call 83; refine (isRest_any _ _).mono ?_; rintro e w' ⟨rfl, rfl⟩))
    go_ret
    refine ⟨ret_int ?_, Below.refl _ _⟩
    unfold HO; rw [if_neg (fun h => g1 h.1)]
end Go.Proofs.Ytjkcahmbocjacaa
