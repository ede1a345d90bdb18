/-
  impl.LineOf, LineMoves.
-/
import Derived.Test.YtoaiaindcmihjaaO7
import Derived.Test.YtoaiaindcmihjaaOSl
namespace Go.Proofs.Ytoaiaindcmihjaa
open Go.RowKit

theorem bitLen_fin : ∀ c : Fin 41, 1 ≤ c.val → Go.Lib.bitLen c.val = Nat.log2 c.val + 1 := by decide +kernel
theorem bitLen_lvc {c : Nat} (h1 : 1 ≤ c) (h2 : c ≤ 40) : Go.Lib.bitLen c = lvc c + 1 := bitLen_fin ⟨c, by omega⟩ h1
theorem lvc_five {c : Nat} (h1 : 1 ≤ c) (h2 : c ≤ 40) : lvc c ≤ 5 := by
  have h := lvc_le h1
  have : 2 ^ lvc c < 2 ^ 6 := by omega
  have := (Nat.pow_lt_pow_iff_right (a := 2) (by omega)).1 this
  omega
set_option maxHeartbeats 4000000 in
set_option maxRecDepth 100000 in
theorem implLineOf_q (c x : Int) (w : World) (_hc : In64 c) (_hx : In64 x) : Calls Try.prog 24 #[.int .i64 c, .int .i64 x] w fun e w' => e = .returned (.int .i64 (LNO c x)) ∧ ∃ n, w' = w.drewN n := by
  have c1 := fun wx => isLine_any c wx
  have c2 := fun wx => isName_any x wx
  by_cases h1 : 1 ≤ c ∧ c ≤ 40
  · rw [decide_eq_true h1] at c1
    have D1 := Lib.hid c1
    clear c1
    by_cases h2 : 0 ≤ x ∧ x ≤ 63
    · rw [decide_eq_true h2] at c2
      have D2 := Lib.hid c2
      clear c2
      have hR : LNO c x = (lno c.toNat x.toNat : Nat) := LNO_some ⟨h1, h2⟩
      obtain ⟨C, rfl⟩ : ∃ C : Nat, c = C := ⟨c.toNat, by omega⟩
      obtain ⟨X, rfl⟩ : ∃ X : Nat, x = X := ⟨x.toNat, by omega⟩
      rw [Int.toNat_natCast, Int.toNat_natCast] at hR
      rw [hR]
      have c3 := fun wx => bitsLen_any C wx (by omega)
      rw [bitLen_lvc (by omega) (by omega)] at c3
      have c4 := fun wx => endOf_any (lvc C + 1) X wx (by have := lvc_five (c := C) (by omega) (by omega); omega) (by omega)
      have c5 := fun wx => endOf_any (lvc C) X wx (by have := lvc_five (c := C) (by omega) (by omega); omega) (by omega)
      have hl5 := lvc_five (c := C) (by omega) (by omega)
      have hl : lno C X = if X % 2 ^ (lvc C + 1) < C then X % 2 ^ (lvc C + 1) else X % 2 ^ lvc C := rfl
      rw [hl]
      obtain ⟨L, hL⟩ : ∃ L, L = lvc C := ⟨_, rfl⟩
      rw [← hL] at c3 c4 c5 hl5 ⊢
      have hq1 := Nat.mod_le X (2 ^ (L + 1))
      have hq2 := Nat.mod_le X (2 ^ L)
      obtain ⟨q1, hq⟩ : ∃ q1, q1 = X % 2 ^ (L + 1) := ⟨_, rfl⟩
      obtain ⟨q2, hqq⟩ : ∃ q2, q2 = X % 2 ^ L := ⟨_, rfl⟩
      rw [← hq] at c4 hq1 ⊢
      rw [← hqq] at c5 hq2 ⊢
      obtain ⟨M, hM⟩ : ∃ M, M = L + 1 := ⟨_, rfl⟩
      rw [← hM] at c3 c4
      rw [show (L : Int) = (M : Int) - 1 by omega] at c5
      have hM5 : 1 ≤ M ∧ M ≤ 6 := by omega
      obtain ⟨hMa, hMb⟩ := hM5
      clear hM
      have D3 := Lib.hid c3
      have D4 := Lib.hid c4
      have D5 := Lib.hid c5
      clear hl hL hq hqq c3 c4 c5 hR hl5
      by_cases hlt : q1 < C
      · have g1 : ¬ ((q1 : Int) ≥ (C : Int)) := by omega
        rw [if_pos hlt]
        go_enter Try.func24, Try.ntmps24
        go_wp2_with (first
          | (go_at_call 51; refine (D1.out _).mono ?_; rintro e w' ⟨rfl, rfl⟩)
          | (go_at_call 52; refine (D2.out _).mono ?_; rintro e w' ⟨rfl, rfl⟩)
          | (go_at_call 53; refine (D3.out _).mono ?_; rintro e w' ⟨rfl, rfl⟩)
          | (go_at_call 47; refine (D4.out _).mono ?_; rintro e w' ⟨rfl, rfl⟩))
        go_ret
        exact ⟨rfl, 0, rfl⟩
      · have g1 : (q1 : Int) ≥ (C : Int) := by omega
        rw [if_neg hlt]
        go_enter Try.func24, Try.ntmps24
        go_wp2_with (first
          | (go_at_call 51; refine (D1.out _).mono ?_; rintro e w' ⟨rfl, rfl⟩)
          | (go_at_call 52; refine (D2.out _).mono ?_; rintro e w' ⟨rfl, rfl⟩)
          | (go_at_call 53; refine (D3.out _).mono ?_; rintro e w' ⟨rfl, rfl⟩)
          | fail)
        refine (D4.out _).mono ?_
        rintro e w' ⟨rfl, rfl⟩
        go_wp2_with fail
        refine (D5.out _).mono ?_
        rintro e w' ⟨rfl, rfl⟩
        go_wp2
        go_ret
        exact ⟨rfl, 0, rfl⟩
    · rw [decide_eq_false h2] at c2
      have D2 := Lib.hid c2
      clear c2
      rw [LNO_none (fun h => h2 h.2)]
      go_enter Try.func24, Try.ntmps24
      go_wp2_with (first
        | (go_at_call 51; refine (D1.out _).mono ?_; rintro e w' ⟨rfl, rfl⟩)
        | (go_at_call 52; refine (D2.out _).mono ?_; rintro e w' ⟨rfl, rfl⟩))
      go_ret
      exact ⟨rfl, 0, rfl⟩
  · rw [decide_eq_false h1] at c1
    have D1 := Lib.hid c1
    clear c1
    rw [LNO_none (fun h => h1 h.1)]
    go_enter Try.func24, Try.ntmps24
    go_wp2_with (first
      | (go_at_call 51; refine (D1.out _).mono ?_; rintro e w' ⟨rfl, rfl⟩))
    go_ret
    exact ⟨rfl, 0, rfl⟩
theorem implLineOf_e (c x : Int) (w : World) (hc : In64 c) (hx : In64 x) : Calls Try.prog 24 #[.int .i64 c, .int .i64 x] w fun e w' => e = .returned (.int .i64 (LNO c x)) ∧ Below w.heap.size w w' :=
  (implLineOf_q c x w hc hx).mono (by rintro e w' ⟨rfl, n, rfl⟩; exact ⟨rfl, below_drewN (Below.refl _ _) n⟩)
end Go.Proofs.Ytoaiaindcmihjaa
