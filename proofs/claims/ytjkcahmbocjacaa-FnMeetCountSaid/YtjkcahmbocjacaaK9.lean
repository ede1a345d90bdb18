/-
  spec.MeetCount.
-/
import Derived.Test.YtjkcahmbocjacaaK8
namespace Go.Proofs.Ytjkcahmbocjacaa
open Go.RowKit

theorem MC_no {n a b : Int} (h : ¬ MCo n a b = true) : MC1 n a b = -1 ∧ MC2 n a b = -1 := by
  unfold MC1 MC2
  rw [if_neg h, if_neg h]; exact ⟨rfl, rfl⟩
set_option maxHeartbeats 8000000 in
theorem specMeetCount_any (n a b : Int) (w : World) (_hn : In64 n) (_ha : In64 a) (_hb : In64 b) :
    Calls Try.prog 54 #[.int .i64 n, .int .i64 a, .int .i64 b] w fun e w' => e = .returned (.tuple #[.int .i64 (MC1 n a b), .int .i64 (MC2 n a b)]) ∧ Below w.heap.size w w' := by
  have c1 := fun wx => inRange_any n 1 5 wx
  by_cases g1 : inR n 1 5 = true
  rotate_left
  · obtain ⟨e1, e2⟩ := MC_no (n := n) (a := a) (b := b) (fun h => g1 (inR_iff.2 (by have := MCo_iff.1 h; omega)))
    rw [e1, e2]
    rw [show inR n 1 5 = false by simpa using g1] at c1
    have C1 := Lib.hid c1
    clear c1 g1 e1 e2
    go_enter Try.func54, Try.ntmps54
    go_wp2_with fail
    refine (C1.out _).mono ?_
    rintro e w' ⟨rfl, rfl⟩
    go_wp2
    go_ret2
    exact ⟨rfl, Below.refl _ _⟩
  have g1' := inR_iff.1 g1
  rw [g1] at c1
  obtain ⟨N, rfl⟩ : ∃ N : Nat, n = N := ⟨n.toNat, by omega⟩
  have cp := fun wx => power_any N wx (by omega)
  have hp5 : (2 ^ N : Nat) ≤ 2 ^ 5 := Nat.pow_le_pow_right (by omega) (by omega)
  obtain ⟨T, hT⟩ : ∃ T, T = 2 ^ N := ⟨_, rfl⟩
  rw [← hT] at cp hp5
  have hco : MCo (N : Int) a b = true ↔ (1 ≤ (N : Int) ∧ (N : Int) ≤ 5) ∧ (1 ≤ a ∧ a < (T : Int)) ∧ (1 ≤ b ∧ b < (T : Int)) := by
    rw [MCo_iff, Int.toNat_natCast, ← hT]
  clear hT
  have c2 := fun wx => inRange_any a 1 ((T : Int) - 1) wx
  have c3 := fun wx => inRange_any b 1 ((T : Int) - 1) wx
  have C1 := Lib.hid c1
  have CP := Lib.hid cp
  clear c1 cp g1
  by_cases g2 : inR a 1 ((T : Int) - 1) = true
  rotate_left
  · obtain ⟨e1, e2⟩ := MC_no (n := (N : Int)) (a := a) (b := b) (fun h => g2 (inR_iff.2 (by have := hco.1 h; omega)))
    rw [e1, e2]
    rw [show inR a 1 ((T : Int) - 1) = false by simpa using g2] at c2
    have C2 := Lib.hid c2
    clear c2 c3 g2 e1 e2 hco
    go_enter Try.func54, Try.ntmps54
    go_wp2_with fail
    refine (C1.out _).mono ?_
    rintro e w' ⟨rfl, rfl⟩
    go_wp2_with fail
    refine (CP.out _).mono ?_
    rintro e w' ⟨rfl, rfl⟩
    go_wp2_with fail
    refine (C2.out _).mono ?_
    rintro e w' ⟨rfl, rfl⟩
    go_wp2
    go_ret2
    exact ⟨rfl, Below.refl _ _⟩
  have g2' := inR_iff.1 g2
  rw [g2] at c2
  have C2 := Lib.hid c2
  clear c2 g2
  by_cases g3 : inR b 1 ((T : Int) - 1) = true
  rotate_left
  · obtain ⟨e1, e2⟩ := MC_no (n := (N : Int)) (a := a) (b := b) (fun h => g3 (inR_iff.2 (by have := hco.1 h; omega)))
    rw [e1, e2]
    rw [show inR b 1 ((T : Int) - 1) = false by simpa using g3] at c3
    have C3 := Lib.hid c3
    clear c3 g3 e1 e2 hco
    go_enter Try.func54, Try.ntmps54
    go_wp2_with fail
    refine (C1.out _).mono ?_
    rintro e w' ⟨rfl, rfl⟩
    go_wp2_with fail
    refine (CP.out _).mono ?_
    rintro e w' ⟨rfl, rfl⟩
    go_wp2_with fail
    refine (C2.out _).mono ?_
    rintro e w' ⟨rfl, rfl⟩
    go_wp2_with fail
    refine (CP.out _).mono ?_
    rintro e w' ⟨rfl, rfl⟩
    go_wp2_with fail
    refine (C3.out _).mono ?_
    rintro e w' ⟨rfl, rfl⟩
    go_wp2
    go_ret2
    exact ⟨rfl, Below.refl _ _⟩
  have g3' := inR_iff.1 g3
  rw [g3] at c3
  have C3 := Lib.hid c3
  have hok := hco.2 ⟨g1', ⟨g2'.1, by omega⟩, g3'.1, by omega⟩
  clear c3 g3 hco
  obtain ⟨A, rfl⟩ : ∃ A : Nat, a = A := ⟨a.toNat, by omega⟩
  obtain ⟨B, rfl⟩ : ∃ B : Nat, b = B := ⟨b.toNat, by omega⟩
  have e1 : MC1 (N : Int) (A : Int) (B : Int) = ((mf N A B N []).1 : Int) := by unfold MC1; rw [if_pos hok]; rfl
  have e2 : MC2 (N : Int) (A : Int) (B : Int) = ((mf N A B N []).2 : Int) := by unfold MC2; rw [if_pos hok]; rfl
  rw [e1, e2]
  have hm := meetFrom_any N A B (by omega) (by omega) (by omega) N (some ⟨w.heap.size, 0, none⟩) [] 0 (w.alloc (.cells #[] 3)) (by simp) (.inl rfl) (by simp) (by simp)
  rw [show ([] : List Int).length = 0 from rfl] at hm
  have hb := (Below.refl w.heap.size w).alloc (Nat.le_refl _) (.cells #[] 3)
  obtain ⟨P, hP⟩ : ∃ P, P = (mf N A B N []).1 := ⟨_, rfl⟩
  obtain ⟨Q, hQ⟩ : ∃ Q, Q = (mf N A B N []).2 := ⟨_, rfl⟩
  rw [← hP, ← hQ] at hm ⊢
  have HM := Lib.hid hm
  clear hm hP hQ e1 e2 hok
  go_enter Try.func54, Try.ntmps54
  go_wp2_with fail
  refine (C1.out _).mono ?_
  rintro e w' ⟨rfl, rfl⟩
  go_wp2_with fail
  refine (CP.out _).mono ?_
  rintro e w' ⟨rfl, rfl⟩
  go_wp2_with fail
  refine (C2.out _).mono ?_
  rintro e w' ⟨rfl, rfl⟩
  go_wp2_with fail
  refine (CP.out _).mono ?_
  rintro e w' ⟨rfl, rfl⟩
  go_wp2_with fail
  refine (C3.out _).mono ?_
  rintro e w' ⟨rfl, rfl⟩
  go_wp2_with fail
  refine HM.out.mono ?_
  rintro e w2 ⟨rfl, b2⟩
  have B2 := hb.trans (b2.mono hb.size)
  go_wp2
  go_ret2
  exact ⟨rfl, B2⟩
end Go.Proofs.Ytjkcahmbocjacaa
