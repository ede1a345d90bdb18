/-
  slices.Grow and slices.Concat of two slices of ints.
-/
import Derived.Test.YtjkcahmbocjacaaK8
namespace Go.Proofs.Ytjkcahmbocjacaa
open Go.RowKit

set_option maxRecDepth 100000 in
set_option maxHeartbeats 2000000 in
theorem growK_any (n : Nat) (w : World) (h1 : 1 ≤ n) (hn : n ≤ 2000000) :
    Calls Try.prog 114 #[.slice none 0 0, .int .i64 (n : Int)] w fun e w' => ∃ v G, e = .returned v ∧ v = .slice (some ⟨w.heap.size, 0, none⟩) 0 G ∧ Own w' w.heap.size v [] ∧ Below w.heap.size w w' := by
  obtain ⟨i0, hi, hz0, hz1, hz2⟩ := info_parts infoInt
  have hold : (Builtin.firstCells i0.size 0 (.slice none 0 0)).run Try.prog w.drew = .ok ([] : List Value).toArray w.drew := by
    rw [hz1]; simp [Builtin.firstCells, loadCells, loadCellsFrom]
  have hrz := fun ty => Lib.run_append_grow_zeros (P := Try.prog) w 36 3 ty 3 i0 (.int .i64 0) .i64 .i64 Try.underlying36 Try.underlying3 hi hz0 none 0 0 [] hold n (by omega) (by rw [hz1]; omega) (by omega) (by omega) (by rw [hz2]; omega) (by rw [hz2]; exact growslice_fits (by omega) (by omega))
  simp only [Nat.zero_add] at hrz
  have hGn := grownCap_ge w n 0 3
  have hGm := grownCap_le_maxLen w n 0 3 (by unfold maxLen; omega)
  obtain ⟨G, hG⟩ : ∃ G, G = grownCap w n 0 3 := ⟨_, rfl⟩
  rw [← hG] at hrz hGn hGm
  obtain ⟨CC, hCC⟩ : ∃ CC, CC = (([] : List Value).toArray ++ Builtin.zeroCells (Value.int IntKind.i64 0).cells n ++ Builtin.zeroCells (Value.int IntKind.i64 0).cells (G - n)) := ⟨_, rfl⟩
  have hCs : CC.size = G := by rw [hCC]; simp only [Array.size_append, size_zeroCells]; simp [Value.cells]; omega
  rw [← hCC] at hrz
  have hown : Own (w.drew.alloc (.cells CC 3)) w.heap.size (.slice (some ⟨w.heap.size, 0, none⟩) 0 G) [] :=
    ⟨rfl, .inr ⟨w.heap.size, G, CC, rfl, Nat.le_refl _, heap_alloc_new w.drew _, Nat.zero_le _, hGm, by omega, by simp⟩⟩
  have hB : Below w.heap.size w (w.drew.alloc (.cells CC 3)) := (Below.refl w.heap.size w).drew.alloc (Nat.le_refl _) _
  have hG63 : G ≤ 9223372036854775807 := hGm
  have g1 : ¬ (n : Int) < 0 := by omega
  have g2 : (n : Int) > 0 := by omega
  have HO := Lib.hid hown
  have HB := Lib.hid hB
  clear hold hG hCC hCs hown hB
  go_enter Try.func114, Try.ntmps114
  go_wp2_with (at_builtin; refine Lib.wpList_append_run _ rfl _ _ _ _ rfl _ _ rfl rfl _ _ (hrz _) ?_)
  go_ret
  exact ⟨_, rfl, ⟨G, rfl⟩, HO.out, HB.out⟩

set_option maxHeartbeats 8000000 in
theorem concat2_any (gs : Nat) (a1 : Option Addr) (l1 : List Int) (c1 : Nat) (a2 : Option Addr) (l2 : List Int) (c2 : Nat) (w : World) (hr1 : Reads w a1 l1) (hr2 : Reads w a2 l2) (h11 : 1 ≤ l1.length) (hl1 : l1.length ≤ 1000) (hl2 : l2.length ≤ 1000)
    (hc0 : w.cell? ⟨gs, 0, none⟩ = some (.slice a1 l1.length c1)) (hc1 : w.cell? ⟨gs, 1, none⟩ = some (.slice a2 l2.length c2)) :
    Calls Try.prog 108 #[.slice (some ⟨gs, 0, none⟩) 2 2] w fun e w' => ∃ v, e = .returned v ∧ Own w' w.heap.size v (l1 ++ l2) ∧ Below w.heap.size w w' := by
  have hgs := World.block_lt_of_cell? w _ hc0
  obtain ⟨N, hN⟩ : ∃ N, N = l1.length := ⟨_, rfl⟩
  obtain ⟨M, hM⟩ : ∃ M, M = l2.length := ⟨_, rfl⟩
  have e1 : IntKind.i64.wrap ((N : Int)) = (N : Int) := IntWalk.i64_in _ (by omega)
  have e2 : IntKind.i64.wrap ((N : Int) + (M : Int)) = ((N + M : Nat) : Int) := by rw [IntWalk.i64_in _ (by omega)]; rfl
  have CG := Lib.hid (growK_any (N + M) w (by omega) (by omega))
  obtain ⟨N1, hN1⟩ : ∃ N1, N1 = N + M := ⟨_, rfl⟩
  rw [← hN1] at CG e2
  rw [← hN] at hc0 h11 hl1
  rw [← hM] at hc1 hl2
  have HN := Lib.hid hN
  have HM := Lib.hid hM
  have hN1b : N1 ≤ 3000 := by omega
  clear hN hM hN1
  go_enter Try.func108, Try.ntmps108
  go_wp2
  go_loop [3, 11] (fun sv iv => (iv = .int .i64 0 ∧ sv = .int .i64 0) ∨ (iv = .int .i64 1 ∧ sv = .int .i64 N) ∨ (iv = .int .i64 2 ∧ sv = .int .i64 N1)) (fun _ iv => 2 - (intOf iv).toNat)
  case atStart => exact .inl ⟨rfl, rfl⟩
  case round =>
    rcases hrel with ⟨rfl, rfl⟩ | ⟨rfl, rfl⟩ | ⟨rfl, rfl⟩
    · go_wp2
      go_round
      case rel => exact .inr (.inl ⟨rfl, rfl⟩)
      case measure => simp [intOf]
    · go_wp2
      go_round
      case rel => exact .inr (.inr ⟨rfl, rfl⟩)
      case measure => simp [intOf]
    · go_wp2_with fail
      refine CG.out.mono ?_
      rintro e w1 ⟨v, G, rfl, rfl, ho, b1⟩
      have c0 := (b1.cell (p := ⟨gs, 0, none⟩) hgs).trans hc0
      have c1' := (b1.cell (p := ⟨gs, 1, none⟩) hgs).trans hc1
      go_wp2_with fail
      go_loopw [6, 27] (fun vv iv wr => ∃ L, Own wr w.heap.size vv L ∧ Below w.heap.size w wr ∧ ((iv = .int .i64 0 ∧ Hid (L = [])) ∨ (iv = .int .i64 1 ∧ Hid (L = l1)) ∨ (iv = .int .i64 2 ∧ Hid (L = l1 ++ l2)))) (fun _ iv _ => 2 - (intOf iv).toNat)
      case atStart => exact ⟨[], ho, b1, .inl ⟨rfl, rfl⟩⟩
      case round =>
        clear ho b1 c0 c1'
        obtain ⟨L, ho, hB, hcase⟩ := hrel
        have c0 := (hB.cell (p := ⟨gs, 0, none⟩) hgs).trans hc0
        have c1' := (hB.cell (p := ⟨gs, 1, none⟩) hgs).trans hc1
        obtain ⟨a3, c3, e3, _, _, _, _⟩ := ho.form
        subst e3
        obtain ⟨K, hK⟩ : ∃ K, K = L.length := ⟨_, rfl⟩
        rw [← hK] at ho
        rw [← hK]
        rcases hcase with ⟨rfl, hL⟩ | ⟨rfl, hL⟩ | ⟨rfl, hL⟩
        · have hKs : L.length < 2000000 := by rw [hL.out]; simp
          have HKK := Lib.hid hK
          clear hK
          go_wp2_with (at_builtin; refine push_allZ rfl _ _ rfl w.heap.size (.slice a3 K c3) L rfl ho hB.size a1 l1 N c1 HN.out.symm rfl (hr1.below hB) (by omega) hKs ?_)
          intro v2 w2 ho2 g2
          have b2 := Below.grownB hB ho g2 hB.size (Nat.le_refl _)
          have hLL : L ++ l1 = l1 := by rw [hL.out]; rfl
          have HLL := Lib.hid hLL
          clear hLL
          go_wp2
          go_roundw
          case rel => exact ⟨L ++ l1, ho2, b2, .inr (.inl ⟨rfl, HLL.out⟩)⟩
          case measure => simp [intOf]
        · have hKs : L.length < 2000000 := by rw [hL.out, ← HN.out]; omega
          have HKK := Lib.hid hK
          clear hK
          go_wp2_with (at_builtin; refine push_allZ rfl _ _ rfl w.heap.size (.slice a3 K c3) L rfl ho hB.size a2 l2 M c2 HM.out.symm rfl (hr2.below hB) (by omega) hKs ?_)
          intro v2 w2 ho2 g2
          have b2 := Below.grownB hB ho g2 hB.size (Nat.le_refl _)
          have hLL : L ++ l2 = l1 ++ l2 := by rw [hL.out]
          have HLL := Lib.hid hLL
          clear hLL
          go_wp2
          go_roundw
          case rel => exact ⟨L ++ l2, ho2, b2, .inr (.inr ⟨rfl, HLL.out⟩)⟩
          case measure => simp [intOf]
        · rw [hL.out] at ho
          clear hK
          go_wp2
          go_ret
          exact ⟨_, rfl, ho, hB⟩
end Go.Proofs.Ytjkcahmbocjacaa
