/-
  spec.anOrder.
-/
import Derived.Test.YtjkcahmbocjacaaSA
import Derived.Test.YtjkcahmbocjacaaD0
namespace Go.Proofs.Ytjkcahmbocjacaa
open Go.RowKit

theorem ord_in {l : List Int} {k : Nat} {x : Int} {P : Int → Prop} (hl : ∀ y ∈ l, P y) (hx : P x) : ∀ y ∈ l.take k ++ [x] ++ l.drop k, P y := by
  intro y hy
  rw [List.mem_append, List.mem_append] at hy
  rcases hy with (h | h) | h
  · exact hl y (List.mem_of_mem_take h)
  · rw [List.mem_singleton] at h; subst h; exact hx
  · exact hl y (List.mem_of_mem_drop h)
/-- What one round of anOrder leaves. -/
def AnO (w w' : World) (R : List Int) (v : Value) : Prop := Own w' w.heap.size v R ∧ Below w.heap.size w w'

set_option maxHeartbeats 8000000 in
theorem anOrder_any (g p n : Nat) (w : World) (hR : Rdr w g p) (hp : p ≤ 800000) (hn : n ≤ 5) :
    Calls Try.prog 85 #[.pointer (some ⟨g, 0, none⟩), .int .i64 (n : Int)] w fun e w' => ∃ v l, e = .returned v ∧ Own w' w.heap.size v l ∧ Hid (l.length = n) ∧ Hid (∀ x ∈ l, 0 ≤ x ∧ x ≤ 5) ∧ Rdr w' g (p + n) ∧ w.grownBy w' (some g) := by
  have zg := hR.lt
  have ho1 := Own.lit0 w w.heap.size (Nat.le_refl _)
  have hR1 := hR.below ((Below.refl w.heap.size w).alloc (Nat.le_refl _) (.cells #[] 3))
  have hg1 := World.grownBy_alloc w (.cells #[] 3) (some g)
  clear hR
  go_enter Try.func85, Try.ntmps85
  go_wp2
  go_loopw [5, 6] (fun v iv wr => ∃ (i G C : Nat) (l : List Int), i ≤ n ∧ iv = .int .i64 (i : Int) ∧ v = .slice (some ⟨G, 0, none⟩) i C ∧ Hid (∀ x ∈ l, 0 ≤ x ∧ x ≤ 5) ∧ Own wr w.heap.size (.slice (some ⟨G, 0, none⟩) i C) l ∧ Rdr wr g (p + i) ∧ w.grownBy wr (some g)) (fun _ iv _ => n - (intOf iv).toNat)
  case atStart => exact ⟨0, w.heap.size, 0, [], by omega, rfl, rfl, (by intro x hx; cases hx), ho1, hR1, hg1⟩
  case round =>
    clear ho1 hR1 hg1
    rename World => wo
    obtain ⟨i, G, C, l, hi, rfl, rfl, hm, ho, hR, hg⟩ := hrel
    have hz := hg.size
    by_cases hlt : i < n
    · have hi1 : (i : Int) < (n : Int) := by omega
      go_wp2_with fail
      refine (pick_any g (p + i) _ _ hR (by omega) (by omega)).mono ?_
      rintro e w1 ⟨kk, rfl, hk, hR1, hg1⟩
      have hk := hk.1 (by omega)
      obtain ⟨k, rfl⟩ : ∃ k : Nat, kk = k := ⟨kk.toNat, by omega⟩
      have ho1 := ho.kept hg1 (ho.ne_g zg)
      have hgo := grownBy_trans hg hg1
      have hz1 := hgo.size
      obtain ⟨hl, hic, hcm, hrd⟩ := ho1.facts
      unfold maxLen at hcm
      clear ho hR hg hg1
      have hx64 : IntKind.i64.wrap (i : Int) = (i : Int) := IntWalk.i64_in _ (by omega)
      have hki : k ≤ i := by omega
      have ki1 : (k : Int) ≤ (C : Int) := by omega
      have ki2 : (k : Int) ≤ (i : Int) := by omega
      have ht := hrd.take' k
      have hd := hrd.drop' k
      rw [Nat.zero_add] at hd
      have HTL : Hid ((l.take k).length = k) := by show (l.take k).length = k; rw [List.length_take]; omega
      have HDL : Hid ((l.drop k).length = i - k) := by show (l.drop k).length = i - k; rw [List.length_drop]; omega
      have hmx := ord_in (k := k) (x := (i : Int)) hm.out (by omega)
      have HMX : Hid (∀ x ∈ l.take k ++ [(i : Int)] ++ l.drop k, 0 ≤ x ∧ x ≤ 5) := hmx
      have HLL : Hid ((l.take k ++ [(i : Int)] ++ l.drop k).length = i + 1) := by
        show (l.take k ++ [(i : Int)] ++ l.drop k).length = i + 1
        rw [List.length_append, List.length_append, HTL.out, HDL.out, List.length_singleton]; omega
      have oEA := ((Own.lit0 w1 w1.heap.size (Nat.le_refl _)).below ((Below.refl _ _).alloc (Nat.le_refl _) (.cells #[.int .i64 (i : Int)] 3))).below (Below.refl _ _).drew
      have oXA := (Own.lit (w1.alloc (.cells #[] 3)) w1.heap.size (by simp) (i : Int)).below (Below.refl _ _).drew
      have bA := (((Below.refl w1.heap.size w1).alloc (Nat.le_refl _) (.cells #[] 3)).alloc (by simp) (.cells #[.int .i64 (i : Int)] 3)).drew
      have oXB := ((Own.lit w1 w1.heap.size (Nat.le_refl _) (i : Int)).below ((Below.refl _ _).alloc (Nat.le_refl _) (.cells #[] 3))).below (Below.refl _ _).drew
      have oEB := (Own.lit0 (w1.alloc (.cells #[.int .i64 (i : Int)] 3)) w1.heap.size (by simp)).below (Below.refl _ _).drew
      have bB := (((Below.refl w1.heap.size w1).alloc (Nat.le_refl _) (.cells #[.int .i64 (i : Int)] 3)).alloc (by simp) (.cells #[] 3)).drew
      have oEC := (Own.lit0 w1 w1.heap.size (Nat.le_refl _)).below (Below.refl _ _).drew
      have bC := ((Below.refl w1.heap.size w1).alloc (Nat.le_refl _) (.cells #[] 3)).drew
      simp only [World.size_alloc] at oXA oEB
      have hk7 : k < 2000000 := by omega
      clear hmx hrd hm
      by_cases hjc : C = k
      · have hik : i = k := by omega
        have HDE : Hid (l.drop k = []) := List.drop_eq_nil_of_le (by have := hl; omega)
        subst hjc
        subst hik
        clear ki1 ki2 hd HDL hki hic
        go_wp2_with fail
        go_region_law (first
          | (refine step_all rfl (.tmp 19) (.tmp 22) rfl w1.heap.size (.slice (some ⟨w1.heap.size, 0, none⟩) 0 0) [] rfl oEA bA.size (some ⟨G, 0, none⟩) (l.take i) _ _ HTL.out rfl (ht.below bA) hk7 (by simp) ?_; intro v1 wA o1 g1; have oX := oXA.kept g1 (.inr (by simp [Value.ownBlock])); have B1 := bA.grown g1 bA.size (fun q hq => by simp [Value.ownBlock] at hq; omega))
          | (refine step_all rfl (.tmp 19) (.tmp 22) rfl w1.heap.size (.slice (some ⟨w1.heap.size + 1, 0, none⟩) 0 0) [] rfl oEB bB.size (some ⟨G, 0, none⟩) (l.take i) _ _ HTL.out rfl (ht.below bB) hk7 (by simp) ?_; intro v1 wA o1 g1; have oX := oXB.kept g1 (.inr (by simp [Value.ownBlock])); have B1 := bB.grown g1 bB.size (fun q hq => by simp [Value.ownBlock] at hq; omega))
          | (refine step_all rfl (.tmp 19) (.tmp 22) rfl w1.heap.size (.slice (some ⟨w1.heap.size, 0, none⟩) 0 0) [] rfl oEC bC.size (some ⟨G, 0, none⟩) (l.take i) _ _ HTL.out rfl (ht.below bC) hk7 (by simp) ?_; intro v1 wA o1 g1; have B1 := bC.grown g1 bC.size (fun q hq => by simp [Value.ownBlock] at hq; omega))
          | (refine step_all rfl (.tmp 23) (.tmp 25) rfl w1.heap.size v1 (l.take i) rfl o1 B1.size _ [(i : Int)] 1 1 rfl rfl oX.reads (by omega) (by have := HTL.out; omega) ?_; intro v2 wB o2 g2; have B2 := Below.grownB B1 o1 g2 B1.size (Nat.le_refl _))
          | (refine step_all rfl (.tmp 23) (.tmp 25) rfl w1.heap.size v1 (l.take i) rfl (o1.below ((Below.refl _ _).alloc (Nat.le_refl _) _)) (B1.alloc B1.size _).size _ [(i : Int)] 1 1 rfl rfl (Own.lit wA w1.heap.size B1.size (i : Int)).reads (by omega) (by have := HTL.out; omega) ?_; intro v2 wB o2 g2; have B2 := Below.grownB (B1.alloc B1.size _) (o1.below ((Below.refl _ _).alloc (Nat.le_refl _) _)) g2 (B1.alloc B1.size _).size (Nat.le_refl _))
          | (refine step_all rfl (.tmp 26) (.tmp 29) rfl w1.heap.size v2 (l.take i ++ [(i : Int)]) rfl o2 B2.size _ [] 0 _ rfl rfl (Reads.nil _ _) (by omega) (by rw [List.length_append, HTL.out, List.length_singleton]; omega) ?_; intro v3 wC o3 g3; have B3 := Below.grownB B2 o2 g3 B2.size (Nat.le_refl _)))
        all_goals
          replace o3 : Own wC w1.heap.size v3 (l.take i ++ [(i : Int)] ++ l.drop i) := by rw [HDE.out]; exact o3
          obtain ⟨G3, C3, rfl, hT3⟩ := o3.tab (by rw [HLL.out]; omega)
          rw [HLL.out] at hT3 ⊢
          have o3' := hT3.own.mono hz1
          have R3 := hR1.below (B3.mono (Nat.le_refl _))
          have g3' := grownBy_belowS hgo B3
          clear hT3 o3 B3 g3 B2 o2 g2 B1 o1 g1 ht
          go_wp2
          go_roundw
          case rel => exact ⟨i + 1, G3, C3, _, by omega, by go_num, rfl, HMX, o3', R3, g3'⟩
          case measure => simp [intOf]; omega
      · clear hl
        go_wp2_with fail
        go_region_law (first
          | (refine step_all rfl (.tmp 19) (.tmp 22) rfl w1.heap.size (.slice (some ⟨w1.heap.size, 0, none⟩) 0 0) [] rfl oEA bA.size (some ⟨G, 0, none⟩) (l.take k) k C HTL.out rfl (ht.below bA) hk7 (by simp) ?_; intro v1 wA o1 g1; have oX := oXA.kept g1 (.inr (by simp [Value.ownBlock])); have B1 := bA.grown g1 bA.size (fun q hq => by simp [Value.ownBlock] at hq; omega))
          | (refine step_all rfl (.tmp 19) (.tmp 22) rfl w1.heap.size (.slice (some ⟨w1.heap.size + 1, 0, none⟩) 0 0) [] rfl oEB bB.size (some ⟨G, 0, none⟩) (l.take k) k C HTL.out rfl (ht.below bB) hk7 (by simp) ?_; intro v1 wA o1 g1; have oX := oXB.kept g1 (.inr (by simp [Value.ownBlock])); have B1 := bB.grown g1 bB.size (fun q hq => by simp [Value.ownBlock] at hq; omega))
          | (refine step_all rfl (.tmp 19) (.tmp 22) rfl w1.heap.size (.slice (some ⟨w1.heap.size, 0, none⟩) 0 0) [] rfl oEC bC.size (some ⟨G, 0, none⟩) (l.take k) k C HTL.out rfl (ht.below bC) hk7 (by simp) ?_; intro v1 wA o1 g1; have B1 := bC.grown g1 bC.size (fun q hq => by simp [Value.ownBlock] at hq; omega))
          | (refine step_all rfl (.tmp 23) (.tmp 25) rfl w1.heap.size v1 (l.take k) rfl o1 B1.size _ [(i : Int)] 1 1 rfl rfl oX.reads (by omega) (by have := HTL.out; omega) ?_; intro v2 wB o2 g2; have B2 := Below.grownB B1 o1 g2 B1.size (Nat.le_refl _))
          | (refine step_all rfl (.tmp 23) (.tmp 25) rfl w1.heap.size v1 (l.take k) rfl (o1.below ((Below.refl _ _).alloc (Nat.le_refl _) _)) (B1.alloc B1.size _).size _ [(i : Int)] 1 1 rfl rfl (Own.lit wA w1.heap.size B1.size (i : Int)).reads (by omega) (by have := HTL.out; omega) ?_; intro v2 wB o2 g2; have B2 := Below.grownB (B1.alloc B1.size _) (o1.below ((Below.refl _ _).alloc (Nat.le_refl _) _)) g2 (B1.alloc B1.size _).size (Nat.le_refl _))
          | (refine step_all rfl (.tmp 26) (.tmp 29) rfl w1.heap.size v2 (l.take k ++ [(i : Int)]) rfl o2 B2.size (some ⟨G, k, none⟩) (l.drop k) (i - k) (C - k) HDL.out rfl (hd.below B2) (by omega) (by rw [List.length_append, HTL.out, List.length_singleton]; omega) ?_; intro v3 wC o3 g3; have B3 := Below.grownB B2 o2 g3 B2.size (Nat.le_refl _)))
        all_goals
          obtain ⟨G3, C3, rfl, hT3⟩ := o3.tab (by rw [HLL.out]; omega)
          rw [HLL.out] at hT3 ⊢
          have o3' := hT3.own.mono hz1
          have R3 := hR1.below (B3.mono (Nat.le_refl _))
          have g3' := grownBy_belowS hgo B3
          clear hT3 o3 B3 g3 B2 o2 g2 B1 o1 g1 ht hd
          go_wp2
          go_roundw
          case rel => exact ⟨i + 1, G3, C3, _, by omega, by go_num, rfl, HMX, o3', R3, g3'⟩
          case measure => simp [intOf]; omega
    · obtain rfl : i = n := by omega
      have hl := ho.facts.1
      go_wp2
      go_ret
      exact ⟨_, l, rfl, ho, hl, hm, hR, hg⟩
end Go.Proofs.Ytjkcahmbocjacaa
