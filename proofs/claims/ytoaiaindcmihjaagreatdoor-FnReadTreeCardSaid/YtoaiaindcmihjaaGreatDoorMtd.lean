
import Derived.Test.YtoaiaindcmihjaaGreatDoorMtb
import Derived.Test.YtoaiaindcmihjaaGreatDoorMtc
import Derived.Test.YtoaiaindcmihjaaGreatDoorMta
import Derived.Laws.BitsAllLaws
import Derived.Deep.LoopGhost
/-
  laws.sorted.
-/
namespace Go.Proofs.YtoaiaindcmihjaaGreatDoor
open Go.RowKit

set_option maxHeartbeats 16000000 in
theorem sorted_any (a : Option Addr) (l : List Int) (cap : Nat) (w : World) (hr : Reads w a l) (hl : l.length ≤ 1000000) :
    Calls Tryz.prog 14 #[.slice a l.length cap] w fun e w' => ∃ v, e = .returned v ∧ Own w' w.heap.size v (srt l) ∧ Below w.heap.size w w' := by
  have ho1 := Own.lit0 w w.heap.size (Nat.le_refl _)
  have hB1 := (Below.refl w.heap.size w).alloc (Nat.le_refl _) (.cells #[] 3)
  obtain ⟨M, hM⟩ : ∃ M, M = l.length := ⟨_, rfl⟩
  have HM := Lib.hid hM
  rw [← hM] at hl ⊢
  clear hM
  go_enter Tryz.func14, Tryz.ntmps14
  go_wp2
  go_loopw [3, 4] (fun v iv wr => ∃ (i G C : Nat) (R : List Int), i ≤ M ∧ iv = .int .i64 (i : Int) ∧ v = .slice (some ⟨G, 0, none⟩) i C ∧ Hid (SOf l i R) ∧ Own wr w.heap.size (.slice (some ⟨G, 0, none⟩) i C) R ∧ Below w.heap.size w wr) (fun _ iv _ => M - (intOf iv).toNat)
  case atStart => exact ⟨0, w.heap.size, 0, [], by omega, rfl, rfl, SOf.zero l, ho1, hB1⟩
  case round =>
    clear ho1 hB1
    rename World => wo
    obtain ⟨i, G, C, R, hi, rfl, rfl, hs, ho, hB⟩ := hrel
    have hz := hB.size
    by_cases hlt : i < M
    · have hi1 : (i : Int) < (M : Int) := by omega
      obtain ⟨b, off, y, rfl, hb, hc0, hy⟩ := hr.get (k := i) (by have := HM.out; omega)
      have hcell : wo.cell? ⟨b, off + i, none⟩ = some (.int .i64 y) := (hB.cell (by exact hb)).trans hc0
      have hbw : b < wo.heap.size := by omega
      clear hc0
      have HO := Lib.hid ho
      clear ho
      go_wp2
      go_loopw [5] (fun kv wr => ∃ k m : Nat, k ≤ i ∧ kv = .int .i64 (k : Int) ∧ Hid (∀ j, j < k → R.getD j 0 ≤ y) ∧ wr = wo.drewN m) (fun kv _ => i - (intOf kv).toNat)
      case atStart => exact ⟨0, 0, by omega, rfl, (fun j hj => by omega), rfl⟩
      case round =>
        obtain ⟨k, m, hk, rfl, hjs, rfl⟩ := hrel
        obtain ⟨hRl, hic, hcm, hrd⟩ := HO.out.facts
        unfold maxLen at hcm
        by_cases hki : k < i
        · have hki1 : (k : Int) < (i : Int) := by omega
          obtain ⟨b2, off2, z, eG, _, hcz, hzz⟩ := hrd.get (k := k) (by omega)
          injection eG with eG
          injection eG with eG eO _
          subst eG
          subst eO
          rw [Nat.zero_add] at hcz
          by_cases hzy : z ≤ y
          · clear hRl hrd hic
            have HJ : Hid (∀ j, j < k + 1 → R.getD j 0 ≤ y) := fun j hj => by
              by_cases e : j = k
              · subst e; rw [hzz.out]; exact hzy
              · exact hjs.out j (by omega)
            go_wp2_with fail
            go_quiet (fail)
            all_goals
              go_wp2
              go_roundw
              case rel => exact ⟨k + 1, _, by omega, by go_num, HJ, rfl⟩
              case measure => simp [intOf]; omega
          · have HS0 := SOf.next (k := k) hs.out (by have := HM.out; omega) (by omega) (fun j hj => by rw [hy.out]; have := hjs.out j hj; omega) (fun _ => by rw [hy.out, hzz.out]; omega)
            rw [hy.out] at HS0
            have HS : Hid (SOf l (i + 1) (R.take k ++ [y] ++ R.drop k)) := HS0
            have HLL : Hid ((R.take k ++ [y] ++ R.drop k).length = i + 1) := HS0.len (by have := HM.out; omega)
            have ki1 : (k : Int) ≤ (C : Int) := by omega
            have ki2 : (k : Int) ≤ (i : Int) := by omega
            have hjc : ¬ C = k := by omega
            clear HS0
            go_wp2_with fail
            go_quiet (fail)
            all_goals
              have hoD := HO.out.below (Go.below_drewN (Go.below_drewN (Below.refl _ _) m) nq)
              have hBD := Go.below_drewN (Go.below_drewN hB m) nq
              have hcD : ((wo.drewN m).drewN nq).cell? ⟨b, off + i, none⟩ = some (.int .i64 y) := hcell
              have hbD : b < ((wo.drewN m).drewN nq).heap.size := hbw
              have hzD : w.heap.size ≤ ((wo.drewN m).drewN nq).heap.size := hz
              revert hoD hBD hcD hbD hzD
              generalize (wo.drewN m).drewN nq = w1
              clear HO hB hcell hbw hz
              intro hoD hB hcell hbw hz
              have hrd := hoD.facts.2.2.2
              have hRl := hoD.facts.1
              clear hoD
              have ht := hrd.take' k
              have hd := hrd.drop' k
              rw [Nat.zero_add] at hd
              have HTL : Hid ((R.take k).length = k) := by show (R.take k).length = k; rw [List.length_take]; omega
              have HDL : Hid ((R.drop k).length = i - k) := by show (R.drop k).length = i - k; rw [List.length_drop]; omega
              have oEA := ((Own.lit0 w1 w1.heap.size (Nat.le_refl _)).below ((Below.refl _ _).alloc (Nat.le_refl _) (.cells #[.int .i64 y] 3))).below (Below.refl _ _).drew
              have oXA := (Own.lit (w1.alloc (.cells #[] 3)) w1.heap.size (by simp) y).below (Below.refl _ _).drew
              have bA := (((Below.refl w1.heap.size w1).alloc (Nat.le_refl _) (.cells #[] 3)).alloc (by simp) (.cells #[.int .i64 y] 3)).drew
              have oXB := ((Own.lit w1 w1.heap.size (Nat.le_refl _) y).below ((Below.refl _ _).alloc (Nat.le_refl _) (.cells #[] 3))).below (Below.refl _ _).drew
              have oEB := (Own.lit0 (w1.alloc (.cells #[.int .i64 y] 3)) w1.heap.size (by simp)).below (Below.refl _ _).drew
              have bB := (((Below.refl w1.heap.size w1).alloc (Nat.le_refl _) (.cells #[.int .i64 y] 3)).alloc (by simp) (.cells #[] 3)).drew
              have oEC := (Own.lit0 w1 w1.heap.size (Nat.le_refl _)).below (Below.refl _ _).drew
              have bC := ((Below.refl w1.heap.size w1).alloc (Nat.le_refl _) (.cells #[] 3)).drew
              simp only [World.size_alloc] at oXA oEB
              have hk7 : k < 2000000 := by omega
              clear hrd
              go_wp2_with fail
              go_region_law (first
                | (refine step_all rfl (.tmp 30) (.tmp 33) rfl w1.heap.size (.slice (some ⟨w1.heap.size, 0, none⟩) 0 0) [] rfl oEA bA.size (some ⟨G, 0, none⟩) (R.take k) _ _ HTL.out rfl (ht.below bA) hk7 (by simp) ?_; intro v1 wA o1 g1; have oX := oXA.kept g1 (.inr (by simp [Value.ownBlock])); have B1 := bA.grown g1 bA.size (fun q hq => by simp [Value.ownBlock] at hq; omega); have hcA := (B1.cell (p := ⟨b, off + i, none⟩) hbw).trans hcell)
                | (refine step_all rfl (.tmp 30) (.tmp 33) rfl w1.heap.size (.slice (some ⟨w1.heap.size + 1, 0, none⟩) 0 0) [] rfl oEB bB.size (some ⟨G, 0, none⟩) (R.take k) _ _ HTL.out rfl (ht.below bB) hk7 (by simp) ?_; intro v1 wA o1 g1; have oX := oXB.kept g1 (.inr (by simp [Value.ownBlock])); have B1 := bB.grown g1 bB.size (fun q hq => by simp [Value.ownBlock] at hq; omega); have hcA := (B1.cell (p := ⟨b, off + i, none⟩) hbw).trans hcell)
                | (refine step_all rfl (.tmp 30) (.tmp 33) rfl w1.heap.size (.slice (some ⟨w1.heap.size, 0, none⟩) 0 0) [] rfl oEC bC.size (some ⟨G, 0, none⟩) (R.take k) _ _ HTL.out rfl (ht.below bC) hk7 (by simp) ?_; intro v1 wA o1 g1; have B1 := bC.grown g1 bC.size (fun q hq => by simp [Value.ownBlock] at hq; omega); have hcA := (B1.cell (p := ⟨b, off + i, none⟩) hbw).trans hcell)
                | (refine step_all rfl (.tmp 34) (.tmp 39) rfl w1.heap.size v1 (R.take k) rfl o1 B1.size _ [y] 1 1 rfl rfl oX.reads (by omega) (by have := HTL.out; omega) ?_; intro v2 wB o2 g2; have B2 := Below.grownB B1 o1 g2 B1.size (Nat.le_refl _))
                | (refine step_all rfl (.tmp 34) (.tmp 39) rfl w1.heap.size v1 (R.take k) rfl (o1.below ((Below.refl _ _).alloc (Nat.le_refl _) _)) (B1.alloc B1.size _).size _ [y] 1 1 rfl rfl (Own.lit wA w1.heap.size B1.size y).reads (by omega) (by have := HTL.out; omega) ?_; intro v2 wB o2 g2; have B2 := Below.grownB (B1.alloc B1.size _) (o1.below ((Below.refl _ _).alloc (Nat.le_refl _) _)) g2 (B1.alloc B1.size _).size (Nat.le_refl _))
                | (refine step_all rfl (.tmp 40) (.tmp 43) rfl w1.heap.size v2 (R.take k ++ [y]) rfl o2 B2.size (some ⟨G, k, none⟩) (R.drop k) (i - k) (C - k) HDL.out rfl (hd.below B2) (by omega) (by rw [List.length_append, HTL.out, List.length_singleton]; omega) ?_; intro v3 wC o3 g3; have B3 := Below.grownB B2 o2 g3 B2.size (Nat.le_refl _)))
              all_goals
                obtain ⟨G3, C3, rfl, hT3⟩ := o3.tab (by rw [HLL.out]; omega)
                rw [HLL.out] at hT3 ⊢
                have o3' := hT3.own.mono hz
                have B3' := hB.trans (B3.mono hz)
                clear hT3 o3 B3 g3 B2 o2 g2 B1 o1 g1 ht
                go_wp2
                go_roundw
                case rel => exact ⟨i + 1, G3, C3, _, by omega, by go_num, rfl, HS, o3', B3'⟩
                case measure => simp [intOf]; omega
        · obtain rfl : k = i := by omega
          have HS0 := SOf.next (k := k) hs.out (by have := HM.out; omega) (by omega) (fun j hj => by rw [hy.out]; have := hjs.out j hj; omega) (fun h => by omega)
          rw [hy.out] at HS0
          have HS : Hid (SOf l (k + 1) (R.take k ++ [y] ++ R.drop k)) := HS0
          have HLL : Hid ((R.take k ++ [y] ++ R.drop k).length = k + 1) := HS0.len (by have := HM.out; omega)
          have ki1 : (k : Int) ≤ (C : Int) := by omega
          have ki2 : (k : Int) ≤ (k : Int) := by omega
          clear HS0
          by_cases hjc : C = k
          · subst hjc
            clear ki1 ki2 hki hic hk
            go_wp2_with fail
            go_quiet (fail)
            all_goals
              have hoD := HO.out.below (Go.below_drewN (Go.below_drewN (Below.refl _ _) m) nq)
              have hBD := Go.below_drewN (Go.below_drewN hB m) nq
              have hcD : ((wo.drewN m).drewN nq).cell? ⟨b, off + C, none⟩ = some (.int .i64 y) := hcell
              have hbD : b < ((wo.drewN m).drewN nq).heap.size := hbw
              have hzD : w.heap.size ≤ ((wo.drewN m).drewN nq).heap.size := hz
              revert hoD hBD hcD hbD hzD
              generalize (wo.drewN m).drewN nq = w1
              clear HO hB hcell hbw hz
              intro hoD hB hcell hbw hz
              have hrd := hoD.facts.2.2.2
              have hRl := hoD.facts.1
              clear hoD
              have ht := hrd.take' C
              have hd := hrd.drop' C
              rw [Nat.zero_add] at hd
              have HTL : Hid ((R.take C).length = C) := by show (R.take C).length = C; rw [List.length_take]; omega
              have HDL : Hid ((R.drop C).length = C - C) := by show (R.drop C).length = C - C; rw [List.length_drop]; omega
              have oEA := ((Own.lit0 w1 w1.heap.size (Nat.le_refl _)).below ((Below.refl _ _).alloc (Nat.le_refl _) (.cells #[.int .i64 y] 3))).below (Below.refl _ _).drew
              have oXA := (Own.lit (w1.alloc (.cells #[] 3)) w1.heap.size (by simp) y).below (Below.refl _ _).drew
              have bA := (((Below.refl w1.heap.size w1).alloc (Nat.le_refl _) (.cells #[] 3)).alloc (by simp) (.cells #[.int .i64 y] 3)).drew
              have oXB := ((Own.lit w1 w1.heap.size (Nat.le_refl _) y).below ((Below.refl _ _).alloc (Nat.le_refl _) (.cells #[] 3))).below (Below.refl _ _).drew
              have oEB := (Own.lit0 (w1.alloc (.cells #[.int .i64 y] 3)) w1.heap.size (by simp)).below (Below.refl _ _).drew
              have bB := (((Below.refl w1.heap.size w1).alloc (Nat.le_refl _) (.cells #[.int .i64 y] 3)).alloc (by simp) (.cells #[] 3)).drew
              have oEC := (Own.lit0 w1 w1.heap.size (Nat.le_refl _)).below (Below.refl _ _).drew
              have bC := ((Below.refl w1.heap.size w1).alloc (Nat.le_refl _) (.cells #[] 3)).drew
              simp only [World.size_alloc] at oXA oEB
              have hk7 : C < 2000000 := by omega
              have HDE : Hid (R.drop C = []) := List.drop_eq_nil_of_le (by omega)
              clear hRl hrd
              go_wp2_with fail
              go_region_law (first
                | (refine step_all rfl (.tmp 30) (.tmp 33) rfl w1.heap.size (.slice (some ⟨w1.heap.size, 0, none⟩) 0 0) [] rfl oEA bA.size (some ⟨G, 0, none⟩) (R.take C) _ _ HTL.out rfl (ht.below bA) hk7 (by simp) ?_; intro v1 wA o1 g1; have oX := oXA.kept g1 (.inr (by simp [Value.ownBlock])); have B1 := bA.grown g1 bA.size (fun q hq => by simp [Value.ownBlock] at hq; omega); have hcA := (B1.cell (p := ⟨b, off + C, none⟩) hbw).trans hcell)
                | (refine step_all rfl (.tmp 30) (.tmp 33) rfl w1.heap.size (.slice (some ⟨w1.heap.size + 1, 0, none⟩) 0 0) [] rfl oEB bB.size (some ⟨G, 0, none⟩) (R.take C) _ _ HTL.out rfl (ht.below bB) hk7 (by simp) ?_; intro v1 wA o1 g1; have oX := oXB.kept g1 (.inr (by simp [Value.ownBlock])); have B1 := bB.grown g1 bB.size (fun q hq => by simp [Value.ownBlock] at hq; omega); have hcA := (B1.cell (p := ⟨b, off + C, none⟩) hbw).trans hcell)
                | (refine step_all rfl (.tmp 30) (.tmp 33) rfl w1.heap.size (.slice (some ⟨w1.heap.size, 0, none⟩) 0 0) [] rfl oEC bC.size (some ⟨G, 0, none⟩) (R.take C) _ _ HTL.out rfl (ht.below bC) hk7 (by simp) ?_; intro v1 wA o1 g1; have B1 := bC.grown g1 bC.size (fun q hq => by simp [Value.ownBlock] at hq; omega); have hcA := (B1.cell (p := ⟨b, off + C, none⟩) hbw).trans hcell)
                | (refine step_all rfl (.tmp 34) (.tmp 39) rfl w1.heap.size v1 (R.take C) rfl o1 B1.size _ [y] 1 1 rfl rfl oX.reads (by omega) (by have := HTL.out; omega) ?_; intro v2 wB o2 g2; have B2 := Below.grownB B1 o1 g2 B1.size (Nat.le_refl _))
                | (refine step_all rfl (.tmp 34) (.tmp 39) rfl w1.heap.size v1 (R.take C) rfl (o1.below ((Below.refl _ _).alloc (Nat.le_refl _) _)) (B1.alloc B1.size _).size _ [y] 1 1 rfl rfl (Own.lit wA w1.heap.size B1.size y).reads (by omega) (by have := HTL.out; omega) ?_; intro v2 wB o2 g2; have B2 := Below.grownB (B1.alloc B1.size _) (o1.below ((Below.refl _ _).alloc (Nat.le_refl _) _)) g2 (B1.alloc B1.size _).size (Nat.le_refl _))
                | (refine step_all rfl (.tmp 40) (.tmp 43) rfl w1.heap.size v2 (R.take C ++ [y]) rfl o2 B2.size _ [] 0 _ rfl rfl (Reads.nil _ _) (by omega) (by rw [List.length_append, HTL.out, List.length_singleton]; omega) ?_; intro v3 wC o3 g3; have B3 := Below.grownB B2 o2 g3 B2.size (Nat.le_refl _)))
              all_goals
                replace o3 : Own wC w1.heap.size v3 (R.take C ++ [y] ++ R.drop C) := by rw [HDE.out]; exact o3
                obtain ⟨G3, C3, rfl, hT3⟩ := o3.tab (by rw [HLL.out]; omega)
                rw [HLL.out] at hT3 ⊢
                have o3' := hT3.own.mono hz
                have B3' := hB.trans (B3.mono hz)
                clear hT3 o3 B3 g3 B2 o2 g2 B1 o1 g1 ht
                go_wp2
                go_roundw
                case rel => exact ⟨C + 1, G3, C3, _, by omega, by go_num, rfl, HS, o3', B3'⟩
                case measure => simp [intOf]; omega
          · go_wp2_with fail
            go_quiet (fail)
            all_goals
              have hoD := HO.out.below (Go.below_drewN (Go.below_drewN (Below.refl _ _) m) nq)
              have hBD := Go.below_drewN (Go.below_drewN hB m) nq
              have hcD : ((wo.drewN m).drewN nq).cell? ⟨b, off + k, none⟩ = some (.int .i64 y) := hcell
              have hbD : b < ((wo.drewN m).drewN nq).heap.size := hbw
              have hzD : w.heap.size ≤ ((wo.drewN m).drewN nq).heap.size := hz
              revert hoD hBD hcD hbD hzD
              generalize (wo.drewN m).drewN nq = w1
              clear HO hB hcell hbw hz
              intro hoD hB hcell hbw hz
              have hrd := hoD.facts.2.2.2
              have hRl := hoD.facts.1
              clear hoD
              have ht := hrd.take' k
              have hd := hrd.drop' k
              rw [Nat.zero_add] at hd
              have HTL : Hid ((R.take k).length = k) := by show (R.take k).length = k; rw [List.length_take]; omega
              have HDL : Hid ((R.drop k).length = 0) := by show (R.drop k).length = 0; rw [List.length_drop]; omega
              have oEA := ((Own.lit0 w1 w1.heap.size (Nat.le_refl _)).below ((Below.refl _ _).alloc (Nat.le_refl _) (.cells #[.int .i64 y] 3))).below (Below.refl _ _).drew
              have oXA := (Own.lit (w1.alloc (.cells #[] 3)) w1.heap.size (by simp) y).below (Below.refl _ _).drew
              have bA := (((Below.refl w1.heap.size w1).alloc (Nat.le_refl _) (.cells #[] 3)).alloc (by simp) (.cells #[.int .i64 y] 3)).drew
              have oXB := ((Own.lit w1 w1.heap.size (Nat.le_refl _) y).below ((Below.refl _ _).alloc (Nat.le_refl _) (.cells #[] 3))).below (Below.refl _ _).drew
              have oEB := (Own.lit0 (w1.alloc (.cells #[.int .i64 y] 3)) w1.heap.size (by simp)).below (Below.refl _ _).drew
              have bB := (((Below.refl w1.heap.size w1).alloc (Nat.le_refl _) (.cells #[.int .i64 y] 3)).alloc (by simp) (.cells #[] 3)).drew
              have oEC := (Own.lit0 w1 w1.heap.size (Nat.le_refl _)).below (Below.refl _ _).drew
              have bC := ((Below.refl w1.heap.size w1).alloc (Nat.le_refl _) (.cells #[] 3)).drew
              simp only [World.size_alloc] at oXA oEB
              have hk7 : k < 2000000 := by omega
              clear hRl hrd
              go_wp2_with fail
              go_region_law (first
                | (refine step_all rfl (.tmp 30) (.tmp 33) rfl w1.heap.size (.slice (some ⟨w1.heap.size, 0, none⟩) 0 0) [] rfl oEA bA.size (some ⟨G, 0, none⟩) (R.take k) _ _ HTL.out rfl (ht.below bA) hk7 (by simp) ?_; intro v1 wA o1 g1; have oX := oXA.kept g1 (.inr (by simp [Value.ownBlock])); have B1 := bA.grown g1 bA.size (fun q hq => by simp [Value.ownBlock] at hq; omega); have hcA := (B1.cell (p := ⟨b, off + k, none⟩) hbw).trans hcell)
                | (refine step_all rfl (.tmp 30) (.tmp 33) rfl w1.heap.size (.slice (some ⟨w1.heap.size + 1, 0, none⟩) 0 0) [] rfl oEB bB.size (some ⟨G, 0, none⟩) (R.take k) _ _ HTL.out rfl (ht.below bB) hk7 (by simp) ?_; intro v1 wA o1 g1; have oX := oXB.kept g1 (.inr (by simp [Value.ownBlock])); have B1 := bB.grown g1 bB.size (fun q hq => by simp [Value.ownBlock] at hq; omega); have hcA := (B1.cell (p := ⟨b, off + k, none⟩) hbw).trans hcell)
                | (refine step_all rfl (.tmp 30) (.tmp 33) rfl w1.heap.size (.slice (some ⟨w1.heap.size, 0, none⟩) 0 0) [] rfl oEC bC.size (some ⟨G, 0, none⟩) (R.take k) _ _ HTL.out rfl (ht.below bC) hk7 (by simp) ?_; intro v1 wA o1 g1; have B1 := bC.grown g1 bC.size (fun q hq => by simp [Value.ownBlock] at hq; omega); have hcA := (B1.cell (p := ⟨b, off + k, none⟩) hbw).trans hcell)
                | (refine step_all rfl (.tmp 34) (.tmp 39) rfl w1.heap.size v1 (R.take k) rfl o1 B1.size _ [y] 1 1 rfl rfl oX.reads (by omega) (by have := HTL.out; omega) ?_; intro v2 wB o2 g2; have B2 := Below.grownB B1 o1 g2 B1.size (Nat.le_refl _))
                | (refine step_all rfl (.tmp 34) (.tmp 39) rfl w1.heap.size v1 (R.take k) rfl (o1.below ((Below.refl _ _).alloc (Nat.le_refl _) _)) (B1.alloc B1.size _).size _ [y] 1 1 rfl rfl (Own.lit wA w1.heap.size B1.size y).reads (by omega) (by have := HTL.out; omega) ?_; intro v2 wB o2 g2; have B2 := Below.grownB (B1.alloc B1.size _) (o1.below ((Below.refl _ _).alloc (Nat.le_refl _) _)) g2 (B1.alloc B1.size _).size (Nat.le_refl _))
                | (refine step_all rfl (.tmp 40) (.tmp 43) rfl w1.heap.size v2 (R.take k ++ [y]) rfl o2 B2.size (some ⟨G, k, none⟩) (R.drop k) 0 (C - k) HDL.out rfl (hd.below B2) (by omega) (by rw [List.length_append, HTL.out, List.length_singleton]; omega) ?_; intro v3 wC o3 g3; have B3 := Below.grownB B2 o2 g3 B2.size (Nat.le_refl _)))
              all_goals
                obtain ⟨G3, C3, rfl, hT3⟩ := o3.tab (by rw [HLL.out]; omega)
                rw [HLL.out] at hT3 ⊢
                have o3' := hT3.own.mono hz
                have B3' := hB.trans (B3.mono hz)
                clear hT3 o3 B3 g3 B2 o2 g2 B1 o1 g1 ht
                go_wp2
                go_roundw
                case rel => exact ⟨k + 1, G3, C3, _, by omega, by go_num, rfl, HS, o3', B3'⟩
                case measure => simp [intOf]; omega
    · obtain rfl : i = M := by omega
      have hs2 := hs.out
      rw [HM.out] at hs2
      have hR := hs2.full
      go_wp2
      go_ret
      exact ⟨_, rfl, by rw [← hR]; exact ho, hB⟩
end Go.Proofs.YtoaiaindcmihjaaGreatDoor
/-
  laws.equalBuckets of the same, laws.ascends of what ascends.
-/
namespace Go.Proofs.YtoaiaindcmihjaaGreatDoor
open Go.RowKit

set_option maxHeartbeats 4000000 in
theorem ascends_yes (a : Option Addr) (l : List Int) (cap : Nat) (w : World) (hr : Reads w a l) (hl : l.length ≤ 1048586) (hs : l.Pairwise (· < ·)) :
    Calls Tryz.prog 17 #[.slice a l.length cap] w fun e w' => e = .returned (.bool true) ∧ ∃ n, w' = w.drewN n := by
  obtain ⟨M, hM⟩ : ∃ M, M = l.length := ⟨_, rfl⟩
  have HM := Lib.hid hM
  rw [← hM] at hl ⊢
  clear hM
  have HS := Lib.hid hs
  clear hs
  go_enter Tryz.func17, Tryz.ntmps17
  go_wp2
  go_loopw [3] (fun iv wr => ∃ i n : Nat, 1 ≤ i ∧ iv = .int .i64 (i : Int) ∧ wr = w.drewN n) (fun iv _ => M - (intOf iv).toNat)
  case atStart => exact ⟨1, 0, by omega, rfl, rfl⟩
  case round =>
    obtain ⟨i, n, hi, rfl, rfl⟩ := hrel
    by_cases hlt : i < M
    · have hi1 : (i : Int) < (M : Int) := by omega
      obtain ⟨b, off, y, rfl, hb, hc, hy⟩ := hr.get (k := i) (by have := HM.out; omega)
      obtain ⟨j, hj⟩ : ∃ j, i = j + 1 := ⟨i - 1, by omega⟩
      obtain ⟨b2, off2, z, e2, _, hcz, hz⟩ := hr.get (k := j) (by have := HM.out; omega)
      injection e2 with e2
      injection e2 with e2 e3 _
      subst e2
      subst e3
      have hzy : z < y := by
        have := (List.pairwise_iff_getElem.1 HS.out) j i (by have := HM.out; omega) (by have := HM.out; omega) (by omega)
        have h1 := hy.out
        have h2 := hz.out
        simp [List.getD, show i < l.length by have := HM.out; omega] at h1
        simp [List.getD, show j < l.length by have := HM.out; omega] at h2
        omega
      have ej : IntKind.i64.wrap ((i : Int) - 1) = (j : Int) := by rw [IntWalk.i64_in _ (by omega)]; omega
      have hj1 : (j : Int) < (M : Int) := by omega
      have hle : ¬ y ≤ z := by omega
      have HJ := Lib.hid hj
      clear hj hy hz
      go_wp2_with fail
      go_quiet (fail)
      all_goals
        go_wp2
        go_roundw
        case rel => exact ⟨i + 1, _, by omega, by go_num, rfl⟩
        case measure => simp [intOf]; omega
    · have hge : ¬ (i : Int) < (M : Int) := by omega
      go_wp2
      go_ret
      exact ⟨rfl, _, rfl⟩
end Go.Proofs.YtoaiaindcmihjaaGreatDoor
/-
  The reader that draws arguments from a code: newReader, pick, one.
-/
namespace Go.Proofs.YtoaiaindcmihjaaGreatDoor
open Go.RowKit

/-- The slice (its address, its length) holds bytes, in a block below g. -/
def Bytes (w : World) (g : Nat) (a : Option Addr) (n : Nat) : Prop := n = 0 ∨ ∃ b off, a = some ⟨b, off, none⟩ ∧ b < g ∧ ∀ i, i < n → ∃ x : Int, 0 ≤ x ∧ x ≤ 255 ∧ w.cell? ⟨b, off + i, none⟩ = some (.int .u8 x)
theorem Bytes.of_block {w w' : World} {g : Nat} {a : Option Addr} {n : Nat} (h : Bytes w g a n) (hw : ∀ k, k < g → w'.heap[k]? = w.heap[k]?) : Bytes w' g a n := by
  rcases h with h | ⟨b, off, ha, hb, hc⟩
  · exact .inl h
  · refine .inr ⟨b, off, ha, hb, fun i hi => ?_⟩
    obtain ⟨x, h1, h2, h3⟩ := hc i hi
    exact ⟨x, h1, h2, (World.cell?_of_block (w := w) (hw b hb)).trans h3⟩
theorem Bytes.le {w : World} {g g' : Nat} {a : Option Addr} {n : Nat} (h : Bytes w g a n) (hg : g ≤ g') : Bytes w g' a n := by
  rcases h with h | ⟨b, off, ha, hb, hc⟩
  · exact .inl h
  · exact .inr ⟨b, off, ha, by omega, hc⟩

/-- The reader in block g: at most 2000 bytes, p of them read. -/
structure Rdr (w : World) (g p : Nat) : Prop where
  ex : ∃ a n cap, w.heap[g]? = some (.cells #[.slice a n cap, .int .i64 p] 74 (0, 0)) ∧ Bytes w g a n ∧ n ≤ 2000
theorem Rdr.lt {w : World} {g p : Nat} (h : Rdr w g p) : g < w.heap.size := by
  obtain ⟨a, n, cap, h1, _⟩ := h.ex
  exact (Array.getElem?_eq_some_iff.1 h1).1
theorem Rdr.of_block {w w' : World} {g p : Nat} (h : Rdr w g p) (hw : ∀ k, k ≤ g → w'.heap[k]? = w.heap[k]?) : Rdr w' g p := by
  obtain ⟨a, n, cap, h1, h2, h3⟩ := h.ex
  exact ⟨a, n, cap, (hw g (Nat.le_refl _)).trans h1, h2.of_block (fun k hk => hw k (by omega)), h3⟩
theorem Rdr.below {w w' : World} {g p : Nat} (h : Rdr w g p) (hb : Below w.heap.size w w') : Rdr w' g p := h.of_block fun k hk => hb.block k (by have := h.lt; omega)
theorem Rdr.kept {w w' : World} {g p : Nat} {row : Option Nat} (h : Rdr w g p) (hg : w.grownBy w' row) (hr : ∀ k, row = some k → g < k) : Rdr w' g p :=
  h.of_block fun k hk => hg.block k (by have := h.lt; omega) (fun e => by have := hr k e.symm; omega)

theorem bits_xor_i64_nat (a b : Nat) (ha : a < 9223372036854775808) (hb : b < 9223372036854775808) : bits .xor .i64 (a : Int) (b : Int) = ((a ^^^ b : Nat) : Int) := by
  have hx : a ^^^ b < 2 ^ 63 := Nat.xor_lt_two_pow (by omega) (by omega)
  have h1 : (BitVec.ofInt 64 (a : Int)).toNat = a := by
    rw [BitVec.ofInt_natCast, BitVec.toNat_ofNat]; exact Nat.mod_eq_of_lt (by omega)
  have h2 : (BitVec.ofInt 64 (b : Int)).toNat = b := by
    rw [BitVec.ofInt_natCast, BitVec.toNat_ofNat]; exact Nat.mod_eq_of_lt (by omega)
  show IntKind.i64.wrap ((BitVec.ofInt 64 (a : Int) ^^^ BitVec.ofInt 64 (b : Int)).toNat : Int) = _
  rw [BitVec.toNat_xor, h1, h2, IntKind.wrap_i64]
  omega
theorem xor_pos {a b : Int} (h1 : 0 ≤ a) (h2 : a < 9223372036854775808) (h3 : 0 ≤ b) (h4 : b < 9223372036854775808) : 0 ≤ bits .xor .i64 a b := by
  obtain ⟨A, rfl⟩ := Int.eq_ofNat_of_zero_le h1
  obtain ⟨B, rfl⟩ := Int.eq_ofNat_of_zero_le h3
  rw [bits_xor_i64_nat A B (by omega) (by omega)]
  omega

theorem rdr_step {w : World} {g p : Nat} {a : Option Addr} {n cap : Nat} (hg : w.heap[g]? = some (.cells #[.slice a n cap, .int .i64 p] 74 (0, 0))) (hB : Bytes w g a n) (hn : n ≤ 2000) :
    Rdr (w.setCell ⟨g, 1, none⟩ (.int .i64 ((p : Int) + 1))) g (p + 1) ∧ w.grownBy (w.setCell ⟨g, 1, none⟩ (.int .i64 ((p : Int) + 1))) (some g) := by
  refine ⟨⟨a, n, cap, ?_, hB.of_block (fun k hk => heap_setCell_other _ _ _ _ (by show k ≠ g; omega)), hn⟩, rfl, rfl, rfl, by simp, fun k _ hk => heap_setCell_other _ _ _ _ (fun e => hk (by rw [e]))⟩
  rw [heap_setCell_same w g 1 _ _ _ hg]; rfl
theorem Rdr.drewN {w : World} {g p : Nat} (h : Rdr w g p) (n : Nat) : Rdr (w.drewN n) g p := h.of_block fun _ _ => rfl
theorem grownBy_drewN {w w' : World} {row : Option Nat} (h : w.grownBy w' row) (n : Nat) : w.grownBy (w'.drewN n) row := ⟨h.os, h.tape, h.output, h.size, h.block⟩

/-- A number in 0..k-1, or 0. -/
def Picked (k y : Int) : Prop := (1 ≤ k → 0 ≤ y ∧ y < k) ∧ (k < 1 → y = 0)

set_option maxHeartbeats 2000000 in
theorem pick_any (g p : Nat) (k : Int) (w : World) (hR : Rdr w g p) (hp : p ≤ 1000000) (hk : k ≤ 1000000) :
    Calls Tryz.prog 37 #[.pointer (some ⟨g, 0, none⟩), .int .i64 k] w fun e w' => ∃ y, e = .returned (.int .i64 y) ∧ Picked k y ∧ Rdr w' g (p + 1) ∧ w.grownBy w' (some g) := by
  obtain ⟨a, n, cap, hg, hB, hn⟩ := hR.ex
  have c0 : w.cell? ⟨g, 0, none⟩ = some (.slice a n cap) := by rw [cell_of_row w g 0 _ _ _ hg]; rfl
  have c1 : w.cell? ⟨g, 1, none⟩ = some (.int .i64 (p : Int)) := by rw [cell_of_row w g 1 _ _ _ hg]; rfl
  have f1 : w.frozen? ⟨g, 1, none⟩ = false := frozen_of_row w g 1 _ _ hg
  have hst := rdr_step hg hB hn
  have HST := Lib.hid hst
  clear hst hg
  by_cases h1 : k < 1
  · go_enter Tryz.func37, Tryz.ntmps37
    go_wp2
    go_ret
    exact ⟨0, rfl, ⟨fun h => by omega, fun _ => rfl⟩, HST.out.1, HST.out.2⟩
  by_cases h2 : n = 0
  · subst h2
    go_enter Tryz.func37, Tryz.ntmps37
    go_wp2
    go_ret
    exact ⟨0, rfl, ⟨fun h => by omega, fun _ => rfl⟩, HST.out.1, HST.out.2⟩
  have hn0 : ((n : Int) == 0) = false := by simp; exact h2
  rcases hB with hB | ⟨b, off, rfl, hb, hc⟩
  · exact absurd hB h2
  have hk0 : (k == 0) = false := by simp; omega
  by_cases h3 : p < n
  · obtain ⟨x, x0, x1, hx⟩ := hc p h3
    have hxs : (w.setCell ⟨g, 1, none⟩ (.int .i64 ((p : Int) + 1))).cell? ⟨b, off + p, none⟩ = some (.int .u8 x) := (World.cell?_of_block (w := w) (heap_setCell_other _ _ _ _ (by show b ≠ g; omega))).trans hx
    clear hc
    go_enter Tryz.func37, Tryz.ntmps37
    go_wp2
    go_ret
    exact ⟨_, rfl, ⟨fun h => ⟨Int.emod_nonneg _ (by omega), Int.emod_lt_of_pos _ (by omega)⟩, fun h => by omega⟩, HST.out.1, HST.out.2⟩
  · obtain ⟨q, hq⟩ : ∃ q, q = p % n := ⟨_, rfl⟩
    obtain ⟨s7, h7⟩ : ∃ s, s = p * 7 := ⟨_, rfl⟩
    obtain ⟨s10, h10⟩ : ∃ s, s = s7 + 3 := ⟨_, rfl⟩
    obtain ⟨r, hr⟩ : ∃ r, r = s10 % n := ⟨_, rfl⟩
    obtain ⟨d, hd⟩ : ∃ d, d = p / n := ⟨_, rfl⟩
    have hqn : q < n := by rw [hq]; exact Nat.mod_lt _ (by omega)
    have hrn : r < n := by rw [hr]; exact Nat.mod_lt _ (by omega)
    have hdn : d ≤ p := by rw [hd]; exact Nat.div_le_self _ _
    obtain ⟨x, x0, x1, hx⟩ := hc q hqn
    obtain ⟨z, z0, z1, hz⟩ := hc r hrn
    have hxs : (w.setCell ⟨g, 1, none⟩ (.int .i64 ((p : Int) + 1))).cell? ⟨b, off + q, none⟩ = some (.int .u8 x) := (World.cell?_of_block (w := w) (heap_setCell_other _ _ _ _ (by show b ≠ g; omega))).trans hx
    have hzs : (w.setCell ⟨g, 1, none⟩ (.int .i64 ((p : Int) + 1))).cell? ⟨b, off + r, none⟩ = some (.int .u8 z) := (World.cell?_of_block (w := w) (heap_setCell_other _ _ _ _ (by show b ≠ g; omega))).trans hz
    have e1 : (p : Int).tmod n = (q : Int) := by rw [hq, Int.tmod_eq_emod_of_nonneg (by omega), Int.natCast_emod]
    have e2 : IntKind.i64.wrap ((p : Int) * 7) = (s7 : Int) := by rw [IntWalk.i64_in _ (by omega), h7]; simp
    have e3 : IntKind.i64.wrap ((s7 : Int) + 3) = (s10 : Int) := by rw [IntWalk.i64_in _ (by omega), h10]; simp
    have e4 : (s10 : Int).tmod n = (r : Int) := by rw [hr, Int.tmod_eq_emod_of_nonneg (by omega), Int.natCast_emod]
    have e5 : (p : Int).tdiv n = (d : Int) := by rw [hd, Int.tdiv_eq_ediv_of_nonneg (by omega), Int.natCast_ediv]
    have c1 : (q : Int) < n := by omega
    have c2 : (r : Int) < n := by omega
    have b1 : s7 ≤ 7000000 := by omega
    have b2 : s10 ≤ 7000003 := by omega
    have hn1 : (n : Int) ≠ 0 := by omega
    clear hc hx hz hq h7 h10 hr hd
    go_enter Tryz.func37, Tryz.ntmps37
    go_wp2
    go_quiet (fail)
    go_wp2
    go_ret
    exact ⟨_, rfl, ⟨fun h => ⟨Int.tmod_nonneg _ (xor_pos (by omega) (by omega) (by omega) (by omega)), Int.tmod_lt_of_pos _ (by omega)⟩, fun h => by omega⟩, HST.out.1.drewN _, grownBy_drewN HST.out.2 _⟩

theorem Picked.pos {k y : Int} (h : Picked k y) (hk : 1 ≤ k) : 0 ≤ y ∧ y < k := h.1 hk

set_option maxHeartbeats 1000000 in
theorem newReader_any (a : Option Addr) (n cap : Nat) (w : World) (hB : Bytes w w.heap.size a n) (hn : n ≤ 9223372036854775807) (hc : n ≤ cap) :
    Calls Tryz.prog 29 #[.slice a n cap] w fun e w' => e = .returned (.pointer (some ⟨w.heap.size, 0, none⟩)) ∧ Rdr w' w.heap.size 0 ∧ Below w.heap.size w w' ∧ w.heap.size < w'.heap.size := by
  by_cases h : 2000 < n
  · rcases hB with hB | ⟨b, off, rfl, hb, hcc⟩
    · omega
    · go_enter Tryz.func29, Tryz.ntmps29
      go_wp2
      go_ret
      exact ⟨rfl, ⟨_, 2000, cap, heap_alloc_new _ _, (show Bytes w w.heap.size _ 2000 from .inr ⟨b, off, rfl, hb, fun i hi => hcc i (by omega)⟩).of_block (fun k hk => Below.heap_alloc _ _ _ hk), by omega⟩, (Below.refl _ _).alloc (Nat.le_refl _) _, by simp⟩
  · go_enter Tryz.func29, Tryz.ntmps29
    go_wp2
    go_ret
    refine ⟨rfl, ⟨a, n, cap, heap_alloc_new _ _, hB.of_block (fun k hk => Below.heap_alloc _ _ _ hk), by omega⟩, (Below.refl _ _).alloc (Nat.le_refl _) _, by simp⟩

set_option maxHeartbeats 1000000 in
theorem one_any (g p : Nat) (gl : Nat) (cap : Nat) (l : List Int) (w : World) (hR : Rdr w g p) (hp : p ≤ 1000000) (hc : CellsAt w gl 0 l) (hgl : g < gl) (h0 : 0 < l.length) (hl : l.length ≤ 1000000) (n : Nat) (hn : l.length = n) :
    Calls Tryz.prog 41 #[.pointer (some ⟨g, 0, none⟩), .slice (some ⟨gl, 0, none⟩) n cap] w fun e w' => ∃ y, e = .returned (.int .i64 y) ∧ y ∈ l ∧ Rdr w' g (p + 1) ∧ w.grownBy w' (some g) := by
  subst hn
  go_enter Tryz.func41, Tryz.ntmps41
  go_wp2_with fail
  refine (pick_any g p _ _ hR hp (by omega)).mono ?_
  rintro e w' ⟨y, rfl, hy, hR', hg⟩
  obtain ⟨y0, y1⟩ := hy.pos (by omega)
  obtain ⟨i, rfl⟩ := Int.eq_ofNat_of_zero_le y0
  have hil : i < l.length := by omega
  have hcell : w'.cell? ⟨gl, i, none⟩ = some (.int .i64 (l.getD i 0)) := by
    have := hc i hil
    rw [Nat.zero_add] at this
    exact hg.cell this (by simp; omega)
  obtain ⟨x, hx⟩ : ∃ x, l.getD i 0 = x := ⟨_, rfl⟩
  rw [hx] at hcell
  have hm : x ∈ l := by rw [← hx, List.getD_eq_getElem?_getD, List.getElem?_eq_getElem hil]; exact List.getElem_mem hil
  clear hx
  go_wp2
  go_ret
  exact ⟨x, rfl, hm, hR', hg⟩

theorem CellsAt.lit (w : World) (l : List Int) : CellsAt (w.alloc (.cells (l.map (Value.int .i64)).toArray 3)) w.heap.size 0 l := by
  intro i hi
  rw [cell_of_row _ _ _ _ _ _ (heap_alloc_new _ _)]
  simp [List.getD, hi]
theorem grownBy_trans {a b c : World} {row : Option Nat} (h : a.grownBy b row) (k : b.grownBy c row) : a.grownBy c row :=
  ⟨k.os.trans h.os, k.tape.trans h.tape, k.output.trans h.output, Nat.le_trans h.size k.size, fun i hi hne => (k.block i (Nat.lt_of_lt_of_le hi h.size) hne).trans (h.block i hi hne)⟩
theorem grownBy_alloc' {a b : World} {row : Option Nat} (h : a.grownBy b row) (o : Obj) : a.grownBy (b.alloc o) row := grownBy_trans h (World.grownBy_alloc b o row)
/-- An append to a slice of the call's own, made behind a. -/
theorem grownBy_own {a b c : World} {row : Option Nat} {base : Nat} {v : Value} {l : List Int} (h : a.grownBy b row) (ho : Own b base v l) (hb : a.heap.size ≤ base) (k : b.grownBy c v.ownBlock) : a.grownBy c row :=
  ⟨k.os.trans h.os, k.tape.trans h.tape, k.output.trans h.output, Nat.le_trans h.size k.size, fun i hi hne => (k.block i (Nat.lt_of_lt_of_le hi h.size) (fun e => by have := (ho.lt i e.symm).1; omega)).trans (h.block i hi hne)⟩

set_option maxHeartbeats 1000000 in
theorem slots_any (g p : Nat) (w : World) (hR : Rdr w g p) (hp : p ≤ 900000) :
    Calls Tryz.prog 69 #[.pointer (some ⟨g, 0, none⟩)] w fun e w' => ∃ m : Int, e = .returned (.int .i64 m) ∧ (-1 ≤ m ∧ m ≤ 11) ∧ Rdr w' g (p + 2) ∧ w.grownBy w' (some g) := by
  go_enter Tryz.func69, Tryz.ntmps69
  go_wp2_with fail
  refine (pick_any g p _ _ hR (by omega) (by omega)).mono ?_
  rintro e w1 ⟨y, rfl, hy, hR1, hg1⟩
  have gl := hR1.lt
  by_cases hy0 : y = 0
  · have hd : (y == 0) = true := by simp [hy0]
    have hc : CellsAt (w1.alloc (.cells #[.int .i64 0, .int .i64 11, .int .i64 (-1)] 3)) w1.heap.size 0 [0, 11, -1] := CellsAt.lit w1 [0, 11, -1]
    have hR2 := hR1.below ((Below.refl w1.heap.size w1).alloc (Nat.le_refl _) (.cells #[.int .i64 0, .int .i64 11, .int .i64 (-1)] 3))
    clear hy0 hy
    go_wp2_with fail
    refine (one_any g (p + 1) _ _ [0, 11, -1] _ hR2 (by omega) hc gl (by simp) (by simp) 3 rfl).mono ?_
    rintro e w2 ⟨z, rfl, hz, hR3, hg3⟩
    have hz2 : -1 ≤ z ∧ z ≤ 11 := by simp at hz; omega
    clear hc hz
    go_wp2
    go_ret
    exact ⟨z, rfl, hz2, hR3, grownBy_trans (grownBy_alloc' hg1 _) hg3⟩
  · have hd : (y == 0) = false := by simpa using hy0
    have hc : CellsAt (w1.alloc (.cells #[.int .i64 6, .int .i64 8, .int .i64 10, .int .i64 5, .int .i64 7, .int .i64 4, .int .i64 3, .int .i64 2, .int .i64 1] 3)) w1.heap.size 0 [6, 8, 10, 5, 7, 4, 3, 2, 1] := CellsAt.lit w1 [6, 8, 10, 5, 7, 4, 3, 2, 1]
    have hR2 := hR1.below ((Below.refl w1.heap.size w1).alloc (Nat.le_refl _) (.cells #[.int .i64 6, .int .i64 8, .int .i64 10, .int .i64 5, .int .i64 7, .int .i64 4, .int .i64 3, .int .i64 2, .int .i64 1] 3))
    clear hy0 hy
    go_wp2_with fail
    refine (one_any g (p + 1) _ _ [6, 8, 10, 5, 7, 4, 3, 2, 1] _ hR2 (by omega) hc gl (by simp) (by simp) 9 rfl).mono ?_
    rintro e w2 ⟨z, rfl, hz, hR3, hg3⟩
    have hz2 : -1 ≤ z ∧ z ≤ 11 := by simp at hz; omega
    clear hc hz
    go_wp2
    go_ret
    exact ⟨z, rfl, hz2, hR3, grownBy_trans (grownBy_alloc' hg1 _) hg3⟩

theorem Own.ne_g {w : World} {base : Nat} {v : Value} {l : List Int} (h : Own w base v l) {g : Nat} (hg : g < base) : v.ownBlock = none ∨ v.ownBlock ≠ some g := by
  cases hv : v.ownBlock with
  | none => exact .inl rfl
  | some k =>
    have := h.lt k hv
    exact .inr (fun e => by cases e; omega)
/-- 'append(s, y, z)'. -/
theorem push_two {wr : World} {ops : Array Oper} {rest : List Oper} {o : Oper} {a : Act} {Q : Exit → Act → World → Prop} (hgd : o.guard = none) (s x : Operand)
    (ho : o.op = .call { callee := .builtin .append, args := #[s, x], argTypes := #[23, 23] })
    (base : Nat) (v : Value) (l : List Int) (y z : Int) (hs : a.eval s = v) (hown : Own wr base v l) (hx : a.eval x = .slice (some ⟨wr.heap.size, 0, none⟩) 2 2)
    (hl : l.length < 1000000000000) (hbase : base ≤ wr.heap.size)
    (h : ∀ v' w', Own w' base v' (l ++ [y, z]) → v' ≠ .slice none 0 0 → wr.grownBy w' v.ownBlock → wpList Tryz.prog ops Q rest (a.put o.dst v') w') :
    wpList Tryz.prog ops Q (o :: rest) a (wr.alloc (.cells #[.int .i64 y, .int .i64 z] 3)) := by
  obtain ⟨i0, hi, hz0, hz1, hz2⟩ := info_parts infoInt
  refine wpList_append_own _ hgd s x 23 ho base 3 i0 (.int .i64 0) 1 8 Tryz.underlying23 hi hz0 hz1 hz2 rfl (by decide) v l.length (l.map (Value.int .i64)) hs (World.ownsRow.alloc hown _) ⟨wr.heap.size, 0, none⟩ 2 2 [.int .i64 y, .int .i64 z] hx rfl (fun j u hu => ?_) (fun u hu => by simp at hu; rcases hu with rfl | rfl <;> rfl) (by unfold maxLen; omega) (by omega) (by simp; omega) fun v' w' h1 h2 h3 => h v' w' ?_ ?_ ?_
  · have := CellsAt.lit wr [y, z]
    have hj : j < 2 := by simpa using (List.getElem?_eq_some_iff.1 hu).1
    have h2 := this j hj
    rw [Addr.add_lit]
    rw [show ((List.map (Value.int .i64) [y, z]).toArray) = #[.int .i64 y, .int .i64 z] from rfl] at h2
    rw [h2]
    match j, hj, hu with
    | 0, _, hu => simpa using hu
    | 1, _, hu => simpa using hu
  · unfold Own
    rw [List.length_append, List.map_append]
    exact h1
  · intro e
    have := (h3.1 e).2
    omega
  · refine ⟨h2.os, h2.tape, h2.output, Nat.le_trans (by simp) h2.size, fun k hk hne => ?_⟩
    rw [h2.block k (by simp; omega) hne]; exact Below.heap_alloc _ _ _ hk
end Go.Proofs.YtoaiaindcmihjaaGreatDoor
/-
  spec.someHomes, the draws of chapter 1 that give homes.
-/
namespace Go.Proofs.YtoaiaindcmihjaaGreatDoor
open Go.RowKit

/-- What a draw's numbers are: small. -/
def Small (l : List Int) : Prop := ∀ x ∈ l, -1 ≤ x ∧ x ≤ 11
theorem Small.nil : Small [] := by intro x hx; simp at hx
theorem Small.push {l : List Int} {x : Int} (h : Small l) (hx : -1 ≤ x ∧ x ≤ 11) : Small (l ++ [x]) := by
  intro y hy
  rcases List.mem_append.1 hy with hy | hy
  · exact h y hy
  · simp at hy; rw [hy]; exact hx

set_option maxHeartbeats 4000000 in
theorem someHomes_any (g p : Nat) (w : World) (hR : Rdr w g p) (hp : p ≤ 800000) :
    Calls Tryz.prog 42 #[.pointer (some ⟨g, 0, none⟩)] w fun e w' => ∃ (m : Int) (v : Value) (l : List Int) (q : Nat), e = .returned (.tuple #[.int .i64 m, v]) ∧ (-1 ≤ m ∧ m ≤ 11) ∧ Own w' w.heap.size v l ∧ l.length ≤ 14 ∧ Small l ∧ v ≠ .slice none 0 0 ∧ Rdr w' g q ∧ q ≤ p + 100 ∧ w.grownBy w' (some g) := by
  have zg := hR.lt
  go_enter Tryz.func42, Tryz.ntmps42
  go_wp2_with fail
  refine (slots_any g p _ hR (by omega)).mono ?_
  rintro e w1 ⟨m, rfl, hm, hR1, hg1⟩
  have z1 := hg1.size
  have ho1 : Own (w1.alloc (.cells #[] 3)) w.heap.size (.slice (some ⟨w1.heap.size, 0, none⟩) 0 0) [] := (Own.lit0 w1 w.heap.size z1)
  have hR2 := hR1.below ((Below.refl w1.heap.size w1).alloc (Nat.le_refl _) (.cells #[] 3))
  have hg2 := grownBy_alloc' hg1 (.cells #[] 3)
  have hneg : m < 0 ∨ 0 ≤ m := by omega
  clear hR1 hg1 hR
  rcases hneg with hneg | hneg
  all_goals
    go_wp2_with fail
    refine (pick_any g (p + 2) _ _ hR2 (by omega) (by omega)).mono ?_
    rintro e w2 ⟨y1, rfl, hy1, hR3, hg3⟩
    have hy1' := hy1.1 (by omega)
    have ho2 := ho1.kept hg3 (by simp [Value.ownBlock]; omega)
    have hg4 := grownBy_trans hg2 hg3
    go_wp2_with fail
    refine (pick_any g (p + 3) _ _ hR3 (by omega) (by omega)).mono ?_
    rintro e w3 ⟨y2, rfl, hy2, hR4, hg5⟩
    have ho3 := ho2.kept hg5 (by simp [Value.ownBlock]; omega)
    have hg6 := grownBy_trans hg4 hg5
    clear hR3 hg3 hg4 hg5 ho2 hy1 hy2
    by_cases hb : y2 = 0
    · have hd : (y2 == 0) = true := by simp [hb]
      clear hb
      go_wp2_with fail
      refine (pick_any g (p + 4) _ _ hR4 (by omega) (by omega)).mono ?_
      rintro e wc ⟨y3, rfl, hy3, hRc, hg7⟩
      have hy3' := hy3.1 (by omega)
      have hoc := ho3.kept hg7 (by simp [Value.ownBlock]; omega)
      have hgc := grownBy_trans hg6 hg7
      have hRq : ∃ q, Rdr wc g q ∧ q ≤ p + 10 := ⟨_, hRc, by omega⟩
      clear hR4 hg6 hg7 ho3 hy3 hRc
      go_wp2
      first | (obtain ⟨nn, hnn⟩ : ∃ nn, nn = m - y3 := ⟨_, rfl⟩; rw [← hnn]; have hnn2 : nn ≤ 11 := (by omega); clear hnn) | (obtain ⟨nn, hnn⟩ : ∃ nn, nn = -y3 := ⟨_, rfl⟩; rw [← hnn]; have hnn2 : nn ≤ 11 := (by omega); clear hnn)
      go_loopg [5] 12 (fun n v wr => ∃ (l : List Int) (q : Nat), l.length + n = 12 ∧ Own wr w.heap.size v l ∧ Small l ∧ v ≠ .slice none 0 0 ∧ Rdr wr g q ∧ q ≤ p + 10 + 3 * l.length ∧ w.grownBy wr (some g))
      case atStart => obtain ⟨q, h1, h2⟩ := hRq; exact ⟨[], q, by simp, hoc, Small.nil, by simp, h1, by simpa using h2, hgc⟩
      case round =>
        clear hoc hRq hgc
        obtain ⟨l, q, hln, ho, hsm, hvn, hR, hq, hg⟩ := hrel
        obtain ⟨a5, c5, rfl, hrd, hlc, hcm, hblk⟩ := ho.form
        have hz := hg.size
        have HLN := Lib.hid hln
        have hl12 : l.length ≤ 12 := by omega
        have HSM := Lib.hid hsm
        clear hln hrd hblk hcm hsm
        by_cases hlt : (l.length : Int) < nn
        · go_wp2_with fail
          refine (pick_any g q _ _ hR (by omega) (by omega)).mono ?_
          rintro e wa ⟨x1, rfl, hx1, hRa, hga⟩
          have hx1' : -1 ≤ x1 ∧ x1 ≤ 11 := by
            by_cases h : 1 ≤ m
            · have := hx1.1 h; omega
            · have := hx1.2 (by omega); omega
          replace ho := ho.kept hga (ho.ne_g zg)
          replace hg := grownBy_trans hg hga
          clear hx1 hga hR
          go_wp2_with fail
          refine (pick_any g (q + 1) _ _ hRa (by omega) (by omega)).mono ?_
          rintro e wb ⟨x2, rfl, hx2, hRb, hgb⟩
          replace ho := ho.kept hgb (ho.ne_g zg)
          replace hg := grownBy_trans hg hgb
          have hzb := hg.size
          clear hx2 hgb hRa
          by_cases hx0 : x2 = 0
          · have hd2 : (x2 == 0) = true := by simp [hx0]
            clear hx0
            have hmc : m < 1 ∨ (1 ≤ m ∧ m < 3) ∨ (3 ≤ m ∧ m ≤ 3) ∨ 3 < m := by omega
            rcases hmc with hmc | hmc | hmc | hmc
            all_goals try (exfalso; omega)
            all_goals
              go_wp2_with fail
              refine (pick_any g (q + 2) _ _ hRb (by omega) (by omega)).mono ?_
              rintro e wd ⟨x3, rfl, hx3, hRd, hgd⟩
              have hx3' : -1 ≤ x3 ∧ x3 ≤ 11 := by have := hx3.1 (by omega); omega
              have hod := ho.kept hgd (ho.ne_g zg)
              have hgd2 := grownBy_trans hg hgd
              have hzd := hgd2.size
              have hmu := HLN.out
              clear hx3 hgd hRb
              go_wp2_with (at_builtin; refine push_int rfl (.tmp 39) (.tmp 41) rfl w.heap.size _ l x3 rfl hod rfl (by omega) hzd ?_)
              intro v' we oe ne ge
              have hRe := hRd.kept ge (fun k hk => by have := (hod.lt k hk).1; omega)
              have hge := grownBy_own hgd2 hod (Nat.le_refl _) ge
              have hsm2 := HSM.out.push hx3'
              clear ge hod hgd2 hRd
              go_wp2
              go_roundg (gk - 1)
              case measure => omega
              case rel => exact ⟨l ++ [x3], q + 3, by simp; omega, oe, hsm2, ne, hRe, by simp; omega, hge⟩
          · have hd2 : (x2 == 0) = false := by simpa using hx0
            have hmu := HLN.out
            clear hx0
            go_wp2_with (at_builtin; refine push_int rfl (.tmp 39) (.tmp 41) rfl w.heap.size _ l x1 rfl ho rfl (by omega) hzb ?_)
            intro v' we oe ne ge
            have hRe := hRb.kept ge (fun k hk => by have := (ho.lt k hk).1; omega)
            have hge := grownBy_own hg ho (Nat.le_refl _) ge
            have hsm2 := HSM.out.push hx1'
            clear ge ho hg hRb
            go_wp2
            go_roundg (gk - 1)
            case measure => omega
            case rel => exact ⟨l ++ [x1], q + 2, by simp; omega, oe, hsm2, ne, hRe, by simp; omega, hge⟩
        · go_wp2_with fail
          refine (pick_any g q _ _ hR (by omega) (by omega)).mono ?_
          rintro e wa ⟨x1, rfl, hx1, hRa, hga⟩
          replace ho := ho.kept hga (ho.ne_g zg)
          replace hg := grownBy_trans hg hga
          have hza := hg.size
          have hga2 := hRa.lt
          clear hx1 hga hR
          by_cases hx0 : x1 = 0
          · have hd2 : (x1 == 0) = true := by simp [hx0]
            have hc : CellsAt (wa.alloc (.cells #[.int .i64 (-1), .int .i64 m] 3)) wa.heap.size 0 [-1, m] := CellsAt.lit wa [-1, m]
            have hR2 := hRa.below ((Below.refl wa.heap.size wa).alloc (Nat.le_refl _) (.cells #[.int .i64 (-1), .int .i64 m] 3))
            clear hx0
            go_wp2_with fail
            refine (one_any g (q + 1) _ _ [-1, m] _ hR2 (by omega) hc hga2 (by simp) (by simp) 2 rfl).mono ?_
            rintro e wb ⟨z, rfl, hz, hR3, hg3⟩
            have hz2 : -1 ≤ z ∧ z ≤ 11 := by simp at hz; omega
            have hob0 : Own _ _ _ _ := World.ownsRow.alloc ho (.cells #[.int .i64 (-1), .int .i64 m] 3)
            have hob := hob0.kept hg3 (ho.ne_g zg)
            have hgb := grownBy_trans (grownBy_alloc' hg _) hg3
            have hzb := hgb.size
            clear hc hz hg3 ho hg
            go_wp2_with (at_builtin; refine push_int rfl (.tmp 48) (.tmp 53) rfl w.heap.size (.slice a5 l.length c5) l z rfl hob rfl (by omega) hzb ?_)
            intro v' we oe ne ge
            have hRe := hR3.kept ge (fun k hk => by have := (hob.lt k hk).1; omega)
            have hge := grownBy_own hgb hob (Nat.le_refl _) ge
            clear ge hob hgb hR3
            go_wp2
            go_ret2
            exact ⟨m, v', _, _, rfl, hm, oe, by simp; omega, HSM.out.push hz2, ne, hRe, by omega, hge⟩
          by_cases hx01 : x1 = 1
          · have hd2 : (x1 == 0) = false := by simpa using hx0
            have hd3 : (x1 == 1) = true := by simp [hx01]
            clear hx0 hx01
            go_wp2_with (at_builtin; refine push_two rfl (.tmp 58) (.tmp 59) rfl w.heap.size (.slice a5 l.length c5) l 0 0 rfl ho rfl (by omega) hza ?_)
            intro v' we oe ne ge
            have hRe := hRa.kept ge (fun k hk => by have := (ho.lt k hk).1; omega)
            have hge := grownBy_own hg ho (Nat.le_refl _) ge
            have hs2 := (HSM.out.push (x := 0) (by omega)).push (x := 0) (by omega)
            clear ge ho hg hRa
            go_wp2
            go_ret2
            exact ⟨m, v', _, _, rfl, hm, oe, by simp; omega, by simpa using hs2, ne, hRe, by omega, hge⟩
          · have hd2 : (x1 == 0) = false := by simpa using hx0
            have hd3 : (x1 == 1) = false := by simpa using hx01
            clear hx0 hx01
            go_wp2
            go_ret2
            exact ⟨m, _, l, _, rfl, hm, ho, by omega, HSM.out, hvn, hRa, by omega, hg⟩
    · have hd : (y2 == 0) = false := by simpa using hb
      clear hb
      have hRq : ∃ q, Rdr w3 g q ∧ q ≤ p + 10 := ⟨_, hR4, by omega⟩
      have hoc := ho3
      have hgc := hg6
      clear hR4 ho3 hg6
      go_wp2
      obtain ⟨nn, hnn⟩ : ∃ nn, nn = y1 := ⟨_, rfl⟩
      rw [← hnn]
      have hnn2 : nn ≤ 11 := by omega
      clear hnn
      go_loopg [5] 12 (fun n v wr => ∃ (l : List Int) (q : Nat), l.length + n = 12 ∧ Own wr w.heap.size v l ∧ Small l ∧ v ≠ .slice none 0 0 ∧ Rdr wr g q ∧ q ≤ p + 10 + 3 * l.length ∧ w.grownBy wr (some g))
      case atStart => obtain ⟨q, h1, h2⟩ := hRq; exact ⟨[], q, by simp, hoc, Small.nil, by simp, h1, by simpa using h2, hgc⟩
      case round =>
        clear hoc hRq hgc
        obtain ⟨l, q, hln, ho, hsm, hvn, hR, hq, hg⟩ := hrel
        obtain ⟨a5, c5, rfl, hrd, hlc, hcm, hblk⟩ := ho.form
        have hz := hg.size
        have HLN := Lib.hid hln
        have hl12 : l.length ≤ 12 := by omega
        have HSM := Lib.hid hsm
        clear hln hrd hblk hcm hsm
        by_cases hlt : (l.length : Int) < nn
        · go_wp2_with fail
          refine (pick_any g q _ _ hR (by omega) (by omega)).mono ?_
          rintro e wa ⟨x1, rfl, hx1, hRa, hga⟩
          have hx1' : -1 ≤ x1 ∧ x1 ≤ 11 := by
            by_cases h : 1 ≤ m
            · have := hx1.1 h; omega
            · have := hx1.2 (by omega); omega
          replace ho := ho.kept hga (ho.ne_g zg)
          replace hg := grownBy_trans hg hga
          clear hx1 hga hR
          go_wp2_with fail
          refine (pick_any g (q + 1) _ _ hRa (by omega) (by omega)).mono ?_
          rintro e wb ⟨x2, rfl, hx2, hRb, hgb⟩
          replace ho := ho.kept hgb (ho.ne_g zg)
          replace hg := grownBy_trans hg hgb
          have hzb := hg.size
          clear hx2 hgb hRa
          by_cases hx0 : x2 = 0
          · have hd2 : (x2 == 0) = true := by simp [hx0]
            clear hx0
            have hmc : m < 1 ∨ (1 ≤ m ∧ m < 3) ∨ (3 ≤ m ∧ m ≤ 3) ∨ 3 < m := by omega
            rcases hmc with hmc | hmc | hmc | hmc
            all_goals try (exfalso; omega)
            all_goals
              go_wp2_with fail
              refine (pick_any g (q + 2) _ _ hRb (by omega) (by omega)).mono ?_
              rintro e wd ⟨x3, rfl, hx3, hRd, hgd⟩
              have hx3' : -1 ≤ x3 ∧ x3 ≤ 11 := by have := hx3.1 (by omega); omega
              have hod := ho.kept hgd (ho.ne_g zg)
              have hgd2 := grownBy_trans hg hgd
              have hzd := hgd2.size
              have hmu := HLN.out
              clear hx3 hgd hRb
              go_wp2_with (at_builtin; refine push_int rfl (.tmp 39) (.tmp 41) rfl w.heap.size _ l x3 rfl hod rfl (by omega) hzd ?_)
              intro v' we oe ne ge
              have hRe := hRd.kept ge (fun k hk => by have := (hod.lt k hk).1; omega)
              have hge := grownBy_own hgd2 hod (Nat.le_refl _) ge
              have hsm2 := HSM.out.push hx3'
              clear ge hod hgd2 hRd
              go_wp2
              go_roundg (gk - 1)
              case measure => omega
              case rel => exact ⟨l ++ [x3], q + 3, by simp; omega, oe, hsm2, ne, hRe, by simp; omega, hge⟩
          · have hd2 : (x2 == 0) = false := by simpa using hx0
            have hmu := HLN.out
            clear hx0
            go_wp2_with (at_builtin; refine push_int rfl (.tmp 39) (.tmp 41) rfl w.heap.size _ l x1 rfl ho rfl (by omega) hzb ?_)
            intro v' we oe ne ge
            have hRe := hRb.kept ge (fun k hk => by have := (ho.lt k hk).1; omega)
            have hge := grownBy_own hg ho (Nat.le_refl _) ge
            have hsm2 := HSM.out.push hx1'
            clear ge ho hg hRb
            go_wp2
            go_roundg (gk - 1)
            case measure => omega
            case rel => exact ⟨l ++ [x1], q + 2, by simp; omega, oe, hsm2, ne, hRe, by simp; omega, hge⟩
        · go_wp2_with fail
          refine (pick_any g q _ _ hR (by omega) (by omega)).mono ?_
          rintro e wa ⟨x1, rfl, hx1, hRa, hga⟩
          replace ho := ho.kept hga (ho.ne_g zg)
          replace hg := grownBy_trans hg hga
          have hza := hg.size
          have hga2 := hRa.lt
          clear hx1 hga hR
          by_cases hx0 : x1 = 0
          · have hd2 : (x1 == 0) = true := by simp [hx0]
            have hc : CellsAt (wa.alloc (.cells #[.int .i64 (-1), .int .i64 m] 3)) wa.heap.size 0 [-1, m] := CellsAt.lit wa [-1, m]
            have hR2 := hRa.below ((Below.refl wa.heap.size wa).alloc (Nat.le_refl _) (.cells #[.int .i64 (-1), .int .i64 m] 3))
            clear hx0
            go_wp2_with fail
            refine (one_any g (q + 1) _ _ [-1, m] _ hR2 (by omega) hc hga2 (by simp) (by simp) 2 rfl).mono ?_
            rintro e wb ⟨z, rfl, hz, hR3, hg3⟩
            have hz2 : -1 ≤ z ∧ z ≤ 11 := by simp at hz; omega
            have hob0 : Own _ _ _ _ := World.ownsRow.alloc ho (.cells #[.int .i64 (-1), .int .i64 m] 3)
            have hob := hob0.kept hg3 (ho.ne_g zg)
            have hgb := grownBy_trans (grownBy_alloc' hg _) hg3
            have hzb := hgb.size
            clear hc hz hg3 ho hg
            go_wp2_with (at_builtin; refine push_int rfl (.tmp 48) (.tmp 53) rfl w.heap.size (.slice a5 l.length c5) l z rfl hob rfl (by omega) hzb ?_)
            intro v' we oe ne ge
            have hRe := hR3.kept ge (fun k hk => by have := (hob.lt k hk).1; omega)
            have hge := grownBy_own hgb hob (Nat.le_refl _) ge
            clear ge hob hgb hR3
            go_wp2
            go_ret2
            exact ⟨m, v', _, _, rfl, hm, oe, by simp; omega, HSM.out.push hz2, ne, hRe, by omega, hge⟩
          by_cases hx01 : x1 = 1
          · have hd2 : (x1 == 0) = false := by simpa using hx0
            have hd3 : (x1 == 1) = true := by simp [hx01]
            clear hx0 hx01
            go_wp2_with (at_builtin; refine push_two rfl (.tmp 58) (.tmp 59) rfl w.heap.size (.slice a5 l.length c5) l 0 0 rfl ho rfl (by omega) hza ?_)
            intro v' we oe ne ge
            have hRe := hRa.kept ge (fun k hk => by have := (ho.lt k hk).1; omega)
            have hge := grownBy_own hg ho (Nat.le_refl _) ge
            have hs2 := (HSM.out.push (x := 0) (by omega)).push (x := 0) (by omega)
            clear ge ho hg hRa
            go_wp2
            go_ret2
            exact ⟨m, v', _, _, rfl, hm, oe, by simp; omega, by simpa using hs2, ne, hRe, by omega, hge⟩
          · have hd2 : (x1 == 0) = false := by simpa using hx0
            have hd3 : (x1 == 1) = false := by simpa using hx01
            clear hx0 hx01
            go_wp2
            go_ret2
            exact ⟨m, _, l, _, rfl, hm, ho, by omega, HSM.out, hvn, hRa, by omega, hg⟩
end Go.Proofs.YtoaiaindcmihjaaGreatDoor
/-
  Chapter 3's draws. (Written by gendraw.py.)
-/
namespace Go.Proofs.YtoaiaindcmihjaaGreatDoor
open Go.RowKit

theorem one_lit (g p : Nat) (w : World) (l : List Int) (n : Nat) (hR : Rdr w g p) (hp : p ≤ 1000000) (h0 : 0 < l.length) (hl : l.length ≤ 1000000) (hn : l.length = n) :
    Calls Tryz.prog 41 #[.pointer (some ⟨g, 0, none⟩), .slice (some ⟨w.heap.size, 0, none⟩) n n] (w.alloc (.cells (l.map (Value.int .i64)).toArray 3)) fun e w' => ∃ y, e = .returned (.int .i64 y) ∧ y ∈ l ∧ Rdr w' g (p + 1) ∧ w.grownBy w' (some g) := by
  have hlt := hR.lt
  refine (one_any g p w.heap.size n l _ (hR.below ((Below.refl _ _).alloc (Nat.le_refl _) _)) hp (CellsAt.lit w l) hlt h0 hl n hn).mono ?_
  rintro e w' ⟨y, rfl, hy, hR', hg⟩
  exact ⟨y, rfl, hy, hR', grownBy_trans (World.grownBy_alloc w _ _) hg⟩

theorem php : ∀ (n : Nat) (l : List Int) (f : Nat → Int), (∀ i j, i ≤ n → j ≤ n → f i = f j → i = j) → (∀ i, i ≤ n → f i ∈ l) → n < l.length := by
  intro n
  induction n with
  | zero => intro l f _ h; exact List.length_pos_of_mem (h 0 (Nat.le_refl _))
  | succ n ih =>
    intro l f hi h
    have h1 := h (n + 1) (Nat.le_refl _)
    have h2 := ih (l.erase (f (n + 1))) f (fun i j a b => hi i j (by omega) (by omega)) (fun i a => by
      rw [List.mem_erase_of_ne]
      · exact h i (by omega)
      · intro e; have := hi i (n + 1) (by omega) (Nat.le_refl _) e; omega)
    rw [List.length_erase_of_mem h1] at h2
    omega
/-- Some number is not among fewer than 31: how far it is. -/
theorem next_free (l : List Int) (x : Int) (hx : 0 ≤ x ∧ x ≤ 30) (hl : l.length ≤ 20) : ∃ D : Nat, D ≤ 30 ∧ (x + D) % 31 ∉ l ∧ ∀ d : Nat, d < D → (x + d) % 31 ∈ l := by
  have hex : ∃ D : Nat, D ≤ 30 ∧ (x + D) % 31 ∉ l := by
    apply Classical.byContradiction
    intro hn
    have := php 30 l (fun d => (x + d) % 31) (fun i j a b e => by have e' : (x + i) % 31 = (x + j) % 31 := e; omega) (fun i a => Classical.byContradiction fun h => hn ⟨i, a, h⟩)
    omega
  have key : ∀ n : Nat, (∃ D : Nat, D ≤ n ∧ D ≤ 30 ∧ (x + D) % 31 ∉ l) → ∃ D : Nat, D ≤ 30 ∧ (x + D) % 31 ∉ l ∧ ∀ d : Nat, d < D → (x + d) % 31 ∈ l := by
    intro n
    induction n with
    | zero =>
      rintro ⟨D, h1, h2, h3⟩
      exact ⟨D, h2, h3, fun d hd => by omega⟩
    | succ n ih =>
      rintro ⟨D, h1, h2, h3⟩
      by_cases e : ∃ D : Nat, D ≤ n ∧ D ≤ 30 ∧ (x + D) % 31 ∉ l
      · exact ih e
      · refine ⟨D, h2, h3, fun d hd => Classical.byContradiction fun h => e ⟨d, by omega, by omega, h⟩⟩
  obtain ⟨D, h1, h2⟩ := hex
  exact key D ⟨D, Nat.le_refl _, h1, h2⟩

set_option maxHeartbeats 8000000 in
set_option maxRecDepth 100000 in
theorem someKeysQ_any (g p : Nat) (w : World) (hR : Rdr w g p) (hp : p ≤ 900000) :
    Calls Tryz.prog 46 #[.pointer (some ⟨g, 0, none⟩)] w fun e w' => ∃ (v : Value) (l : List Int) (q : Nat), e = .returned v ∧ Own w' w.heap.size v l ∧ l.length ≤ 9 ∧ (∀ x ∈ l, -1 ≤ x ∧ x ≤ 31) ∧ Rdr w' g q ∧ q ≤ p + 100 ∧ w.grownBy w' (some g) := by
  have zg := hR.lt
  go_enter Tryz.func46, Tryz.ntmps46
  have ho1 : Own (w.alloc (.cells #[] 3)) w.heap.size (.slice (some ⟨w.heap.size, 0, none⟩) 0 0) [] := (Own.lit0 w w.heap.size (Nat.le_refl _))
  have hR2 := hR.below ((Below.refl w.heap.size w).alloc (Nat.le_refl _) (.cells #[] 3))
  have hg2 := World.grownBy_alloc w (.cells #[] 3) (some g)
  obtain ⟨w0, e0⟩ : ∃ w0, w0 = w.alloc (.cells #[] 3) := ⟨_, rfl⟩
  rw [← e0] at ho1 hR2 hg2
  have E0 := Lib.hid e0
  have z0 : w0.heap.size = w.heap.size + 1 := by rw [e0]; simp
  have hone := one_lit g p w0 [3, 4, 2, 5, 1, 0, 6] 7 hR2 (by omega) (by simp) (by simp) rfl
  rw [z0] at hone
  have HONE := Lib.hid hone
  clear e0 hR hR2 hone
  go_wp2_with fail
  rw [← E0.out]
  refine HONE.out.mono ?_
  rintro e w2 ⟨nn, rfl, hnn, hR3, hg3⟩
  have hnn2 : nn ≤ 6 := by simp at hnn; omega
  have ho2 := ho1.kept hg3 (by simp [Value.ownBlock]; omega)
  have hg4 := grownBy_trans hg2 hg3
  clear hnn hg3 hg2 ho1 HONE
  go_wp2
  go_loopg [3] 7 (fun n v wr => ∃ (l : List Int) (q : Nat), l.length + n = 7 ∧ Own wr w.heap.size v l ∧ (∀ x ∈ l, -1 ≤ x ∧ x ≤ 31) ∧ Rdr wr g q ∧ q ≤ p + 1 + l.length ∧ w.grownBy wr (some g))
  case atStart => exact ⟨[], p + 1, by simp, ho2, by simp, hR3, by simp, hg4⟩
  case round =>
    clear ho2 hR3 hg4
    obtain ⟨l, q, hln, ho, hsm, hR, hq, hg⟩ := hrel
    obtain ⟨a5, c5, rfl, hrd, hlc, hcm, hblk⟩ := ho.form
    have hz := hg.size
    have HLN := Lib.hid hln
    have hl7 : l.length ≤ 7 := by omega
    have HSM := Lib.hid hsm
    clear hln hblk hcm hsm
    by_cases hlt : (l.length : Int) < nn
    · go_wp2_with fail
      refine (pick_any g q _ _ hR (by omega) (by omega)).mono ?_
      rintro e wa ⟨x1, rfl, hx1, hRa, hga⟩
      have hx1' := hx1.1 (by omega)
      replace ho := ho.kept hga (ho.ne_g zg)
      replace hg := grownBy_trans hg hga
      have hza := hg.size
      have hrd2 := ho.reads
      obtain ⟨D, hD, hno, hin⟩ := next_free l x1 (by omega) (by omega)
      have HNO := Lib.hid hno
      have HIN := Lib.hid hin
      clear hx1 hga hR hrd hno hin
      obtain ⟨gko, hgko⟩ : ∃ y, y = gk := ⟨_, rfl⟩
      rw [← hgko] at HLN
      have hgk1 : 1 ≤ gk := by have := HLN.out; omega
      rw [← hgko] at hgk1
      have HGK := Lib.hid hgko
      clear hgko
      have hx30 : Hid (x1 = (x1 + (0 : Nat)) % 31) := by show x1 = (x1 + (0 : Nat)) % 31; omega
      go_wp2_with fail
      go_loopg [5] D (fun n s wr => ∃ d : Nat, d + n = D ∧ s = .int .i64 ((x1 + d) % 31) ∧ wr = wa)
      case atStart => exact ⟨0, by omega, by rw [← hx30.out], rfl⟩
      case round =>
        obtain ⟨d, hdn, rfl, rfl⟩ := hrel
        have hDN := Lib.hid hdn
        have hdD : d ≤ D := by omega
        clear hdn
        obtain ⟨X, hX⟩ : ∃ X, X = (x1 + d) % 31 := ⟨_, rfl⟩
        have hXr : 0 ≤ X ∧ X ≤ 30 := by omega
        have hXs : (X + 1) % 31 = (x1 + (d + 1 : Nat)) % 31 := by omega
        have hh := has_any a5 l l.length c5 X wr hrd2 rfl (by omega)
        rw [← hX]
        by_cases e : d = D
        · have hI : inL l X = false := inL_no (by rw [hX, e]; exact HNO.out)
          rw [hI] at hh
          have HH := Lib.hid hh
          clear e hI hh hX hXs
          go_wp2_with fail
          refine HH.out.mono ?_
          rintro e w' ⟨rfl, rfl⟩
          go_wp2_with (at_builtin; refine push_int rfl (.tmp 22) (.tmp 24) rfl w.heap.size _ l X rfl ho rfl (by omega) hza ?_)
          intro v' we oe ne ge
          have hRe := hRa.kept ge (fun k hk => by have := (ho.lt k hk).1; omega)
          have hge := grownBy_own hg ho (Nat.le_refl _) ge
          have hsm2 : ∀ x ∈ l ++ [X], -1 ≤ x ∧ x ≤ 31 := by
            intro x hx
            rcases List.mem_append.1 hx with h | h
            · exact HSM.out x h
            · simp only [List.mem_singleton] at h; subst h; omega
          clear ge ho hg hRa
          go_wp2
          go_roundg (gko - 1)
          case measure => have := HGK.out; omega
          case rel => exact ⟨l ++ [X], q + 1, by have := HLN.out; simp; omega, oe, hsm2, hRe, by simp; omega, hge⟩
        · have hI : inL l X = true := inL_yes (by rw [hX]; exact HIN.out d (by omega))
          rw [hI] at hh
          have HH := Lib.hid hh
          have HXS := Lib.hid hXs
          clear hI hh hX hXs
          go_wp2_with fail
          refine HH.out.mono ?_
          rintro e w' ⟨rfl, rfl⟩
          go_wp2
          go_roundg (gk - 1)
          case measure => have := hDN.out; omega
          case rel => exact ⟨d + 1, by have := hDN.out; omega, by rw [← HXS.out], rfl⟩
    · clear hrd
      go_wp2_with fail
      refine (pick_any g q _ _ hR (by omega) (by omega)).mono ?_
      rintro e wa ⟨x1, rfl, hx1, hRa, hga⟩
      replace ho := ho.kept hga (ho.ne_g zg)
      replace hg := grownBy_trans hg hga
      have hza := hg.size
      have hga2 := hRa.lt
      clear hx1 hga hR
      by_cases hx0 : x1 = 0
      · have hd2 : (x1 == 0) = true := by simp [hx0]
        clear hx0
        go_wp2_with fail
        refine (one_lit g (q + 1) wa [31, -1] 2 hRa (by omega) (by simp) (by simp) rfl).mono ?_
        rintro e wb ⟨z, rfl, hzz, hR3, hg3⟩
        have hz2 : -1 ≤ z ∧ z ≤ 31 := by simp at hzz; omega
        have hob := ho.kept hg3 (ho.ne_g zg)
        have hgb := grownBy_trans hg hg3
        have hzb := hgb.size
        clear hzz hg3 ho hg hRa
        go_wp2_with (at_builtin; refine push_int rfl (.tmp 30) (.tmp 34) rfl w.heap.size (.slice a5 l.length c5) l z rfl hob rfl (by omega) hzb ?_)
        intro v' we oe ne ge
        have hRe := hR3.kept ge (fun k hk => by have := (hob.lt k hk).1; omega)
        have hge := grownBy_own hgb hob (Nat.le_refl _) ge
        have hsm2 : ∀ x ∈ l ++ [z], -1 ≤ x ∧ x ≤ 31 := by
          intro x hx
          rcases List.mem_append.1 hx with h | h
          · exact HSM.out x h
          · simp only [List.mem_singleton] at h; subst h; omega
        clear ge hob hgb hR3
        go_wp2
        go_ret
        exact ⟨v', _, _, rfl, oe, by simp; omega, hsm2, hRe, by omega, hge⟩
      by_cases hx01 : x1 = 1
      · have hd2 : (x1 == 0) = false := by simpa using hx0
        have hd3 : (x1 == 1) = true := by simp [hx01]
        clear hx0 hx01
        go_wp2_with (at_builtin; refine push_two rfl (.tmp 38) (.tmp 39) rfl w.heap.size (.slice a5 l.length c5) l 3 3 rfl ho rfl (by omega) hza ?_)
        intro v' we oe ne ge
        have hRe := hRa.kept ge (fun k hk => by have := (ho.lt k hk).1; omega)
        have hge := grownBy_own hg ho (Nat.le_refl _) ge
        have hs2 : ∀ x ∈ l ++ [3, 3], -1 ≤ x ∧ x ≤ 31 := by
          intro x hx
          rcases List.mem_append.1 hx with h | h
          · exact HSM.out x h
          · simp at h; subst h; omega
        clear ge ho hg hRa
        go_wp2
        go_ret
        exact ⟨v', _, _, rfl, oe, by simp; omega, hs2, hRe, by omega, hge⟩
      · have hd2 : (x1 == 0) = false := by simpa using hx0
        have hd3 : (x1 == 1) = false := by simpa using hx01
        clear hx0 hx01
        go_wp2
        go_ret
        exact ⟨_, l, _, rfl, ho, by omega, HSM.out, hRa, by omega, hg⟩
theorem someKeys_any (g p : Nat) (w : World) (hR : Rdr w g p) (hp : p ≤ 900000) :
    Calls Tryz.prog 46 #[.pointer (some ⟨g, 0, none⟩)] w fun e w' => ∃ (v : Value) (l : List Int) (q : Nat), e = .returned v ∧ Own w' w.heap.size v l ∧ l.length ≤ 9 ∧ (∀ x ∈ l, -1 ≤ x ∧ x ≤ 31) ∧ Rdr w' g q ∧ w.grownBy w' (some g) := by
  refine (someKeysQ_any g p w hR hp).mono ?_
  rintro e w' ⟨v, l, q, h1, h2, h3, h4, h5, _, h6⟩
  exact ⟨v, l, q, h1, h2, h3, h4, h5, h6⟩

end Go.Proofs.YtoaiaindcmihjaaGreatDoor
/-
  Chapter 6's draws: names.
-/
namespace Go.Proofs.YtoaiaindcmihjaaGreatDoor
open Go.RowKit

/-- Some number is not among fewer than 64: how far it is. -/
theorem next_freeN (l : List Int) (x : Int) (hx : 0 ≤ x ∧ x ≤ 63) (hl : l.length ≤ 20) : ∃ D : Nat, D ≤ 63 ∧ (x + D) % 64 ∉ l ∧ ∀ d : Nat, d < D → (x + d) % 64 ∈ l := by
  have hex : ∃ D : Nat, D ≤ 63 ∧ (x + D) % 64 ∉ l := by
    apply Classical.byContradiction
    intro hn
    have := php 63 l (fun d => (x + d) % 64) (fun i j a b e => by have e' : (x + i) % 64 = (x + j) % 64 := e; omega) (fun i a => Classical.byContradiction fun h => hn ⟨i, a, h⟩)
    omega
  have key : ∀ n : Nat, (∃ D : Nat, D ≤ n ∧ D ≤ 63 ∧ (x + D) % 64 ∉ l) → ∃ D : Nat, D ≤ 63 ∧ (x + D) % 64 ∉ l ∧ ∀ d : Nat, d < D → (x + d) % 64 ∈ l := by
    intro n
    induction n with
    | zero =>
      rintro ⟨D, h1, h2, h3⟩
      exact ⟨D, h2, h3, fun d hd => by omega⟩
    | succ n ih =>
      rintro ⟨D, h1, h2, h3⟩
      by_cases e : ∃ D : Nat, D ≤ n ∧ D ≤ 63 ∧ (x + D) % 64 ∉ l
      · exact ih e
      · refine ⟨D, h2, h3, fun d hd => Classical.byContradiction fun h => e ⟨d, by omega, by omega, h⟩⟩
  obtain ⟨D, h1, h2⟩ := hex
  exact key D ⟨D, Nat.le_refl _, h1, h2⟩

set_option maxHeartbeats 8000000 in
set_option maxRecDepth 100000 in
theorem someNames_any (g p : Nat) (w : World) (hR : Rdr w g p) (hp : p ≤ 900000) :
    Calls Tryz.prog 28 #[.pointer (some ⟨g, 0, none⟩)] w fun e w' => ∃ (v : Value) (l : List Int) (q : Nat), e = .returned v ∧ Own w' w.heap.size v l ∧ l.length ≤ 15 ∧ (∀ x ∈ l, -1 ≤ x ∧ x ≤ 64) ∧ Rdr w' g q ∧ q ≤ p + 100 ∧ w.grownBy w' (some g) := by
  have zg := hR.lt
  go_enter Tryz.func28, Tryz.ntmps28
  have ho1 : Own (w.alloc (.cells #[] 3)) w.heap.size (.slice (some ⟨w.heap.size, 0, none⟩) 0 0) [] := (Own.lit0 w w.heap.size (Nat.le_refl _))
  have hR2 := hR.below ((Below.refl w.heap.size w).alloc (Nat.le_refl _) (.cells #[] 3))
  have hg2 := World.grownBy_alloc w (.cells #[] 3) (some g)
  obtain ⟨w0, e0⟩ : ∃ w0, w0 = w.alloc (.cells #[] 3) := ⟨_, rfl⟩
  rw [← e0] at ho1 hR2 hg2
  have E0 := Lib.hid e0
  have z0 : w0.heap.size = w.heap.size + 1 := by rw [e0]; simp
  have hone := one_lit g p w0 [5, 6, 4, 8, 3, 12, 2, 1, 0] 9 hR2 (by omega) (by simp) (by simp) rfl
  rw [z0] at hone
  have HONE := Lib.hid hone
  clear e0 hR hR2 hone
  go_wp2_with fail
  rw [← E0.out]
  refine HONE.out.mono ?_
  rintro e w2 ⟨nn, rfl, hnn, hR3, hg3⟩
  have hnn2 : nn ≤ 12 := by simp at hnn; omega
  have ho2 := ho1.kept hg3 (by simp [Value.ownBlock]; omega)
  have hg4 := grownBy_trans hg2 hg3
  clear hnn hg3 hg2 ho1 HONE
  go_wp2
  go_loopg [3] 13 (fun n v wr => ∃ (l : List Int) (q : Nat), l.length + n = 13 ∧ Own wr w.heap.size v l ∧ (∀ x ∈ l, -1 ≤ x ∧ x ≤ 64) ∧ Rdr wr g q ∧ q ≤ p + 1 + 4 * l.length ∧ w.grownBy wr (some g))
  case atStart => exact ⟨[], p + 1, by simp, ho2, by simp, hR3, by simp, hg4⟩
  case round =>
    clear ho2 hR3 hg4
    obtain ⟨l, q, hln, ho, hsm, hR, hq, hg⟩ := hrel
    obtain ⟨a5, c5, rfl, hrd, hlc, hcm, hblk⟩ := ho.form
    have hz := hg.size
    have HLN := Lib.hid hln
    have hl7 : l.length ≤ 13 := by omega
    have HSM := Lib.hid hsm
    clear hln hblk hcm hsm
    by_cases hlt : (l.length : Int) < nn
    · go_wp2_with fail
      refine (pick_any g q _ _ hR (by omega) (by omega)).mono ?_
      rintro e wb ⟨y1, rfl, hy1, hRb, hgb⟩
      have hy1' := hy1.1 (by omega)
      replace ho := ho.kept hgb (ho.ne_g zg)
      replace hg := grownBy_trans hg hgb
      clear hy1 hgb hR
      go_wp2_with fail
      refine (pick_any g (q + 1) _ _ hRb (by omega) (by omega)).mono ?_
      rintro e wc ⟨y2, rfl, hy2, hRc, hgc⟩
      have hy2' := hy2.1 (by omega)
      replace ho := ho.kept hgc (ho.ne_g zg)
      replace hg := grownBy_trans hg hgc
      have e8 : IntKind.i64.wrap (8 * y2) = 8 * y2 := IntWalk.i64_in _ (by omega)
      clear hy2 hgc hRb
      go_wp2_with fail
      refine (pick_any g (q + 1 + 1) _ _ hRc (by omega) (by omega)).mono ?_
      rintro e wd ⟨y3, rfl, hy3, hRd, hgd⟩
      have hy3' := hy3.1 (by omega)
      replace ho := ho.kept hgd (ho.ne_g zg)
      replace hg := grownBy_trans hg hgd
      clear hy3 hgd hRc
      go_wp2_with fail
      refine (one_lit g (q + 1 + 1 + 1) wd [y1, 8 * y2, y3] 3 hRd (by omega) (by simp) (by simp) rfl).mono ?_
      rintro e wa ⟨x1, rfl, hx1, hRa, hga⟩
      have hx1' : 0 ≤ x1 ∧ x1 ≤ 63 := by simp at hx1; omega
      replace ho := ho.kept hga (ho.ne_g zg)
      replace hg := grownBy_trans hg hga
      have hza := hg.size
      have hrd2 := ho.reads
      have hR := hRd
      clear hRd
      obtain ⟨D, hD, hno, hin⟩ := next_freeN l x1 (by omega) (by omega)
      have HNO := Lib.hid hno
      have HIN := Lib.hid hin
      clear hx1 hga hR hrd hno hin
      obtain ⟨gko, hgko⟩ : ∃ y, y = gk := ⟨_, rfl⟩
      rw [← hgko] at HLN
      have hgk1 : 1 ≤ gk := by have := HLN.out; omega
      rw [← hgko] at hgk1
      have HGK := Lib.hid hgko
      clear hgko
      have hx30 : Hid (x1 = (x1 + (0 : Nat)) % 64) := by show x1 = (x1 + (0 : Nat)) % 64; omega
      go_wp2_with fail
      go_loopg [5] D (fun n s wr => ∃ d : Nat, d + n = D ∧ s = .int .i64 ((x1 + d) % 64) ∧ wr = wa)
      case atStart => exact ⟨0, by omega, by rw [← hx30.out], rfl⟩
      case round =>
        obtain ⟨d, hdn, rfl, rfl⟩ := hrel
        have hDN := Lib.hid hdn
        have hdD : d ≤ D := by omega
        clear hdn
        obtain ⟨X, hX⟩ : ∃ X, X = (x1 + d) % 64 := ⟨_, rfl⟩
        have hXr : 0 ≤ X ∧ X ≤ 63 := by omega
        have hXs : (X + 1) % 64 = (x1 + (d + 1 : Nat)) % 64 := by omega
        have hh := has_any a5 l l.length c5 X wr hrd2 rfl (by omega)
        rw [← hX]
        by_cases e : d = D
        · have hI : inL l X = false := inL_no (by rw [hX, e]; exact HNO.out)
          rw [hI] at hh
          have HH := Lib.hid hh
          clear e hI hh hX hXs
          go_wp2_with fail
          refine HH.out.mono ?_
          rintro e w' ⟨rfl, rfl⟩
          go_wp2_with (at_builtin; refine push_int rfl (.tmp 30) (.tmp 32) rfl w.heap.size _ l X rfl ho rfl (by omega) hza ?_)
          intro v' we oe ne ge
          have hRe := hRa.kept ge (fun k hk => by have := (ho.lt k hk).1; omega)
          have hge := grownBy_own hg ho (Nat.le_refl _) ge
          have hsm2 : ∀ x ∈ l ++ [X], -1 ≤ x ∧ x ≤ 64 := by
            intro x hx
            rcases List.mem_append.1 hx with h | h
            · exact HSM.out x h
            · simp only [List.mem_singleton] at h; subst h; omega
          clear ge ho hg hRa
          go_wp2
          go_roundg (gko - 1)
          case measure => have := HGK.out; omega
          case rel => exact ⟨l ++ [X], q + 1 + 1 + 1 + 1, by have := HLN.out; simp; omega, oe, hsm2, hRe, by simp; omega, hge⟩
        · have hI : inL l X = true := inL_yes (by rw [hX]; exact HIN.out d (by omega))
          rw [hI] at hh
          have HH := Lib.hid hh
          have HXS := Lib.hid hXs
          clear hI hh hX hXs
          go_wp2_with fail
          refine HH.out.mono ?_
          rintro e w' ⟨rfl, rfl⟩
          go_wp2
          go_roundg (gk - 1)
          case measure => have := hDN.out; omega
          case rel => exact ⟨d + 1, by have := hDN.out; omega, by rw [← HXS.out], rfl⟩
    · clear hrd
      go_wp2_with fail
      refine (pick_any g q _ _ hR (by omega) (by omega)).mono ?_
      rintro e wa ⟨x1, rfl, hx1, hRa, hga⟩
      replace ho := ho.kept hga (ho.ne_g zg)
      replace hg := grownBy_trans hg hga
      have hza := hg.size
      have hga2 := hRa.lt
      clear hx1 hga hR
      by_cases hx0 : x1 = 0
      · have hd2 : (x1 == 0) = true := by simp [hx0]
        clear hx0
        go_wp2_with fail
        refine (one_lit g (q + 1) wa [64, -1] 2 hRa (by omega) (by simp) (by simp) rfl).mono ?_
        rintro e wb ⟨z, rfl, hzz, hR3, hg3⟩
        have hz2 : -1 ≤ z ∧ z ≤ 64 := by simp at hzz; omega
        have hob := ho.kept hg3 (ho.ne_g zg)
        have hgb := grownBy_trans hg hg3
        have hzb := hgb.size
        clear hzz hg3 ho hg hRa
        go_wp2_with (at_builtin; refine push_int rfl (.tmp 38) (.tmp 42) rfl w.heap.size (.slice a5 l.length c5) l z rfl hob rfl (by omega) hzb ?_)
        intro v' we oe ne ge
        have hRe := hR3.kept ge (fun k hk => by have := (hob.lt k hk).1; omega)
        have hge := grownBy_own hgb hob (Nat.le_refl _) ge
        have hsm2 : ∀ x ∈ l ++ [z], -1 ≤ x ∧ x ≤ 64 := by
          intro x hx
          rcases List.mem_append.1 hx with h | h
          · exact HSM.out x h
          · simp only [List.mem_singleton] at h; subst h; omega
        clear ge hob hgb hR3
        go_wp2
        go_ret
        exact ⟨v', _, _, rfl, oe, by simp; omega, hsm2, hRe, by omega, hge⟩
      by_cases hx01 : x1 = 1
      · have hd2 : (x1 == 0) = false := by simpa using hx0
        have hd3 : (x1 == 1) = true := by simp [hx01]
        clear hx0 hx01
        go_wp2_with (at_builtin; refine push_two rfl (.tmp 46) (.tmp 47) rfl w.heap.size (.slice a5 l.length c5) l 5 5 rfl ho rfl (by omega) hza ?_)
        intro v' we oe ne ge
        have hRe := hRa.kept ge (fun k hk => by have := (ho.lt k hk).1; omega)
        have hge := grownBy_own hg ho (Nat.le_refl _) ge
        have hs2 : ∀ x ∈ l ++ [5, 5], -1 ≤ x ∧ x ≤ 64 := by
          intro x hx
          rcases List.mem_append.1 hx with h | h
          · exact HSM.out x h
          · simp at h; subst h; omega
        clear ge ho hg hRa
        go_wp2
        go_ret
        exact ⟨v', _, _, rfl, oe, by simp; omega, hs2, hRe, by omega, hge⟩
      · have hd2 : (x1 == 0) = false := by simpa using hx0
        have hd3 : (x1 == 1) = false := by simpa using hx01
        clear hx0 hx01
        go_wp2
        go_ret
        exact ⟨_, l, _, rfl, ho, by omega, HSM.out, hRa, by omega, hg⟩

end Go.Proofs.YtoaiaindcmihjaaGreatDoor
/-
  Chapter 6's draws: LineOf, LineMoves, TreeText.
-/
namespace Go.Proofs.YtoaiaindcmihjaaGreatDoor
open Go.RowKit

set_option maxHeartbeats 4000000 in
theorem drawTreeText_any (a : Option Addr) (n cap : Nat) (w : World) (hB : Bytes w w.heap.size a n) (hn : n ≤ 9223372036854775807) (hc : n ≤ cap) :
    Calls Tryz.prog 8 #[.slice a n cap] w fun e w' => ∃ (v : Value) (l : List Int), e = .returned v ∧ Own w' w.heap.size v l ∧ l.length ≤ 15 ∧ (∀ x ∈ l, -1 ≤ x ∧ x ≤ 64) ∧ Below w.heap.size w w' := by
  go_enter Tryz.func8, Tryz.ntmps8
  go_wp2_with fail
  refine (newReader_any a n cap w hB hn hc).mono ?_
  rintro e w1 ⟨rfl, R1, B1, s1⟩
  clear hB hn hc
  go_wp2_with fail
  refine (someNames_any w.heap.size 0 w1 R1 (by omega)).mono ?_
  rintro e w5 ⟨v, l, q, rfl, o5, hl, hx, R5, hq, g5⟩
  have B5 := B1.grown g5 B1.size (fun k hk => by cases hk; exact Nat.le_refl _)
  go_wp2
  go_ret
  exact ⟨v, l, rfl, o5.mono B1.size, hl, hx, B5⟩
end Go.Proofs.YtoaiaindcmihjaaGreatDoor
/-
  The laws' helper turned.
-/
namespace Go.Proofs.YtoaiaindcmihjaaGreatDoor
open Go.RowKit

theorem drop_rev {l : List Int} {k : Nat} (h : k < l.length) : (l.drop k).reverse = (l.drop (k + 1)).reverse ++ [l.getD k 0] := by
  rw [List.drop_eq_getElem_cons h, List.reverse_cons]; simp [List.getD, h]

set_option maxHeartbeats 1000000 in
theorem turned_any (a : Option Addr) (l : List Int) (cap : Nat) (w : World) (hr : Reads w a l) (hl : l.length ≤ 1048586) :
    Calls Tryz.prog 12 #[.slice a l.length cap] w fun e w' => ∃ v, e = .returned v ∧ Own w' w.heap.size v l.reverse ∧ Below w.heap.size w w' := by
  have ho := Own.lit0 w w.heap.size (Nat.le_refl _)
  have hb := (Below.refl w.heap.size w).alloc (Nat.le_refl _) (.cells #[] 3)
  go_enter Tryz.func12, Tryz.ntmps12
  go_wp2
  go_loopw [3, 4] (fun v i wr => ∃ (k : Nat) (L : List Int), k ≤ l.length ∧ i = .int .i64 ((k : Int) - 1) ∧ Hid (L = (l.drop k).reverse) ∧ Own wr w.heap.size v L ∧ Below w.heap.size w wr ∧ L.length = l.length - k) (fun _ i _ => (intOf i + 1).toNat)
  case atStart => exact ⟨l.length, [], Nat.le_refl _, rfl, by simp [Hid], ho, hb, by simp⟩
  case round =>
    obtain ⟨k, L, hk, rfl, hL, hO, hB, hLl⟩ := hrel
    obtain ⟨av, cv, rfl, _, _, _, _⟩ := hO.form
    have hz := hB.size
    have HLl := Lib.hid hLl
    have hl2 : L.length ≤ 1048586 := by omega
    clear hLl
    by_cases h0 : k = 0
    · subst h0
      go_wp2
      go_ret
      refine ⟨_, rfl, ?_, hB⟩
      have e : L = l.reverse := by rw [hL.out, List.drop_zero]
      rw [← e]; exact hO
    · obtain ⟨j, rfl⟩ : ∃ j, k = j + 1 := ⟨k - 1, by omega⟩
      have hr2 := hr.below hB
      obtain ⟨b, off, x, rfl, hbb, hcell, hx⟩ := hr2.get (k := j) (by omega)
      have hj : (((j + 1 : Nat) : Int) - 1) = (j : Int) := by omega
      rw [hj]
      go_wp2_with (at_builtin; refine push_int rfl (.tmp 13) (.tmp 18) rfl w.heap.size (.slice av L.length cv) L x rfl hO rfl (by omega) hz ?_)
      intro v' we oe ne ge
      have hBe := Below.grownB hB hO ge hz (Nat.le_refl _)
      have hLe : Hid (L ++ [x] = (l.drop j).reverse) := by show _ = _; rw [drop_rev (by omega), hL.out, hx.out]
      clear ge hO hB
      go_wp2
      go_roundw
      case rel => exact ⟨j, L ++ [x], by omega, rfl, hLe, oe, hBe, by have := HLl.out; simp; omega⟩
      case measure => simp [intOf]

end Go.Proofs.YtoaiaindcmihjaaGreatDoor
