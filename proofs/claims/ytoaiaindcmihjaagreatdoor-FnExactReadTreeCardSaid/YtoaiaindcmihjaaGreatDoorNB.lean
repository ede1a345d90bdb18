/-
  spec.sortInts.
-/
import Derived.Test.YtoaiaindcmihjaaGreatDoorSA
import Derived.Test.YtoaiaindcmihjaaGreatDoorN2
namespace Go.Proofs.YtoaiaindcmihjaaGreatDoor
open Go.RowKit

set_option maxHeartbeats 16000000 in
theorem sortInts_any (a : Option Addr) (l : List Int) (cap : Nat) (w : World) (hr : Reads w a l) (hl : l.length ≤ 1000000) :
    Calls Tryz.prog 40 #[.slice a l.length cap] w fun e w' => ∃ v, e = .returned v ∧ Own w' w.heap.size v (srt l) ∧ Below w.heap.size w w' := by
  have ho1 := Own.lit0 w w.heap.size (Nat.le_refl _)
  have hB1 := (Below.refl w.heap.size w).alloc (Nat.le_refl _) (.cells #[] 3)
  obtain ⟨M, hM⟩ : ∃ M, M = l.length := ⟨_, rfl⟩
  have HM := Lib.hid hM
  rw [← hM] at hl ⊢
  clear hM
  go_enter Tryz.func40, Tryz.ntmps40
  go_wp2
  go_loopw [3, 4] (fun v iv wr => ∃ (i G C : Nat) (R : List Int), i ≤ M ∧ iv = .int .i64 (i : Int) ∧ v = .slice (some ⟨G, 0, none⟩) i C ∧ Hid (SOf l i R) ∧ Own wr w.heap.size (.slice (some ⟨G, 0, none⟩) i C) R ∧ Below w.heap.size w wr) (fun _ iv _ => M - (intOf iv).toNat)
  case atStart => exact ⟨0, w.heap.size, 0, [], by omega, rfl, rfl, SOf.zero l, ho1, hB1⟩
  case round =>
    clear ho1 hB1
    rename World => wo
    obtain ⟨i, G, C, R, hi, rfl, rfl, hs, ho, hB⟩ := hrel
    have hz := hB.size
    by_cases hlt : i < M
    · have hi1 : (i : Int) < (M : Int) := by omega
      obtain ⟨b, off, y, rfl, hb, hc0, hy⟩ := hr.get (k := i) (by have := HM.out; omega)
      have hcell : wo.cell? ⟨b, off + i, none⟩ = some (.int .i64 y) := (hB.cell (by exact hb)).trans hc0
      have hbw : b < wo.heap.size := by omega
      clear hc0
      have HO := Lib.hid ho
      clear ho
      go_wp2
      go_loopw [5] (fun kv wr => ∃ k m : Nat, k ≤ i ∧ kv = .int .i64 (k : Int) ∧ Hid (∀ j, j < k → R.getD j 0 < y) ∧ wr = wo.drewN m) (fun kv _ => i - (intOf kv).toNat)
      case atStart => exact ⟨0, 0, by omega, rfl, (fun j hj => by omega), rfl⟩
      case round =>
        obtain ⟨k, m, hk, rfl, hjs, rfl⟩ := hrel
        obtain ⟨hRl, hic, hcm, hrd⟩ := HO.out.facts
        unfold maxLen at hcm
        by_cases hki : k < i
        · have hki1 : (k : Int) < (i : Int) := by omega
          obtain ⟨b2, off2, z, eG, _, hcz, hzz⟩ := hrd.get (k := k) (by omega)
          injection eG with eG
          injection eG with eG eO _
          subst eG
          subst eO
          rw [Nat.zero_add] at hcz
          by_cases hzy : z < y
          · clear hRl hrd hic
            have HJ : Hid (∀ j, j < k + 1 → R.getD j 0 < y) := fun j hj => by
              by_cases e : j = k
              · subst e; rw [hzz.out]; exact hzy
              · exact hjs.out j (by omega)
            go_wp2_with fail
            go_quiet (fail)
            all_goals
              go_wp2
              go_roundw
              case rel => exact ⟨k + 1, _, by omega, by go_num, HJ, rfl⟩
              case measure => simp [intOf]; omega
          · have HS0 := SOf.next (k := k) hs.out (by have := HM.out; omega) (by omega) (fun j hj => by rw [hy.out]; have := hjs.out j hj; omega) (fun _ => by rw [hy.out, hzz.out]; omega)
            rw [hy.out] at HS0
            have HS : Hid (SOf l (i + 1) (R.take k ++ [y] ++ R.drop k)) := HS0
            have HLL : Hid ((R.take k ++ [y] ++ R.drop k).length = i + 1) := HS0.len (by have := HM.out; omega)
            have ki1 : (k : Int) ≤ (C : Int) := by omega
            have ki2 : (k : Int) ≤ (i : Int) := by omega
            have hjc : ¬ C = k := by omega
            clear HS0
            go_wp2_with fail
            go_quiet (fail)
            all_goals
              have hoD := HO.out.below (below_drewN (below_drewN (Below.refl _ _) m) nq)
              have hBD := below_drewN (below_drewN hB m) nq
              have hcD : ((wo.drewN m).drewN nq).cell? ⟨b, off + i, none⟩ = some (.int .i64 y) := hcell
              have hbD : b < ((wo.drewN m).drewN nq).heap.size := hbw
              have hzD : w.heap.size ≤ ((wo.drewN m).drewN nq).heap.size := hz
              revert hoD hBD hcD hbD hzD
              generalize (wo.drewN m).drewN nq = w1
              clear HO hB hcell hbw hz
              intro hoD hB hcell hbw hz
              have hrd := hoD.facts.2.2.2
              have hRl := hoD.facts.1
              clear hoD
              have ht := hrd.take' k
              have hd := hrd.drop' k
              rw [Nat.zero_add] at hd
              have HTL : Hid ((R.take k).length = k) := by show (R.take k).length = k; rw [List.length_take]; omega
              have HDL : Hid ((R.drop k).length = i - k) := by show (R.drop k).length = i - k; rw [List.length_drop]; omega
              have oEA := ((Own.lit0 w1 w1.heap.size (Nat.le_refl _)).below ((Below.refl _ _).alloc (Nat.le_refl _) (.cells #[.int .i64 y] 3))).below (Below.refl _ _).drew
              have oXA := (Own.lit (w1.alloc (.cells #[] 3)) w1.heap.size (by simp) y).below (Below.refl _ _).drew
              have bA := (((Below.refl w1.heap.size w1).alloc (Nat.le_refl _) (.cells #[] 3)).alloc (by simp) (.cells #[.int .i64 y] 3)).drew
              have oXB := ((Own.lit w1 w1.heap.size (Nat.le_refl _) y).below ((Below.refl _ _).alloc (Nat.le_refl _) (.cells #[] 3))).below (Below.refl _ _).drew
              have oEB := (Own.lit0 (w1.alloc (.cells #[.int .i64 y] 3)) w1.heap.size (by simp)).below (Below.refl _ _).drew
              have bB := (((Below.refl w1.heap.size w1).alloc (Nat.le_refl _) (.cells #[.int .i64 y] 3)).alloc (by simp) (.cells #[] 3)).drew
              have oEC := (Own.lit0 w1 w1.heap.size (Nat.le_refl _)).below (Below.refl _ _).drew
              have bC := ((Below.refl w1.heap.size w1).alloc (Nat.le_refl _) (.cells #[] 3)).drew
              simp only [World.size_alloc] at oXA oEB
              have hk7 : k < 2000000 := by omega
              clear hrd
              go_wp2_with fail
              go_region_law (first
                | (refine step_all rfl (.tmp 30) (.tmp 33) rfl w1.heap.size (.slice (some ⟨w1.heap.size, 0, none⟩) 0 0) [] rfl oEA bA.size (some ⟨G, 0, none⟩) (R.take k) _ _ HTL.out rfl (ht.below bA) hk7 (by simp) ?_; intro v1 wA o1 g1; have oX := oXA.kept g1 (.inr (by simp [Value.ownBlock])); have B1 := bA.grown g1 bA.size (fun q hq => by simp [Value.ownBlock] at hq; omega); have hcA := (B1.cell (p := ⟨b, off + i, none⟩) hbw).trans hcell)
                | (refine step_all rfl (.tmp 30) (.tmp 33) rfl w1.heap.size (.slice (some ⟨w1.heap.size + 1, 0, none⟩) 0 0) [] rfl oEB bB.size (some ⟨G, 0, none⟩) (R.take k) _ _ HTL.out rfl (ht.below bB) hk7 (by simp) ?_; intro v1 wA o1 g1; have oX := oXB.kept g1 (.inr (by simp [Value.ownBlock])); have B1 := bB.grown g1 bB.size (fun q hq => by simp [Value.ownBlock] at hq; omega); have hcA := (B1.cell (p := ⟨b, off + i, none⟩) hbw).trans hcell)
                | (refine step_all rfl (.tmp 30) (.tmp 33) rfl w1.heap.size (.slice (some ⟨w1.heap.size, 0, none⟩) 0 0) [] rfl oEC bC.size (some ⟨G, 0, none⟩) (R.take k) _ _ HTL.out rfl (ht.below bC) hk7 (by simp) ?_; intro v1 wA o1 g1; have B1 := bC.grown g1 bC.size (fun q hq => by simp [Value.ownBlock] at hq; omega); have hcA := (B1.cell (p := ⟨b, off + i, none⟩) hbw).trans hcell)
                | (refine step_all rfl (.tmp 34) (.tmp 39) rfl w1.heap.size v1 (R.take k) rfl o1 B1.size _ [y] 1 1 rfl rfl oX.reads (by omega) (by have := HTL.out; omega) ?_; intro v2 wB o2 g2; have B2 := Below.grownB B1 o1 g2 B1.size (Nat.le_refl _))
                | (refine step_all rfl (.tmp 34) (.tmp 39) rfl w1.heap.size v1 (R.take k) rfl (o1.below ((Below.refl _ _).alloc (Nat.le_refl _) _)) (B1.alloc B1.size _).size _ [y] 1 1 rfl rfl (Own.lit wA w1.heap.size B1.size y).reads (by omega) (by have := HTL.out; omega) ?_; intro v2 wB o2 g2; have B2 := Below.grownB (B1.alloc B1.size _) (o1.below ((Below.refl _ _).alloc (Nat.le_refl _) _)) g2 (B1.alloc B1.size _).size (Nat.le_refl _))
                | (refine step_all rfl (.tmp 40) (.tmp 43) rfl w1.heap.size v2 (R.take k ++ [y]) rfl o2 B2.size (some ⟨G, k, none⟩) (R.drop k) (i - k) (C - k) HDL.out rfl (hd.below B2) (by omega) (by rw [List.length_append, HTL.out, List.length_singleton]; omega) ?_; intro v3 wC o3 g3; have B3 := Below.grownB B2 o2 g3 B2.size (Nat.le_refl _)))
              all_goals
                obtain ⟨G3, C3, rfl, hT3⟩ := o3.tab (by rw [HLL.out]; omega)
                rw [HLL.out] at hT3 ⊢
                have o3' := hT3.own.mono hz
                have B3' := hB.trans (B3.mono hz)
                clear hT3 o3 B3 g3 B2 o2 g2 B1 o1 g1 ht
                go_wp2
                go_roundw
                case rel => exact ⟨i + 1, G3, C3, _, by omega, by go_num, rfl, HS, o3', B3'⟩
                case measure => simp [intOf]; omega
        · obtain rfl : k = i := by omega
          have HS0 := SOf.next (k := k) hs.out (by have := HM.out; omega) (by omega) (fun j hj => by rw [hy.out]; have := hjs.out j hj; omega) (fun h => by omega)
          rw [hy.out] at HS0
          have HS : Hid (SOf l (k + 1) (R.take k ++ [y] ++ R.drop k)) := HS0
          have HLL : Hid ((R.take k ++ [y] ++ R.drop k).length = k + 1) := HS0.len (by have := HM.out; omega)
          have ki1 : (k : Int) ≤ (C : Int) := by omega
          have ki2 : (k : Int) ≤ (k : Int) := by omega
          clear HS0
          by_cases hjc : C = k
          · subst hjc
            clear ki1 ki2 hki hic hk
            go_wp2_with fail
            go_quiet (fail)
            all_goals
              have hoD := HO.out.below (below_drewN (below_drewN (Below.refl _ _) m) nq)
              have hBD := below_drewN (below_drewN hB m) nq
              have hcD : ((wo.drewN m).drewN nq).cell? ⟨b, off + C, none⟩ = some (.int .i64 y) := hcell
              have hbD : b < ((wo.drewN m).drewN nq).heap.size := hbw
              have hzD : w.heap.size ≤ ((wo.drewN m).drewN nq).heap.size := hz
              revert hoD hBD hcD hbD hzD
              generalize (wo.drewN m).drewN nq = w1
              clear HO hB hcell hbw hz
              intro hoD hB hcell hbw hz
              have hrd := hoD.facts.2.2.2
              have hRl := hoD.facts.1
              clear hoD
              have ht := hrd.take' C
              have hd := hrd.drop' C
              rw [Nat.zero_add] at hd
              have HTL : Hid ((R.take C).length = C) := by show (R.take C).length = C; rw [List.length_take]; omega
              have HDL : Hid ((R.drop C).length = C - C) := by show (R.drop C).length = C - C; rw [List.length_drop]; omega
              have oEA := ((Own.lit0 w1 w1.heap.size (Nat.le_refl _)).below ((Below.refl _ _).alloc (Nat.le_refl _) (.cells #[.int .i64 y] 3))).below (Below.refl _ _).drew
              have oXA := (Own.lit (w1.alloc (.cells #[] 3)) w1.heap.size (by simp) y).below (Below.refl _ _).drew
              have bA := (((Below.refl w1.heap.size w1).alloc (Nat.le_refl _) (.cells #[] 3)).alloc (by simp) (.cells #[.int .i64 y] 3)).drew
              have oXB := ((Own.lit w1 w1.heap.size (Nat.le_refl _) y).below ((Below.refl _ _).alloc (Nat.le_refl _) (.cells #[] 3))).below (Below.refl _ _).drew
              have oEB := (Own.lit0 (w1.alloc (.cells #[.int .i64 y] 3)) w1.heap.size (by simp)).below (Below.refl _ _).drew
              have bB := (((Below.refl w1.heap.size w1).alloc (Nat.le_refl _) (.cells #[.int .i64 y] 3)).alloc (by simp) (.cells #[] 3)).drew
              have oEC := (Own.lit0 w1 w1.heap.size (Nat.le_refl _)).below (Below.refl _ _).drew
              have bC := ((Below.refl w1.heap.size w1).alloc (Nat.le_refl _) (.cells #[] 3)).drew
              simp only [World.size_alloc] at oXA oEB
              have hk7 : C < 2000000 := by omega
              have HDE : Hid (R.drop C = []) := List.drop_eq_nil_of_le (by omega)
              clear hRl hrd
              go_wp2_with fail
              go_region_law (first
                | (refine step_all rfl (.tmp 30) (.tmp 33) rfl w1.heap.size (.slice (some ⟨w1.heap.size, 0, none⟩) 0 0) [] rfl oEA bA.size (some ⟨G, 0, none⟩) (R.take C) _ _ HTL.out rfl (ht.below bA) hk7 (by simp) ?_; intro v1 wA o1 g1; have oX := oXA.kept g1 (.inr (by simp [Value.ownBlock])); have B1 := bA.grown g1 bA.size (fun q hq => by simp [Value.ownBlock] at hq; omega); have hcA := (B1.cell (p := ⟨b, off + C, none⟩) hbw).trans hcell)
                | (refine step_all rfl (.tmp 30) (.tmp 33) rfl w1.heap.size (.slice (some ⟨w1.heap.size + 1, 0, none⟩) 0 0) [] rfl oEB bB.size (some ⟨G, 0, none⟩) (R.take C) _ _ HTL.out rfl (ht.below bB) hk7 (by simp) ?_; intro v1 wA o1 g1; have oX := oXB.kept g1 (.inr (by simp [Value.ownBlock])); have B1 := bB.grown g1 bB.size (fun q hq => by simp [Value.ownBlock] at hq; omega); have hcA := (B1.cell (p := ⟨b, off + C, none⟩) hbw).trans hcell)
                | (refine step_all rfl (.tmp 30) (.tmp 33) rfl w1.heap.size (.slice (some ⟨w1.heap.size, 0, none⟩) 0 0) [] rfl oEC bC.size (some ⟨G, 0, none⟩) (R.take C) _ _ HTL.out rfl (ht.below bC) hk7 (by simp) ?_; intro v1 wA o1 g1; have B1 := bC.grown g1 bC.size (fun q hq => by simp [Value.ownBlock] at hq; omega); have hcA := (B1.cell (p := ⟨b, off + C, none⟩) hbw).trans hcell)
                | (refine step_all rfl (.tmp 34) (.tmp 39) rfl w1.heap.size v1 (R.take C) rfl o1 B1.size _ [y] 1 1 rfl rfl oX.reads (by omega) (by have := HTL.out; omega) ?_; intro v2 wB o2 g2; have B2 := Below.grownB B1 o1 g2 B1.size (Nat.le_refl _))
                | (refine step_all rfl (.tmp 34) (.tmp 39) rfl w1.heap.size v1 (R.take C) rfl (o1.below ((Below.refl _ _).alloc (Nat.le_refl _) _)) (B1.alloc B1.size _).size _ [y] 1 1 rfl rfl (Own.lit wA w1.heap.size B1.size y).reads (by omega) (by have := HTL.out; omega) ?_; intro v2 wB o2 g2; have B2 := Below.grownB (B1.alloc B1.size _) (o1.below ((Below.refl _ _).alloc (Nat.le_refl _) _)) g2 (B1.alloc B1.size _).size (Nat.le_refl _))
                | (refine step_all rfl (.tmp 40) (.tmp 43) rfl w1.heap.size v2 (R.take C ++ [y]) rfl o2 B2.size _ [] 0 _ rfl rfl (Reads.nil _ _) (by omega) (by rw [List.length_append, HTL.out, List.length_singleton]; omega) ?_; intro v3 wC o3 g3; have B3 := Below.grownB B2 o2 g3 B2.size (Nat.le_refl _)))
              all_goals
                replace o3 : Own wC w1.heap.size v3 (R.take C ++ [y] ++ R.drop C) := by rw [HDE.out]; exact o3
                obtain ⟨G3, C3, rfl, hT3⟩ := o3.tab (by rw [HLL.out]; omega)
                rw [HLL.out] at hT3 ⊢
                have o3' := hT3.own.mono hz
                have B3' := hB.trans (B3.mono hz)
                clear hT3 o3 B3 g3 B2 o2 g2 B1 o1 g1 ht
                go_wp2
                go_roundw
                case rel => exact ⟨C + 1, G3, C3, _, by omega, by go_num, rfl, HS, o3', B3'⟩
                case measure => simp [intOf]; omega
          · go_wp2_with fail
            go_quiet (fail)
            all_goals
              have hoD := HO.out.below (below_drewN (below_drewN (Below.refl _ _) m) nq)
              have hBD := below_drewN (below_drewN hB m) nq
              have hcD : ((wo.drewN m).drewN nq).cell? ⟨b, off + k, none⟩ = some (.int .i64 y) := hcell
              have hbD : b < ((wo.drewN m).drewN nq).heap.size := hbw
              have hzD : w.heap.size ≤ ((wo.drewN m).drewN nq).heap.size := hz
              revert hoD hBD hcD hbD hzD
              generalize (wo.drewN m).drewN nq = w1
              clear HO hB hcell hbw hz
              intro hoD hB hcell hbw hz
              have hrd := hoD.facts.2.2.2
              have hRl := hoD.facts.1
              clear hoD
              have ht := hrd.take' k
              have hd := hrd.drop' k
              rw [Nat.zero_add] at hd
              have HTL : Hid ((R.take k).length = k) := by show (R.take k).length = k; rw [List.length_take]; omega
              have HDL : Hid ((R.drop k).length = 0) := by show (R.drop k).length = 0; rw [List.length_drop]; omega
              have oEA := ((Own.lit0 w1 w1.heap.size (Nat.le_refl _)).below ((Below.refl _ _).alloc (Nat.le_refl _) (.cells #[.int .i64 y] 3))).below (Below.refl _ _).drew
              have oXA := (Own.lit (w1.alloc (.cells #[] 3)) w1.heap.size (by simp) y).below (Below.refl _ _).drew
              have bA := (((Below.refl w1.heap.size w1).alloc (Nat.le_refl _) (.cells #[] 3)).alloc (by simp) (.cells #[.int .i64 y] 3)).drew
              have oXB := ((Own.lit w1 w1.heap.size (Nat.le_refl _) y).below ((Below.refl _ _).alloc (Nat.le_refl _) (.cells #[] 3))).below (Below.refl _ _).drew
              have oEB := (Own.lit0 (w1.alloc (.cells #[.int .i64 y] 3)) w1.heap.size (by simp)).below (Below.refl _ _).drew
              have bB := (((Below.refl w1.heap.size w1).alloc (Nat.le_refl _) (.cells #[.int .i64 y] 3)).alloc (by simp) (.cells #[] 3)).drew
              have oEC := (Own.lit0 w1 w1.heap.size (Nat.le_refl _)).below (Below.refl _ _).drew
              have bC := ((Below.refl w1.heap.size w1).alloc (Nat.le_refl _) (.cells #[] 3)).drew
              simp only [World.size_alloc] at oXA oEB
              have hk7 : k < 2000000 := by omega
              clear hRl hrd
              go_wp2_with fail
              go_region_law (first
                | (refine step_all rfl (.tmp 30) (.tmp 33) rfl w1.heap.size (.slice (some ⟨w1.heap.size, 0, none⟩) 0 0) [] rfl oEA bA.size (some ⟨G, 0, none⟩) (R.take k) _ _ HTL.out rfl (ht.below bA) hk7 (by simp) ?_; intro v1 wA o1 g1; have oX := oXA.kept g1 (.inr (by simp [Value.ownBlock])); have B1 := bA.grown g1 bA.size (fun q hq => by simp [Value.ownBlock] at hq; omega); have hcA := (B1.cell (p := ⟨b, off + k, none⟩) hbw).trans hcell)
                | (refine step_all rfl (.tmp 30) (.tmp 33) rfl w1.heap.size (.slice (some ⟨w1.heap.size + 1, 0, none⟩) 0 0) [] rfl oEB bB.size (some ⟨G, 0, none⟩) (R.take k) _ _ HTL.out rfl (ht.below bB) hk7 (by simp) ?_; intro v1 wA o1 g1; have oX := oXB.kept g1 (.inr (by simp [Value.ownBlock])); have B1 := bB.grown g1 bB.size (fun q hq => by simp [Value.ownBlock] at hq; omega); have hcA := (B1.cell (p := ⟨b, off + k, none⟩) hbw).trans hcell)
                | (refine step_all rfl (.tmp 30) (.tmp 33) rfl w1.heap.size (.slice (some ⟨w1.heap.size, 0, none⟩) 0 0) [] rfl oEC bC.size (some ⟨G, 0, none⟩) (R.take k) _ _ HTL.out rfl (ht.below bC) hk7 (by simp) ?_; intro v1 wA o1 g1; have B1 := bC.grown g1 bC.size (fun q hq => by simp [Value.ownBlock] at hq; omega); have hcA := (B1.cell (p := ⟨b, off + k, none⟩) hbw).trans hcell)
                | (refine step_all rfl (.tmp 34) (.tmp 39) rfl w1.heap.size v1 (R.take k) rfl o1 B1.size _ [y] 1 1 rfl rfl oX.reads (by omega) (by have := HTL.out; omega) ?_; intro v2 wB o2 g2; have B2 := Below.grownB B1 o1 g2 B1.size (Nat.le_refl _))
                | (refine step_all rfl (.tmp 34) (.tmp 39) rfl w1.heap.size v1 (R.take k) rfl (o1.below ((Below.refl _ _).alloc (Nat.le_refl _) _)) (B1.alloc B1.size _).size _ [y] 1 1 rfl rfl (Own.lit wA w1.heap.size B1.size y).reads (by omega) (by have := HTL.out; omega) ?_; intro v2 wB o2 g2; have B2 := Below.grownB (B1.alloc B1.size _) (o1.below ((Below.refl _ _).alloc (Nat.le_refl _) _)) g2 (B1.alloc B1.size _).size (Nat.le_refl _))
                | (refine step_all rfl (.tmp 40) (.tmp 43) rfl w1.heap.size v2 (R.take k ++ [y]) rfl o2 B2.size (some ⟨G, k, none⟩) (R.drop k) 0 (C - k) HDL.out rfl (hd.below B2) (by omega) (by rw [List.length_append, HTL.out, List.length_singleton]; omega) ?_; intro v3 wC o3 g3; have B3 := Below.grownB B2 o2 g3 B2.size (Nat.le_refl _)))
              all_goals
                obtain ⟨G3, C3, rfl, hT3⟩ := o3.tab (by rw [HLL.out]; omega)
                rw [HLL.out] at hT3 ⊢
                have o3' := hT3.own.mono hz
                have B3' := hB.trans (B3.mono hz)
                clear hT3 o3 B3 g3 B2 o2 g2 B1 o1 g1 ht
                go_wp2
                go_roundw
                case rel => exact ⟨k + 1, G3, C3, _, by omega, by go_num, rfl, HS, o3', B3'⟩
                case measure => simp [intOf]; omega
    · obtain rfl : i = M := by omega
      have hs2 := hs.out
      rw [HM.out] at hs2
      have hR := hs2.full
      go_wp2
      go_ret
      exact ⟨_, rfl, by rw [← hR]; exact ho, hB⟩
end Go.Proofs.YtoaiaindcmihjaaGreatDoor
