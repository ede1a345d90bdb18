
import Derived.Test.YtoaiaindcmihjaaGreatDoorMtb
import Derived.Maps.AppendAt
import Derived.Laws.Concat
import Derived.Laws.Strings
import Derived.Laws.Strings2
import Derived.Laws.Strings3
/-
  spec.sortInts.
-/
namespace Go.Proofs.YtoaiaindcmihjaaGreatDoor
open Go.RowKit

set_option maxHeartbeats 16000000 in
theorem sortInts_any (a : Option Addr) (l : List Int) (cap : Nat) (w : World) (hr : Reads w a l) (hl : l.length ≤ 1000000) :
    Calls Tryz.prog 40 #[.slice a l.length cap] w fun e w' => ∃ v, e = .returned v ∧ Own w' w.heap.size v (srt l) ∧ Below w.heap.size w w' := by
  have ho1 := Own.lit0 w w.heap.size (Nat.le_refl _)
  have hB1 := (Below.refl w.heap.size w).alloc (Nat.le_refl _) (.cells #[] 3)
  obtain ⟨M, hM⟩ : ∃ M, M = l.length := ⟨_, rfl⟩
  have HM := Lib.hid hM
  rw [← hM] at hl ⊢
  clear hM
  go_enter Tryz.func40, Tryz.ntmps40
  go_wp2
  go_loopw [3, 4] (fun v iv wr => ∃ (i G C : Nat) (R : List Int), i ≤ M ∧ iv = .int .i64 (i : Int) ∧ v = .slice (some ⟨G, 0, none⟩) i C ∧ Hid (SOf l i R) ∧ Own wr w.heap.size (.slice (some ⟨G, 0, none⟩) i C) R ∧ Below w.heap.size w wr) (fun _ iv _ => M - (intOf iv).toNat)
  case atStart => exact ⟨0, w.heap.size, 0, [], by omega, rfl, rfl, SOf.zero l, ho1, hB1⟩
  case round =>
    clear ho1 hB1
    rename World => wo
    obtain ⟨i, G, C, R, hi, rfl, rfl, hs, ho, hB⟩ := hrel
    have hz := hB.size
    by_cases hlt : i < M
    · have hi1 : (i : Int) < (M : Int) := by omega
      obtain ⟨b, off, y, rfl, hb, hc0, hy⟩ := hr.get (k := i) (by have := HM.out; omega)
      have hcell : wo.cell? ⟨b, off + i, none⟩ = some (.int .i64 y) := (hB.cell (by exact hb)).trans hc0
      have hbw : b < wo.heap.size := by omega
      clear hc0
      have HO := Lib.hid ho
      clear ho
      go_wp2
      go_loopw [5] (fun kv wr => ∃ k m : Nat, k ≤ i ∧ kv = .int .i64 (k : Int) ∧ Hid (∀ j, j < k → R.getD j 0 < y) ∧ wr = wo.drewN m) (fun kv _ => i - (intOf kv).toNat)
      case atStart => exact ⟨0, 0, by omega, rfl, (fun j hj => by omega), rfl⟩
      case round =>
        obtain ⟨k, m, hk, rfl, hjs, rfl⟩ := hrel
        obtain ⟨hRl, hic, hcm, hrd⟩ := HO.out.facts
        unfold maxLen at hcm
        by_cases hki : k < i
        · have hki1 : (k : Int) < (i : Int) := by omega
          obtain ⟨b2, off2, z, eG, _, hcz, hzz⟩ := hrd.get (k := k) (by omega)
          injection eG with eG
          injection eG with eG eO _
          subst eG
          subst eO
          rw [Nat.zero_add] at hcz
          by_cases hzy : z < y
          · clear hRl hrd hic
            have HJ : Hid (∀ j, j < k + 1 → R.getD j 0 < y) := fun j hj => by
              by_cases e : j = k
              · subst e; rw [hzz.out]; exact hzy
              · exact hjs.out j (by omega)
            go_wp2_with fail
            go_quiet (fail)
            all_goals
              go_wp2
              go_roundw
              case rel => exact ⟨k + 1, _, by omega, by go_num, HJ, rfl⟩
              case measure => simp [intOf]; omega
          · have HS0 := SOf.next (k := k) hs.out (by have := HM.out; omega) (by omega) (fun j hj => by rw [hy.out]; have := hjs.out j hj; omega) (fun _ => by rw [hy.out, hzz.out]; omega)
            rw [hy.out] at HS0
            have HS : Hid (SOf l (i + 1) (R.take k ++ [y] ++ R.drop k)) := HS0
            have HLL : Hid ((R.take k ++ [y] ++ R.drop k).length = i + 1) := HS0.len (by have := HM.out; omega)
            have ki1 : (k : Int) ≤ (C : Int) := by omega
            have ki2 : (k : Int) ≤ (i : Int) := by omega
            have hjc : ¬ C = k := by omega
            clear HS0
            go_wp2_with fail
            go_quiet (fail)
            all_goals
              have hoD := HO.out.below (Go.below_drewN (Go.below_drewN (Below.refl _ _) m) nq)
              have hBD := Go.below_drewN (Go.below_drewN hB m) nq
              have hcD : ((wo.drewN m).drewN nq).cell? ⟨b, off + i, none⟩ = some (.int .i64 y) := hcell
              have hbD : b < ((wo.drewN m).drewN nq).heap.size := hbw
              have hzD : w.heap.size ≤ ((wo.drewN m).drewN nq).heap.size := hz
              revert hoD hBD hcD hbD hzD
              generalize (wo.drewN m).drewN nq = w1
              clear HO hB hcell hbw hz
              intro hoD hB hcell hbw hz
              have hrd := hoD.facts.2.2.2
              have hRl := hoD.facts.1
              clear hoD
              have ht := hrd.take' k
              have hd := hrd.drop' k
              rw [Nat.zero_add] at hd
              have HTL : Hid ((R.take k).length = k) := by show (R.take k).length = k; rw [List.length_take]; omega
              have HDL : Hid ((R.drop k).length = i - k) := by show (R.drop k).length = i - k; rw [List.length_drop]; omega
              have oEA := ((Own.lit0 w1 w1.heap.size (Nat.le_refl _)).below ((Below.refl _ _).alloc (Nat.le_refl _) (.cells #[.int .i64 y] 3))).below (Below.refl _ _).drew
              have oXA := (Own.lit (w1.alloc (.cells #[] 3)) w1.heap.size (by simp) y).below (Below.refl _ _).drew
              have bA := (((Below.refl w1.heap.size w1).alloc (Nat.le_refl _) (.cells #[] 3)).alloc (by simp) (.cells #[.int .i64 y] 3)).drew
              have oXB := ((Own.lit w1 w1.heap.size (Nat.le_refl _) y).below ((Below.refl _ _).alloc (Nat.le_refl _) (.cells #[] 3))).below (Below.refl _ _).drew
              have oEB := (Own.lit0 (w1.alloc (.cells #[.int .i64 y] 3)) w1.heap.size (by simp)).below (Below.refl _ _).drew
              have bB := (((Below.refl w1.heap.size w1).alloc (Nat.le_refl _) (.cells #[.int .i64 y] 3)).alloc (by simp) (.cells #[] 3)).drew
              have oEC := (Own.lit0 w1 w1.heap.size (Nat.le_refl _)).below (Below.refl _ _).drew
              have bC := ((Below.refl w1.heap.size w1).alloc (Nat.le_refl _) (.cells #[] 3)).drew
              simp only [World.size_alloc] at oXA oEB
              have hk7 : k < 2000000 := by omega
              clear hrd
              go_wp2_with fail
              go_region_law (first
                | (refine step_all rfl (.tmp 30) (.tmp 33) rfl w1.heap.size (.slice (some ⟨w1.heap.size, 0, none⟩) 0 0) [] rfl oEA bA.size (some ⟨G, 0, none⟩) (R.take k) _ _ HTL.out rfl (ht.below bA) hk7 (by simp) ?_; intro v1 wA o1 g1; have oX := oXA.kept g1 (.inr (by simp [Value.ownBlock])); have B1 := bA.grown g1 bA.size (fun q hq => by simp [Value.ownBlock] at hq; omega); have hcA := (B1.cell (p := ⟨b, off + i, none⟩) hbw).trans hcell)
                | (refine step_all rfl (.tmp 30) (.tmp 33) rfl w1.heap.size (.slice (some ⟨w1.heap.size + 1, 0, none⟩) 0 0) [] rfl oEB bB.size (some ⟨G, 0, none⟩) (R.take k) _ _ HTL.out rfl (ht.below bB) hk7 (by simp) ?_; intro v1 wA o1 g1; have oX := oXB.kept g1 (.inr (by simp [Value.ownBlock])); have B1 := bB.grown g1 bB.size (fun q hq => by simp [Value.ownBlock] at hq; omega); have hcA := (B1.cell (p := ⟨b, off + i, none⟩) hbw).trans hcell)
                | (refine step_all rfl (.tmp 30) (.tmp 33) rfl w1.heap.size (.slice (some ⟨w1.heap.size, 0, none⟩) 0 0) [] rfl oEC bC.size (some ⟨G, 0, none⟩) (R.take k) _ _ HTL.out rfl (ht.below bC) hk7 (by simp) ?_; intro v1 wA o1 g1; have B1 := bC.grown g1 bC.size (fun q hq => by simp [Value.ownBlock] at hq; omega); have hcA := (B1.cell (p := ⟨b, off + i, none⟩) hbw).trans hcell)
                | (refine step_all rfl (.tmp 34) (.tmp 39) rfl w1.heap.size v1 (R.take k) rfl o1 B1.size _ [y] 1 1 rfl rfl oX.reads (by omega) (by have := HTL.out; omega) ?_; intro v2 wB o2 g2; have B2 := Below.grownB B1 o1 g2 B1.size (Nat.le_refl _))
                | (refine step_all rfl (.tmp 34) (.tmp 39) rfl w1.heap.size v1 (R.take k) rfl (o1.below ((Below.refl _ _).alloc (Nat.le_refl _) _)) (B1.alloc B1.size _).size _ [y] 1 1 rfl rfl (Own.lit wA w1.heap.size B1.size y).reads (by omega) (by have := HTL.out; omega) ?_; intro v2 wB o2 g2; have B2 := Below.grownB (B1.alloc B1.size _) (o1.below ((Below.refl _ _).alloc (Nat.le_refl _) _)) g2 (B1.alloc B1.size _).size (Nat.le_refl _))
                | (refine step_all rfl (.tmp 40) (.tmp 43) rfl w1.heap.size v2 (R.take k ++ [y]) rfl o2 B2.size (some ⟨G, k, none⟩) (R.drop k) (i - k) (C - k) HDL.out rfl (hd.below B2) (by omega) (by rw [List.length_append, HTL.out, List.length_singleton]; omega) ?_; intro v3 wC o3 g3; have B3 := Below.grownB B2 o2 g3 B2.size (Nat.le_refl _)))
              all_goals
                obtain ⟨G3, C3, rfl, hT3⟩ := o3.tab (by rw [HLL.out]; omega)
                rw [HLL.out] at hT3 ⊢
                have o3' := hT3.own.mono hz
                have B3' := hB.trans (B3.mono hz)
                clear hT3 o3 B3 g3 B2 o2 g2 B1 o1 g1 ht
                go_wp2
                go_roundw
                case rel => exact ⟨i + 1, G3, C3, _, by omega, by go_num, rfl, HS, o3', B3'⟩
                case measure => simp [intOf]; omega
        · obtain rfl : k = i := by omega
          have HS0 := SOf.next (k := k) hs.out (by have := HM.out; omega) (by omega) (fun j hj => by rw [hy.out]; have := hjs.out j hj; omega) (fun h => by omega)
          rw [hy.out] at HS0
          have HS : Hid (SOf l (k + 1) (R.take k ++ [y] ++ R.drop k)) := HS0
          have HLL : Hid ((R.take k ++ [y] ++ R.drop k).length = k + 1) := HS0.len (by have := HM.out; omega)
          have ki1 : (k : Int) ≤ (C : Int) := by omega
          have ki2 : (k : Int) ≤ (k : Int) := by omega
          clear HS0
          by_cases hjc : C = k
          · subst hjc
            clear ki1 ki2 hki hic hk
            go_wp2_with fail
            go_quiet (fail)
            all_goals
              have hoD := HO.out.below (Go.below_drewN (Go.below_drewN (Below.refl _ _) m) nq)
              have hBD := Go.below_drewN (Go.below_drewN hB m) nq
              have hcD : ((wo.drewN m).drewN nq).cell? ⟨b, off + C, none⟩ = some (.int .i64 y) := hcell
              have hbD : b < ((wo.drewN m).drewN nq).heap.size := hbw
              have hzD : w.heap.size ≤ ((wo.drewN m).drewN nq).heap.size := hz
              revert hoD hBD hcD hbD hzD
              generalize (wo.drewN m).drewN nq = w1
              clear HO hB hcell hbw hz
              intro hoD hB hcell hbw hz
              have hrd := hoD.facts.2.2.2
              have hRl := hoD.facts.1
              clear hoD
              have ht := hrd.take' C
              have hd := hrd.drop' C
              rw [Nat.zero_add] at hd
              have HTL : Hid ((R.take C).length = C) := by show (R.take C).length = C; rw [List.length_take]; omega
              have HDL : Hid ((R.drop C).length = C - C) := by show (R.drop C).length = C - C; rw [List.length_drop]; omega
              have oEA := ((Own.lit0 w1 w1.heap.size (Nat.le_refl _)).below ((Below.refl _ _).alloc (Nat.le_refl _) (.cells #[.int .i64 y] 3))).below (Below.refl _ _).drew
              have oXA := (Own.lit (w1.alloc (.cells #[] 3)) w1.heap.size (by simp) y).below (Below.refl _ _).drew
              have bA := (((Below.refl w1.heap.size w1).alloc (Nat.le_refl _) (.cells #[] 3)).alloc (by simp) (.cells #[.int .i64 y] 3)).drew
              have oXB := ((Own.lit w1 w1.heap.size (Nat.le_refl _) y).below ((Below.refl _ _).alloc (Nat.le_refl _) (.cells #[] 3))).below (Below.refl _ _).drew
              have oEB := (Own.lit0 (w1.alloc (.cells #[.int .i64 y] 3)) w1.heap.size (by simp)).below (Below.refl _ _).drew
              have bB := (((Below.refl w1.heap.size w1).alloc (Nat.le_refl _) (.cells #[.int .i64 y] 3)).alloc (by simp) (.cells #[] 3)).drew
              have oEC := (Own.lit0 w1 w1.heap.size (Nat.le_refl _)).below (Below.refl _ _).drew
              have bC := ((Below.refl w1.heap.size w1).alloc (Nat.le_refl _) (.cells #[] 3)).drew
              simp only [World.size_alloc] at oXA oEB
              have hk7 : C < 2000000 := by omega
              have HDE : Hid (R.drop C = []) := List.drop_eq_nil_of_le (by omega)
              clear hRl hrd
              go_wp2_with fail
              go_region_law (first
                | (refine step_all rfl (.tmp 30) (.tmp 33) rfl w1.heap.size (.slice (some ⟨w1.heap.size, 0, none⟩) 0 0) [] rfl oEA bA.size (some ⟨G, 0, none⟩) (R.take C) _ _ HTL.out rfl (ht.below bA) hk7 (by simp) ?_; intro v1 wA o1 g1; have oX := oXA.kept g1 (.inr (by simp [Value.ownBlock])); have B1 := bA.grown g1 bA.size (fun q hq => by simp [Value.ownBlock] at hq; omega); have hcA := (B1.cell (p := ⟨b, off + C, none⟩) hbw).trans hcell)
                | (refine step_all rfl (.tmp 30) (.tmp 33) rfl w1.heap.size (.slice (some ⟨w1.heap.size + 1, 0, none⟩) 0 0) [] rfl oEB bB.size (some ⟨G, 0, none⟩) (R.take C) _ _ HTL.out rfl (ht.below bB) hk7 (by simp) ?_; intro v1 wA o1 g1; have oX := oXB.kept g1 (.inr (by simp [Value.ownBlock])); have B1 := bB.grown g1 bB.size (fun q hq => by simp [Value.ownBlock] at hq; omega); have hcA := (B1.cell (p := ⟨b, off + C, none⟩) hbw).trans hcell)
                | (refine step_all rfl (.tmp 30) (.tmp 33) rfl w1.heap.size (.slice (some ⟨w1.heap.size, 0, none⟩) 0 0) [] rfl oEC bC.size (some ⟨G, 0, none⟩) (R.take C) _ _ HTL.out rfl (ht.below bC) hk7 (by simp) ?_; intro v1 wA o1 g1; have B1 := bC.grown g1 bC.size (fun q hq => by simp [Value.ownBlock] at hq; omega); have hcA := (B1.cell (p := ⟨b, off + C, none⟩) hbw).trans hcell)
                | (refine step_all rfl (.tmp 34) (.tmp 39) rfl w1.heap.size v1 (R.take C) rfl o1 B1.size _ [y] 1 1 rfl rfl oX.reads (by omega) (by have := HTL.out; omega) ?_; intro v2 wB o2 g2; have B2 := Below.grownB B1 o1 g2 B1.size (Nat.le_refl _))
                | (refine step_all rfl (.tmp 34) (.tmp 39) rfl w1.heap.size v1 (R.take C) rfl (o1.below ((Below.refl _ _).alloc (Nat.le_refl _) _)) (B1.alloc B1.size _).size _ [y] 1 1 rfl rfl (Own.lit wA w1.heap.size B1.size y).reads (by omega) (by have := HTL.out; omega) ?_; intro v2 wB o2 g2; have B2 := Below.grownB (B1.alloc B1.size _) (o1.below ((Below.refl _ _).alloc (Nat.le_refl _) _)) g2 (B1.alloc B1.size _).size (Nat.le_refl _))
                | (refine step_all rfl (.tmp 40) (.tmp 43) rfl w1.heap.size v2 (R.take C ++ [y]) rfl o2 B2.size _ [] 0 _ rfl rfl (Reads.nil _ _) (by omega) (by rw [List.length_append, HTL.out, List.length_singleton]; omega) ?_; intro v3 wC o3 g3; have B3 := Below.grownB B2 o2 g3 B2.size (Nat.le_refl _)))
              all_goals
                replace o3 : Own wC w1.heap.size v3 (R.take C ++ [y] ++ R.drop C) := by rw [HDE.out]; exact o3
                obtain ⟨G3, C3, rfl, hT3⟩ := o3.tab (by rw [HLL.out]; omega)
                rw [HLL.out] at hT3 ⊢
                have o3' := hT3.own.mono hz
                have B3' := hB.trans (B3.mono hz)
                clear hT3 o3 B3 g3 B2 o2 g2 B1 o1 g1 ht
                go_wp2
                go_roundw
                case rel => exact ⟨C + 1, G3, C3, _, by omega, by go_num, rfl, HS, o3', B3'⟩
                case measure => simp [intOf]; omega
          · go_wp2_with fail
            go_quiet (fail)
            all_goals
              have hoD := HO.out.below (Go.below_drewN (Go.below_drewN (Below.refl _ _) m) nq)
              have hBD := Go.below_drewN (Go.below_drewN hB m) nq
              have hcD : ((wo.drewN m).drewN nq).cell? ⟨b, off + k, none⟩ = some (.int .i64 y) := hcell
              have hbD : b < ((wo.drewN m).drewN nq).heap.size := hbw
              have hzD : w.heap.size ≤ ((wo.drewN m).drewN nq).heap.size := hz
              revert hoD hBD hcD hbD hzD
              generalize (wo.drewN m).drewN nq = w1
              clear HO hB hcell hbw hz
              intro hoD hB hcell hbw hz
              have hrd := hoD.facts.2.2.2
              have hRl := hoD.facts.1
              clear hoD
              have ht := hrd.take' k
              have hd := hrd.drop' k
              rw [Nat.zero_add] at hd
              have HTL : Hid ((R.take k).length = k) := by show (R.take k).length = k; rw [List.length_take]; omega
              have HDL : Hid ((R.drop k).length = 0) := by show (R.drop k).length = 0; rw [List.length_drop]; omega
              have oEA := ((Own.lit0 w1 w1.heap.size (Nat.le_refl _)).below ((Below.refl _ _).alloc (Nat.le_refl _) (.cells #[.int .i64 y] 3))).below (Below.refl _ _).drew
              have oXA := (Own.lit (w1.alloc (.cells #[] 3)) w1.heap.size (by simp) y).below (Below.refl _ _).drew
              have bA := (((Below.refl w1.heap.size w1).alloc (Nat.le_refl _) (.cells #[] 3)).alloc (by simp) (.cells #[.int .i64 y] 3)).drew
              have oXB := ((Own.lit w1 w1.heap.size (Nat.le_refl _) y).below ((Below.refl _ _).alloc (Nat.le_refl _) (.cells #[] 3))).below (Below.refl _ _).drew
              have oEB := (Own.lit0 (w1.alloc (.cells #[.int .i64 y] 3)) w1.heap.size (by simp)).below (Below.refl _ _).drew
              have bB := (((Below.refl w1.heap.size w1).alloc (Nat.le_refl _) (.cells #[.int .i64 y] 3)).alloc (by simp) (.cells #[] 3)).drew
              have oEC := (Own.lit0 w1 w1.heap.size (Nat.le_refl _)).below (Below.refl _ _).drew
              have bC := ((Below.refl w1.heap.size w1).alloc (Nat.le_refl _) (.cells #[] 3)).drew
              simp only [World.size_alloc] at oXA oEB
              have hk7 : k < 2000000 := by omega
              clear hRl hrd
              go_wp2_with fail
              go_region_law (first
                | (refine step_all rfl (.tmp 30) (.tmp 33) rfl w1.heap.size (.slice (some ⟨w1.heap.size, 0, none⟩) 0 0) [] rfl oEA bA.size (some ⟨G, 0, none⟩) (R.take k) _ _ HTL.out rfl (ht.below bA) hk7 (by simp) ?_; intro v1 wA o1 g1; have oX := oXA.kept g1 (.inr (by simp [Value.ownBlock])); have B1 := bA.grown g1 bA.size (fun q hq => by simp [Value.ownBlock] at hq; omega); have hcA := (B1.cell (p := ⟨b, off + k, none⟩) hbw).trans hcell)
                | (refine step_all rfl (.tmp 30) (.tmp 33) rfl w1.heap.size (.slice (some ⟨w1.heap.size + 1, 0, none⟩) 0 0) [] rfl oEB bB.size (some ⟨G, 0, none⟩) (R.take k) _ _ HTL.out rfl (ht.below bB) hk7 (by simp) ?_; intro v1 wA o1 g1; have oX := oXB.kept g1 (.inr (by simp [Value.ownBlock])); have B1 := bB.grown g1 bB.size (fun q hq => by simp [Value.ownBlock] at hq; omega); have hcA := (B1.cell (p := ⟨b, off + k, none⟩) hbw).trans hcell)
                | (refine step_all rfl (.tmp 30) (.tmp 33) rfl w1.heap.size (.slice (some ⟨w1.heap.size, 0, none⟩) 0 0) [] rfl oEC bC.size (some ⟨G, 0, none⟩) (R.take k) _ _ HTL.out rfl (ht.below bC) hk7 (by simp) ?_; intro v1 wA o1 g1; have B1 := bC.grown g1 bC.size (fun q hq => by simp [Value.ownBlock] at hq; omega); have hcA := (B1.cell (p := ⟨b, off + k, none⟩) hbw).trans hcell)
                | (refine step_all rfl (.tmp 34) (.tmp 39) rfl w1.heap.size v1 (R.take k) rfl o1 B1.size _ [y] 1 1 rfl rfl oX.reads (by omega) (by have := HTL.out; omega) ?_; intro v2 wB o2 g2; have B2 := Below.grownB B1 o1 g2 B1.size (Nat.le_refl _))
                | (refine step_all rfl (.tmp 34) (.tmp 39) rfl w1.heap.size v1 (R.take k) rfl (o1.below ((Below.refl _ _).alloc (Nat.le_refl _) _)) (B1.alloc B1.size _).size _ [y] 1 1 rfl rfl (Own.lit wA w1.heap.size B1.size y).reads (by omega) (by have := HTL.out; omega) ?_; intro v2 wB o2 g2; have B2 := Below.grownB (B1.alloc B1.size _) (o1.below ((Below.refl _ _).alloc (Nat.le_refl _) _)) g2 (B1.alloc B1.size _).size (Nat.le_refl _))
                | (refine step_all rfl (.tmp 40) (.tmp 43) rfl w1.heap.size v2 (R.take k ++ [y]) rfl o2 B2.size (some ⟨G, k, none⟩) (R.drop k) 0 (C - k) HDL.out rfl (hd.below B2) (by omega) (by rw [List.length_append, HTL.out, List.length_singleton]; omega) ?_; intro v3 wC o3 g3; have B3 := Below.grownB B2 o2 g3 B2.size (Nat.le_refl _)))
              all_goals
                obtain ⟨G3, C3, rfl, hT3⟩ := o3.tab (by rw [HLL.out]; omega)
                rw [HLL.out] at hT3 ⊢
                have o3' := hT3.own.mono hz
                have B3' := hB.trans (B3.mono hz)
                clear hT3 o3 B3 g3 B2 o2 g2 B1 o1 g1 ht
                go_wp2
                go_roundw
                case rel => exact ⟨k + 1, G3, C3, _, by omega, by go_num, rfl, HS, o3', B3'⟩
                case measure => simp [intOf]; omega
    · obtain rfl : i = M := by omega
      have hs2 := hs.out
      rw [HM.out] at hs2
      have hR := hs2.full
      go_wp2
      go_ret
      exact ⟨_, rfl, by rw [← hR]; exact ho, hB⟩
end Go.Proofs.YtoaiaindcmihjaaGreatDoor
/-
  Slices of buckets: structs of two numbers and a slice of numbers.
-/
namespace Go.Proofs.YtoaiaindcmihjaaGreatDoor
open Go.RowKit

/-- A bucket of a list. -/
def bkt (bs : List Bk) (r : Nat) : Bk := bs.getD r (0, 0, [])
theorem bkt_eq {bs : List Bk} {r : Nat} (h : r < bs.length) : bkt bs r = bs[r] := by simp [bkt, List.getD, h]
theorem bkt_mem {bs : List Bk} {r : Nat} (h : r < bs.length) : bkt bs r ∈ bs := by rw [bkt_eq h]; exact List.getElem_mem h
theorem bkt_snoc_lt {bs : List Bk} {t : Bk} {r : Nat} (h : r < bs.length) : bkt (bs ++ [t]) r = bkt bs r := by simp [bkt, List.getD, List.getElem?_append_left h]
theorem bkt_snoc_eq (bs : List Bk) (t : Bk) : bkt (bs ++ [t]) bs.length = t := by simp [bkt, List.getD]
/-- The cells of buckets. -/
abbrev Bc := Int × Int × Value
def flat3 (l : List Bc) : List Value := l.flatMap fun c => [.int .i64 c.1, .int .i64 c.2.1, c.2.2]
theorem flat3_cons (p : Bc) (l : List Bc) : flat3 (p :: l) = .int .i64 p.1 :: .int .i64 p.2.1 :: p.2.2 :: flat3 l := rfl
theorem flat3_append (l l' : List Bc) : flat3 (l ++ l') = flat3 l ++ flat3 l' := by simp [flat3]
theorem flat3_len (l : List Bc) : (flat3 l).length = l.length * 3 := by
  induction l with
  | nil => rfl
  | cons p l ih => rw [flat3_cons]; simp [ih]; omega
theorem flat3_get {l : List Bc} : ∀ {i : Nat} {c : Bc}, l[i]? = some c → (flat3 l)[i * 3]? = some (.int .i64 c.1) ∧ (flat3 l)[i * 3 + 1]? = some (.int .i64 c.2.1) ∧ (flat3 l)[i * 3 + 2]? = some c.2.2 := by
  induction l with
  | nil => intro i c h; simp at h
  | cons p l ih =>
    intro i c h
    cases i with
    | zero => simp at h; subst h; simp [flat3_cons]
    | succ i =>
      have := ih (i := i) (c := c) (by simpa using h)
      rw [flat3_cons, show (i + 1) * 3 = i * 3 + 1 + 1 + 1 by omega]
      simpa using this
/-- The slice (its address, its length) reads as the buckets. -/
def ReadsB (w : World) (a : Option Addr) (bs : List Bk) : Prop :=
  bs = [] ∨ ∃ b off, a = some ⟨b, off, none⟩ ∧ b < w.heap.size ∧ ∀ r, r < bs.length → w.cell? ⟨b, off + r * 3, none⟩ = some (.int .i64 ((bkt bs r).1 : Int)) ∧ w.cell? ⟨b, off + r * 3 + 1, none⟩ = some (.int .i64 ((bkt bs r).2.1 : Int)) ∧
    ∃ A C, w.cell? ⟨b, off + r * 3 + 2, none⟩ = some (.slice A (bkt bs r).2.2.length C) ∧ Reads w A (bkt bs r).2.2 ∧ (bkt bs r).2.2.length ≤ C
theorem ReadsB.below {w w' : World} (h : Below w.heap.size w w') {a : Option Addr} {bs : List Bk} (hc : ReadsB w a bs) : ReadsB w' a bs := by
  rcases hc with h0 | ⟨b, off, ha, hb, hc⟩
  · exact .inl h0
  · refine .inr ⟨b, off, ha, Nat.lt_of_lt_of_le hb h.size, fun r hr => ?_⟩
    obtain ⟨h1, h2, A, C, h3, h4, h5⟩ := hc r hr
    exact ⟨(h.cell (p := ⟨b, off + r * 3, none⟩) hb).trans h1, (h.cell (p := ⟨b, off + r * 3 + 1, none⟩) hb).trans h2, A, C, (h.cell (p := ⟨b, off + r * 3 + 2, none⟩) hb).trans h3, h4.below h, h5⟩
theorem ReadsB.get {w : World} {a : Option Addr} {bs : List Bk} (h : ReadsB w a bs) {r : Nat} (hr : r < bs.length) :
    ∃ b off A C, a = some ⟨b, off, none⟩ ∧ b < w.heap.size ∧ w.cell? ⟨b, off + r * 3, none⟩ = some (.int .i64 ((bkt bs r).1 : Int)) ∧ w.cell? ⟨b, off + r * 3 + 1, none⟩ = some (.int .i64 ((bkt bs r).2.1 : Int)) ∧ w.cell? ⟨b, off + r * 3 + 2, none⟩ = some (.slice A (bkt bs r).2.2.length C) ∧ Reads w A (bkt bs r).2.2 ∧ (bkt bs r).2.2.length ≤ C := by
  rcases h with rfl | ⟨b, off, ha, hb, hc⟩
  · simp at hr
  · obtain ⟨h1, h2, A, C, h3, h4, h5⟩ := hc r hr
    exact ⟨b, off, A, C, ha, hb, h1, h2, h3, h4, h5⟩

section
variable {w w' : World} {base : Nat} {v : Value} {bs : List Bk}
end
theorem trip_cell {w : World} {x y z : Value} {ty : TypeId} : ∀ j u, [x, y, z][j]? = some u → (w.alloc (.cells #[x, y, z] ty)).cell? (Addr.add ⟨w.heap.size, 0, none⟩ j) = some u := by
  intro j u h
  rw [Addr.add_lit, Nat.zero_add, cell_of_row _ _ _ _ _ _ (heap_alloc_new _ _)]
  have hj : j < 3 := by have := (List.getElem?_eq_some_iff.1 h).1; simpa using this
  have : j = 0 ∨ j = 1 ∨ j = 2 := by omega
  rcases this with rfl | rfl | rfl <;> simpa using h
end Go.Proofs.YtoaiaindcmihjaaGreatDoor
/-
  spec.split, BucketsOf.
-/
namespace Go.Proofs.YtoaiaindcmihjaaGreatDoor
open Go.RowKit

theorem tfl_take {l : List Int} {d e i : Nat} (h : i < l.length) : tfl (l.take (i + 1)) d e = tfl (l.take i) d e ++ if (l.getD i 0).toNat % 2 ^ d = e then [l.getD i 0] else [] := by
  rw [take_snocN h]
  unfold tfl
  rw [List.filter_append]
  by_cases g : (l.getD i 0).toNat % 2 ^ d = e
  · rw [if_pos g, List.filter_cons_of_pos (by rw [decide_eq_true g]), List.filter_nil]
  · rw [if_neg g, List.filter_cons_of_neg (by rw [decide_eq_false g]; simp), List.filter_nil]
theorem tfl_len (l : List Int) (d e : Nat) : (tfl l d e).length ≤ l.length := List.length_filter_le _ _

/-- The buckets of names, none for other arguments. -/
def BKs (l : List Int) (m : Int) : List Bk := if VNm l = true ∧ 1 ≤ m ∧ m ≤ 4 then spl l m.toNat 6 0 0 else []
theorem BKs_len (l : List Int) (m : Int) : (BKs l m).length ≤ 64 := by
  unfold BKs; split
  · exact spl_len _ _ _ _ _
  · simp
end Go.Proofs.YtoaiaindcmihjaaGreatDoor
/-
  Texts: spec.number, trie, TreeText.
-/
namespace Go.Proofs.YtoaiaindcmihjaaGreatDoor
open Go.RowKit

/-- The bytes of a list, as a text. -/
abbrev B8 (l : List UInt8) : ByteArray := ByteArray.mk l.toArray
theorem B8_app (x y : List UInt8) : B8 x ++ B8 y = B8 (x ++ y) := ByteArray.mk_append_mk x y
theorem digits_ex : ∀ n : Fin 10, (ByteArray.mk #[48, 49, 50, 51, 52, 53, 54, 55, 56, 57]).extract n.val (n.val + 1) = B8 [dgt n.val] := by decide +kernel
theorem dec_short {n : Nat} (h : n < 1000000) : (dec n).length ≤ 6 := by
  have h1 : ∀ k n : Nat, n < 10 ^ (k + 1) → (dec n).length ≤ k + 1 := by
    intro k
    induction k with
    | zero => intro n hn; rw [dec_lt (by simpa using hn)]; simp
    | succ k ih =>
      intro n hn
      by_cases h : n < 10
      · rw [dec_lt h]; simp
      · rw [dec_ge h, List.length_append, List.length_singleton]
        have := ih (n / 10) (by rw [Nat.pow_succ] at hn; omega)
        omega
  exact h1 5 n (by simpa using h)
set_option maxHeartbeats 1000000 in
theorem number_any : ∀ (n : Nat) (w : World), n < 1000000 → Calls Tryz.prog 61 #[.int .i64 (n : Int)] w fun e w' => e = .returned (.string (B8 (dec n))) ∧ w = w' := by
  intro n
  induction n using Nat.strongRecOn with
  | ind n ih =>
    intro w hn
    by_cases h : n < 10
    · have hd := digits_ex ⟨n, h⟩
      have h1 : (n : Int) < 10 := by omega
      rw [dec_lt h]
      obtain ⟨R, hR⟩ : ∃ R, R = B8 [dgt n] := ⟨_, rfl⟩
      rw [← hR] at hd ⊢
      dsimp only at hd
      have HD := Lib.hid hd
      have e1 : IntKind.i64.wrap ((n : Int) + 1) = ((n + 1 : Nat) : Int) := by rw [IntWalk.i64_in _ (by omega)]; omega
      have e2 : ((n : Int) + 1).toNat = n + 1 := by omega
      clear hR ih
      go_enter Tryz.func61, Tryz.ntmps61
      go_wp2
      go_ret
      exact ⟨rfl, rfl⟩
    · have h1 : ¬ (n : Int) < 10 := by omega
      have i1 := ih (n / 10) (by omega)
      have i2 := ih (n % 10) (by omega)
      have q1 : (n : Int).tdiv 10 = ((n / 10 : Nat) : Int) := by rw [Int.tdiv_eq_ediv_of_nonneg (by omega)]; omega
      have q2 : (n : Int).tmod 10 = ((n % 10 : Nat) : Int) := by rw [Int.tmod_eq_emod_of_nonneg (by omega)]; omega
      have s1 := dec_short (n := n / 10) (by omega)
      have s2 := dec_short (n := n % 10) (by omega)
      have he : dec n = dec (n / 10) ++ dec (n % 10) := by rw [dec_ge h, dec_lt (show n % 10 < 10 by omega)]
      rw [he, ← B8_app]
      have m1 : n / 10 < 1000000 := by omega
      have m2 : n % 10 < 1000000 := by omega
      obtain ⟨x, hx⟩ : ∃ x, x = n / 10 := ⟨_, rfl⟩
      obtain ⟨y, hy⟩ : ∃ y, y = n % 10 := ⟨_, rfl⟩
      rw [← hx] at i1 q1 s1 m1 ⊢
      rw [← hy] at i2 q2 s2 m2 ⊢
      obtain ⟨X, hX⟩ : ∃ X, X = dec x := ⟨_, rfl⟩
      obtain ⟨Y, hY⟩ : ∃ Y, Y = dec y := ⟨_, rfl⟩
      rw [← hX] at i1 s1 ⊢
      rw [← hY] at i2 s2 ⊢
      have D1 := Lib.hid (fun wx => i1 wx m1)
      have D2 := Lib.hid (fun wx => i2 wx m2)
      clear i1 i2 hx hy hX hY he ih
      go_enter Tryz.func61, Tryz.ntmps61
      go_wp2_with fail
      refine (D1.out _).mono ?_
      rintro e w' ⟨rfl, rfl⟩
      go_wp2_with fail
      refine (D2.out _).mono ?_
      rintro e w' ⟨rfl, rfl⟩
      go_wp2
      go_ret
      exact ⟨rfl, rfl⟩
/-- What trie gives, f parts deep. -/
def TRc (a : Option Addr) (l : List Int) (cap f : Nat) : Prop := ∀ d e : Nat, f + d = 6 → e < 2 ^ d → ∀ w : World, Reads w a l →
    Calls Tryz.prog 34 #[.slice a l.length cap, .int .i64 (d : Int), .int .i64 (e : Int)] w fun en w' => en = .returned (.string (B8 (ttr l f d e))) ∧ Below w.heap.size w w'
theorem ttr_len' {l : List Int} (hv : VNm l = true) {f d e : Nat} (h1 : f + d = 6) (h2 : e < 2 ^ d) : (ttr l f d e).length ≤ 400 := by
  obtain ⟨a1, a2, a3⟩ := VNm_iff.1 hv
  have h3 := ttr_len a3 a2 f d e h1 h2
  have h4 : (tfl l d e).length ≤ 12 := Nat.le_trans (List.length_filter_le _ _) a1
  have h5 : 5 * f * (tfl l d e).length ≤ 30 * 12 := Nat.mul_le_mul (by omega) h4
  omega
set_option maxHeartbeats 16000000 in
set_option maxRecDepth 100000 in
theorem trie_step (a : Option Addr) (l : List Int) (cap f : Nat) (hv : VNm l = true) (ih : ∀ g, f = g + 1 → TRc a l cap g) : TRc a l cap f := by
  obtain ⟨hl12, hrng, hnd⟩ := VNm_iff.1 hv
  intro d e hfd he w hrw
  have hp2 : 2 ^ d ≤ 2 ^ 6 := Nat.pow_le_pow_right (by omega) (by omega)
  have six := tfl_six hnd hrng e
  have cp := fun wx => pow_any d wx (by omega)
  have hrec : 2 ≤ (tfl l d e).length → ∃ (P : Nat) (A B : List UInt8), (P ≤ 64 ∧ e < P) ∧ d ≤ 5 ∧ A.length ≤ 400 ∧ B.length ≤ 400 ∧ ttr l f d e = [40] ++ A ++ [32] ++ B ++ [41] ∧ (∀ w : World, Reads w a l → Calls Tryz.prog 34 #[.slice a l.length cap, .int .i64 ((d : Int) + 1), .int .i64 (e : Int)] w fun en w' => en = .returned (.string (B8 A)) ∧ Below w.heap.size w w') ∧
      (∀ w : World, Reads w a l → Calls Tryz.prog 34 #[.slice a l.length cap, .int .i64 ((d : Int) + 1), .int .i64 ((e : Int) + (P : Int))] w fun en w' => en = .returned (.string (B8 B)) ∧ Below w.heap.size w w') ∧ ∀ wx, Calls Tryz.prog 59 #[.int .i64 (d : Int)] wx fun e w' => e = .returned (.int .i64 (P : Int)) ∧ wx = w' := by
    intro h
    cases f with
    | zero => obtain rfl : d = 6 := by omega
              omega
    | succ g =>
      have hps : 2 ^ (d + 1) = 2 * 2 ^ d := by rw [Nat.pow_succ]; omega
      have i1 := ih g rfl (d + 1) e (by omega) (by omega)
      have i2 := ih g rfl (d + 1) (e + 2 ^ d) (by omega) (by omega)
      rw [show (((d + 1 : Nat)) : Int) = (d : Int) + 1 by omega] at i1 i2
      rw [show (((e + 2 ^ d : Nat)) : Int) = (e : Int) + ((2 ^ d : Nat) : Int) by omega] at i2
      exact ⟨2 ^ d, _, _, ⟨by omega, he⟩, by omega, ttr_len' hv (by omega) (by omega), ttr_len' hv (by omega) (by omega), ttr_more h, i1, i2, cp⟩
  obtain ⟨RR, hRR⟩ : ∃ RR, RR = ttr l f d e := ⟨_, rfl⟩
  rw [← hRR] at hrec ⊢
  have HRR := Lib.hid hRR
  obtain ⟨M, hM⟩ : ∃ M, M = l.length := ⟨_, rfl⟩
  have HM := Lib.hid hM
  rw [← hM] at hl12 hrec ⊢
  clear hM
  have REC := Lib.hid hrec
  have ho1 := Own.lit0 w w.heap.size (Nat.le_refl _)
  have hB1 := (Below.refl w.heap.size w).alloc (Nat.le_refl _) (.cells #[] 3)
  clear hrec ih cp six hp2 hRR
  go_enter Tryz.func34, Tryz.ntmps34
  go_wp2
  go_loopw [7, 8] (fun sv iv wr => ∃ i : Nat, i ≤ M ∧ iv = .int .i64 (i : Int) ∧ Own wr w.heap.size sv (tfl (l.take i) d e) ∧ Below w.heap.size w wr) (fun _ iv _ => M - (intOf iv).toNat)
  case atStart => exact ⟨0, by omega, rfl, by simpa [tfl] using ho1, hB1⟩
  case round =>
    clear ho1 hB1
    rename World => wo
    obtain ⟨i, hi, rfl, ho, hB⟩ := hrel
    by_cases hlt : i < M
    · have hi1 : (i : Int) < (M : Int) := by omega
      obtain ⟨b, off, y, rfl, hb, hc0, hy⟩ := hrw.get (k := i) (by have := HM.out; omega)
      have hcell : wo.cell? ⟨b, off + i, none⟩ = some (.int .i64 y) := (hB.cell (by exact hb)).trans hc0
      have hyr := hrng y (by rw [← hy.out]; exact getD_mem (by have := HM.out; omega))
      have htk := tfl_take (l := l) (d := d) (e := e) (i := i) (by have := HM.out; omega)
      rw [hy.out] at htk
      obtain ⟨Y, rfl⟩ : ∃ Y : Nat, y = Y := ⟨y.toNat, by omega⟩
      rw [Int.toNat_natCast] at htk
      have ct := fun wx => pow_tail Y d wx (by omega) (by omega)
      obtain ⟨q, hq⟩ : ∃ q, q = Y % 2 ^ d := ⟨_, rfl⟩
      rw [← hq] at htk ct
      have D := Lib.hid ct
      have hz1 := hB.size
      have hlen := tfl_len (l.take i) d e
      rw [List.length_take] at hlen
      have hl9 : (tfl (l.take i) d e).length ≤ 12 := by omega
      obtain ⟨T, hT⟩ : ∃ T, T = tfl (l.take i) d e := ⟨_, rfl⟩
      rw [← hT] at htk ho hl9
      clear hc0 ct hq hlen hT
      by_cases hqe : q = e
      · rw [if_pos hqe] at htk
        have HTK := Lib.hid htk
        subst hqe
        have hd1 : ((q : Int) == (q : Int)) = true := by simp
        clear htk
        go_wp2_with fail
        refine (D.out _).mono ?_
        rintro en w' ⟨rfl, rfl⟩
        go_wp2_with (at_builtin; refine push_int rfl (.tmp 24) (.tmp 29) rfl w.heap.size _ T (Y : Int) rfl ho rfl (by omega) hz1 ?_)
        intro v' wf of _ gf
        rw [← HTK.out] at of
        have hBf := hB.grown gf hB.size (fun k hk => (ho.lt k hk).1)
        clear gf ho hB
        go_wp2
        go_roundw
        case rel => exact ⟨i + 1, by omega, by go_num, of, hBf⟩
        case measure => simp [intOf]; omega
      · rw [if_neg hqe, List.append_nil] at htk
        have HTK := Lib.hid htk
        have hd1 : ((q : Int) == (e : Int)) = false := by simp; omega
        clear htk
        go_wp2_with fail
        refine (D.out _).mono ?_
        rintro en w' ⟨rfl, rfl⟩
        go_wp2
        go_roundw
        case rel => exact ⟨i + 1, by omega, by go_num, by rw [HTK.out]; exact ho, hB⟩
        case measure => simp [intOf]; omega
    · obtain rfl : i = M := by omega
      have etk : l.take i = l := by rw [HM.out, List.take_length]
      rw [etk] at ho
      have hrw2 := hrw.below hB
      clear etk
      rcases tfl_cases l d e with h0 | ⟨x, h1⟩ | h2
      · have hR := HRR.out
        rw [ttr_none h0] at hR
        subst hR
        rw [h0] at ho
        obtain ⟨sa, cs, rfl, _, _, _, _⟩ := ho.form
        rw [show ([] : List Int).length = 0 from rfl]
        clear h0 REC ho
        go_wp2
        go_ret
        exact ⟨rfl, hB⟩
      · have hR := HRR.out
        rw [ttr_one h1] at hR
        rw [h1] at ho
        have hx := hrng x (tfl_mem.1 (show x ∈ tfl l d e by rw [h1]; simp)).1
        obtain ⟨sa, cs, rfl, hrs, _, _, _⟩ := ho.form
        obtain ⟨b, off, z, rfl, hb, hc0, hz⟩ := hrs.get (k := 0) (by simp)
        have hz2 : x = z := hz.out
        subst hz2
        obtain ⟨X, rfl⟩ : ∃ X : Nat, x = X := ⟨x.toNat, by omega⟩
        rw [Int.toNat_natCast] at hR
        rw [Nat.add_zero] at hc0
        have cn := fun wx => number_any X wx (by omega)
        rw [← hR] at cn
        have CN := Lib.hid cn
        rw [show ([(X : Int)] : List Int).length = 1 from rfl]
        clear h1 REC ho hR cn hrs
        go_wp2_with fail
        refine (CN.out _).mono ?_
        rintro en w' ⟨rfl, rfl⟩
        go_wp2
        go_ret
        exact ⟨rfl, hB⟩
      · obtain ⟨P, A, B, ⟨hP1, hP2⟩, hd5, hA, hBl, hR, c1, c2, cp⟩ := REC.out h2
        obtain ⟨T, hT⟩ : ∃ T, T = tfl l d e := ⟨_, rfl⟩
        rw [← hT] at ho h2
        obtain ⟨sa, cs, rfl, _, _, _, _⟩ := ho.form
        have hT0 : ((T.length : Int) == 0) = false := by rw [beq_eq_false_iff_ne]; omega
        have hT1 : ((T.length : Int) == 1) = false := by rw [beq_eq_false_iff_ne]; omega
        have C1 := Lib.hid c1
        have C2 := Lib.hid c2
        have CP := Lib.hid cp
        subst hR
        clear REC c1 c2 cp ho hT
        go_wp2_with fail
        refine (C1.out _ hrw2).mono ?_
        rintro en w3 ⟨rfl, b3⟩
        have hrw3 := hrw2.below b3
        have B3 := hB.trans (b3.mono hB.size)
        clear b3 hrw2 hB
        go_wp2_with fail
        refine (CP.out _).mono ?_
        rintro en w' ⟨rfl, rfl⟩
        go_wp2_with fail
        refine (C2.out _ hrw3).mono ?_
        rintro en w4 ⟨rfl, b4⟩
        have B4 := B3.trans (b4.mono B3.size)
        go_wp2
        go_ret
        exact ⟨by rw [← B8_app, ← B8_app, ← B8_app, ← B8_app]; rfl, B4⟩
theorem trie_any (a : Option Addr) (l : List Int) (cap : Nat) (hv : VNm l = true) : ∀ f, TRc a l cap f := by
  intro f
  induction f with
  | zero => exact trie_step a l cap 0 hv (fun g h => by omega)
  | succ f ih =>
    refine trie_step a l cap (f + 1) hv (fun g h => ?_)
    obtain rfl : f = g := by omega
    exact ih
theorem specTreeText_any (a : Option Addr) (l : List Int) (cap : Nat) (w : World) (hr : Reads w a l) (hl : l.length ≤ 1048586) (hcap : l.length ≤ cap) :
    Calls Tryz.prog 10 #[.slice a l.length cap] w fun e w' => e = .returned (.string (B8 (TXT l))) ∧ Below w.heap.size w w' := by
  have cv := specvalidNames_any a l cap w hr hl hcap
  cases hV : VNm l with
  | false =>
    have hR : TXT l = [] := by unfold TXT; rw [hV]; rfl
    rw [hV] at cv
    rw [hR]
    clear hV hR
    go_enter Tryz.func10, Tryz.ntmps10
    go_wp2_with fail
    refine cv.mono ?_
    rintro e w1 ⟨rfl, n, rfl⟩
    go_wp2
    go_ret
    exact ⟨rfl, Go.below_drewN (Below.refl _ _) n⟩
  | true =>
    have hR : TXT l = ttr l 6 0 0 := by unfold TXT; rw [hV]; rfl
    have ct := trie_any a l cap hV 6 0 0 rfl (by simp)
    rw [hV] at cv
    rw [← hR, Int.natCast_zero] at ct
    have CT := Lib.hid ct
    obtain ⟨X, hX⟩ : ∃ X, X = TXT l := ⟨_, rfl⟩
    rw [← hX] at CT ⊢
    clear hV hR ct hX
    go_enter Tryz.func10, Tryz.ntmps10
    go_wp2_with fail
    refine cv.mono ?_
    rintro e w1 ⟨rfl, n, rfl⟩
    have b1 := Go.below_drewN (Below.refl w.heap.size w) n
    go_wp2_with fail
    refine (CT.out _ (hr.below b1)).mono ?_
    rintro e w2 ⟨rfl, b2⟩
    go_wp2
    go_ret
    exact ⟨rfl, b1.trans (b2.mono b1.size)⟩
end Go.Proofs.YtoaiaindcmihjaaGreatDoor
/-
  What is read of a text: lengths.
-/
namespace Go.Proofs.YtoaiaindcmihjaaGreatDoor

theorem rdn_len : ∀ (s : List UInt8) (n k : Nat), (rdn n k s).2.1 + (rdn n k s).2.2.length = k + s.length ∧ k ≤ (rdn n k s).2.1 := by
  intro s
  induction s with
  | nil => intro n k; simp [rdn]
  | cons c s ih =>
    intro n k
    rw [rdn]
    split
    · have := ih (10 * n + (c.toNat - 48)) (k + 1)
      rw [List.length_cons]; omega
    · simp
theorem rdn_le : ∀ (s : List UInt8) (n k : Nat), n ≤ 9999 → (rdn n k s).1 ≤ 9999 := by
  intro s
  induction s with
  | nil => intro n k h; simpa [rdn] using h
  | cons c s ih =>
    intro n k h
    rw [rdn]
    split
    · rename_i g
      refine ih _ _ ?_
      have hd := g.1
      unfold isD at hd
      have := of_decide_eq_true hd
      omega
    · exact h
theorem rd_len : ∀ (g : Nat) (s : List UInt8) (a : List Int) (r : List UInt8), rd g s = some (a, r) → a.length + r.length ≤ s.length ∧ r.length < s.length := by
  intro g
  induction g with
  | zero => intro s a r h; rw [rd] at h; cases h
  | succ g ih =>
    intro s a r h
    cases s with
    | nil => rw [rd] at h; cases h
    | cons c t =>
      rw [rd] at h
      rw [List.length_cons]
      split at h
      · injection h with h; injection h with h1 h2; subst h1; subst h2; simp
      · split at h
        · split at h
          · rename_i a1 c1 r1 e1
            split at h
            · split at h
              · rename_i b c2 m e2
                split at h
                · injection h with h; injection h with h1 h2; subst h1; subst h2
                  have k1 := ih _ _ _ e1
                  have k2 := ih _ _ _ e2
                  simp only [List.length_cons, List.length_append] at k1 k2 ⊢
                  omega
                · cases h
              · cases h
            · cases h
          · cases h
        · have k1 := rdn_len (c :: t) 0 0
          split at h
          rename_i n k r1 e1
          rw [e1] at k1
          split at h
          · cases h
          · injection h with h; injection h with h1 h2; subst h1; subst h2
            simp only [List.length_cons, List.length_nil] at k1 ⊢
            omega
end Go.Proofs.YtoaiaindcmihjaaGreatDoor
/-
  spec.readTree, ReadTree.
-/
namespace Go.Proofs.YtoaiaindcmihjaaGreatDoor
open Go.RowKit

theorem B8_size (s : List UInt8) : (B8 s).size = s.length := rfl
theorem B8_list (s : List UInt8) : (B8 s).toList = s := ByteArray.toList_mk s
theorem B8_get (s : List UInt8) (k : Nat) (h : k < (B8 s).size) : ((B8 s)[k]'h).toNat = (s.getD k 0).toNat := by
  have h2 : k < s.length := h
  have e : (B8 s)[k]'h = s[k] := by show s.toArray[k] = s[k]; simp
  rw [e]; simp [List.getD, h2]
theorem B8_drop (s : List UInt8) (k : Nat) : (B8 s).extract k s.length = B8 (s.drop k) := by
  rw [ByteArray.extract_mk]
  congr 2
  exact List.take_of_length_le (by rw [List.length_drop]; omega)
/-- What readTree gives. -/
def RdP (w w' : World) (e : Ending) (o : Option (List Int × List UInt8)) : Prop :=
  (o = none ∧ e = .returned (.tuple #[.slice none 0 0, .string (B8 []), .bool false]) ∨ ∃ v L r, o = some (L, r) ∧ e = .returned (.tuple #[v, .string (B8 r), .bool true]) ∧ Own w' w.heap.size v L) ∧ Below w.heap.size w w'
set_option maxHeartbeats 8000000 in
theorem readTree_any : ∀ (g : Nat) (s : List UInt8) (w : World), s.length < g → s.length ≤ 400 → Calls Tryz.prog 39 #[.string (B8 s)] w fun e w' => RdP w w' e (rd g s) := by
  intro g
  induction g with
  | zero => intro s w h; omega
  | succ g ih =>
    intro s w hg h400
    cases s with
    | nil =>
      have hl := B8_list []
      have hs : rd (g + 1) [] = none := by rw [rd]
      rw [hs]
      go_enter Tryz.func39, Tryz.ntmps39
      go_wp2
      go_ret3
      exact ⟨.inl ⟨rfl, rfl⟩, Below.refl _ _⟩
    | cons c t =>
      have hsz : (B8 (c :: t)).size = t.length + 1 := rfl
      have hl := B8_list (c :: t)
      have hdr := B8_drop (c :: t) 1
      have hg0 := B8_get (c :: t) 0
      rw [List.length_cons] at hg h400 hdr
      rw [List.drop_succ_cons, List.drop_zero] at hdr
      rw [show (c :: t).getD 0 0 = c from rfl] at hg0
      obtain ⟨S, hS⟩ : ∃ S, S = B8 (c :: t) := ⟨_, rfl⟩
      rw [← hS] at hsz hl hdr hg0 ⊢
      have HS := Lib.hid hS
      clear hS
      obtain ⟨C, hC⟩ : ∃ C : Nat, C = c.toNat := ⟨_, rfl⟩
      have hC256 : C < 256 := by rw [hC]; exact UInt8.toNat_lt c
      rw [← hC] at hg0
      have HC := Lib.hid hC
      have ht1 : (1 : Int) ≤ (t.length : Int) + 1 := by omega
      clear hC
      by_cases h46 : C = 46
      · subst h46
        have hc : c = 46 := UInt8.toNat_inj.1 HC.out.symm
        have hR : rd (g + 1) (c :: t) = some ([], t) := by rw [rd, if_pos hc]
        rw [hR]
        have ho := Own.lit0 w w.heap.size (Nat.le_refl _)
        have hB := (Below.refl w.heap.size w).alloc (Nat.le_refl _) (.cells #[] 3)
        clear hR hc
        go_enter Tryz.func39, Tryz.ntmps39
        have ho2 := ho.below (Below.refl _ _).drew
        have hB2 := hB.drew
        go_wp2_with fail
        go_region_law (fail)
        all_goals
          go_wp2
          go_ret3
          exact ⟨.inr ⟨_, [], t, rfl, rfl, ho2⟩, hB2⟩
      · by_cases h40 : C = 40
        · subst h40
          have hc : c = 40 := UInt8.toNat_inj.1 HC.out.symm
          have hne : rd (g + 1) (c :: t) = (match rd g t with
              | some (a, c1 :: r) => if c1 = 32 then
                  match rd g r with
                  | some (b, c2 :: m) => if c2 = 41 then some (a ++ b, m) else none
                  | _ => none
                else none
              | _ => none) := by rw [rd, if_neg (by rw [hc]; decide), if_pos hc]; rfl
          obtain ⟨RR, hRR⟩ : ∃ RR, RR = rd (g + 1) (c :: t) := ⟨_, rfl⟩
          rw [← hRR] at hne ⊢
          have HNE := Lib.hid hne
          have I1 := Lib.hid (ih t w (by omega) (by omega))
          have I2 := Lib.hid ih
          clear hne hRR hc ih
          go_enter Tryz.func39, Tryz.ntmps39
          go_wp2_with fail
          refine I1.out.mono ?_
          rintro e w1 ⟨⟨h1, rfl⟩ | ⟨v1, L1, r1, h1, rfl, o1⟩, B1⟩
          · have hR : RR = none := by rw [HNE.out, h1]
            have HR := Lib.hid hR
            clear h1 hR I1
            go_wp2
            go_ret3
            exact ⟨.inl ⟨HR.out, rfl⟩, B1⟩
          · have k1 := rd_len _ _ _ _ h1
            have H1 := Lib.hid h1
            obtain ⟨a1, cc1, rfl, hr1, _, _, _⟩ := o1.form
            clear h1 I1
            cases r1 with
            | nil =>
              have hR : RR = none := by rw [HNE.out, H1.out]
              have hl1 := B8_list []
              have HR := Lib.hid hR
              clear hR k1
              go_wp2
              go_ret3
              exact ⟨.inl ⟨HR.out, rfl⟩, B1⟩
            | cons c1 r =>
              have hsz1 : (B8 (c1 :: r)).size = r.length + 1 := rfl
              have hl1 := B8_list (c1 :: r)
              have hdr1 := B8_drop (c1 :: r) 1
              have hg1 := B8_get (c1 :: r) 0
              rw [List.length_cons] at hdr1 k1
              rw [List.drop_succ_cons, List.drop_zero] at hdr1
              rw [show (c1 :: r).getD 0 0 = c1 from rfl] at hg1
              obtain ⟨S1, hS1⟩ : ∃ S1, S1 = B8 (c1 :: r) := ⟨_, rfl⟩
              rw [← hS1] at hsz1 hl1 hdr1 hg1 ⊢
              obtain ⟨C1, hC1⟩ : ∃ C1 : Nat, C1 = c1.toNat := ⟨_, rfl⟩
              rw [← hC1] at hg1
              have HC1 := Lib.hid hC1
              have hrl : r.length ≤ 400 := by omega
              have hL1 : L1.length ≤ 400 := by omega
              have hrg : r.length < g := by omega
              clear hS1 hC1 k1
              by_cases h32 : C1 = 32
              rotate_left
              · have hc1 : ¬ c1 = 32 := fun e => h32 (by rw [HC1.out, e]; rfl)
                have hR : RR = none := by rw [HNE.out, H1.out]; exact if_neg hc1
                have hd1 : ((C1 : Int) != 32) = true := by simp; omega
                have HR := Lib.hid hR
                clear hR hc1
                go_wp2
                go_ret3
                exact ⟨.inl ⟨HR.out, rfl⟩, B1⟩
              subst h32
              have hc1 : c1 = 32 := UInt8.toNat_inj.1 HC1.out.symm
              have hne2 : RR = (match rd g r with
                  | some (b, c2 :: m) => if c2 = 41 then some (L1 ++ b, m) else none
                  | _ => none) := by rw [HNE.out, H1.out]; exact if_pos hc1
              have HNE2 := Lib.hid hne2
              have I3 := Lib.hid (I2.out r w1 hrg hrl)
              clear hne2 hc1 I2 HNE
              go_wp2_with fail
              refine I3.out.mono ?_
              rintro e w2 ⟨⟨h2, rfl⟩ | ⟨v2, L2, r2, h2, rfl, o2⟩, B2⟩
              · have hR : RR = none := by rw [HNE2.out, h2]
                have HR := Lib.hid hR
                have B3 := B1.trans (B2.mono B1.size)
                clear h2 hR I3
                go_wp2
                go_ret3
                exact ⟨.inl ⟨HR.out, rfl⟩, B3⟩
              · have k2 := rd_len _ _ _ _ h2
                have H2 := Lib.hid h2
                obtain ⟨a2, cc2, rfl, hr2, _, _, _⟩ := o2.form
                have hr1b := hr1.below B2
                have B3 := B1.trans (B2.mono B1.size)
                clear h2 I3 o1 o2 hr1 B1 B2
                cases r2 with
                | nil =>
                  have hR : RR = none := by rw [HNE2.out, H2.out]
                  have hl2 := B8_list []
                  have HR := Lib.hid hR
                  clear hR k2
                  go_wp2
                  go_ret3
                  exact ⟨.inl ⟨HR.out, rfl⟩, B3⟩
                | cons c2 m =>
                  have hsz2 : (B8 (c2 :: m)).size = m.length + 1 := rfl
                  have hl2 := B8_list (c2 :: m)
                  have hdr2 := B8_drop (c2 :: m) 1
                  have hg2 := B8_get (c2 :: m) 0
                  rw [List.length_cons] at hdr2 k2
                  rw [List.drop_succ_cons, List.drop_zero] at hdr2
                  rw [show (c2 :: m).getD 0 0 = c2 from rfl] at hg2
                  obtain ⟨S2, hS2⟩ : ∃ S2, S2 = B8 (c2 :: m) := ⟨_, rfl⟩
                  rw [← hS2] at hsz2 hl2 hdr2 hg2 ⊢
                  obtain ⟨C2, hC2⟩ : ∃ C2 : Nat, C2 = c2.toNat := ⟨_, rfl⟩
                  rw [← hC2] at hg2
                  have HC2 := Lib.hid hC2
                  have hL2 : L2.length ≤ 400 := by omega
                  have hm1 : (1 : Int) ≤ (m.length : Int) + 1 := by omega
                  clear hS2 hC2 k2
                  by_cases h41 : C2 = 41
                  rotate_left
                  · have hc2 : ¬ c2 = 41 := fun e => h41 (by rw [HC2.out, e]; rfl)
                    have hR : RR = none := by rw [HNE2.out, H2.out]; exact if_neg hc2
                    have hd2 : ((C2 : Int) != 41) = true := by simp; omega
                    have HR := Lib.hid hR
                    clear hR hc2
                    go_wp2
                    go_ret3
                    exact ⟨.inl ⟨HR.out, rfl⟩, B3⟩
                  subst h41
                  have hc2 : c2 = 41 := UInt8.toNat_inj.1 HC2.out.symm
                  have hR : RR = some (L1 ++ L2, m) := by rw [HNE2.out, H2.out]; exact if_pos hc2
                  have HR := Lib.hid hR
                  have hlit := (Own.lit0 w2 w2.heap.size (Nat.le_refl _)).below (Below.refl _ _).drew
                  have b1 := ((Below.refl w2.heap.size w2).alloc (Nat.le_refl _) (.cells #[] 3)).drew
                  clear hR hc2
                  go_wp2_with fail
                  go_region_law (first
                    | (refine step_all rfl (.tmp 60) (.tmp 61) rfl w2.heap.size (.slice (some ⟨w2.heap.size, 0, none⟩) 0 0) [] rfl hlit b1.size a1 L1 _ _ rfl rfl (hr1b.below b1) (by omega) (by simp) ?_; intro u1 x1 p1 q1; have D1 := b1.grown q1 b1.size (fun q hq => by simp [Value.ownBlock] at hq; omega))
                    | (refine step_all rfl (.tmp 62) (.tmp 63) rfl w2.heap.size u1 L1 rfl p1 D1.size a2 L2 _ _ rfl rfl (hr2.below D1) (by omega) (by omega) ?_; intro u2 x2 p2 q2; have D2 := Below.grownB D1 p1 q2 D1.size (Nat.le_refl _)))
                  all_goals
                    have D3 := B3.trans (D2.mono B3.size)
                    go_wp2
                    go_ret3
                    exact ⟨.inr ⟨_, _, _, HR.out, rfl, p2.mono B3.size⟩, D3⟩
        · have hd46 : ((C : Int) == 46) = false := by simp; omega
          have hd40 : ((C : Int) == 40) = false := by simp; omega
          have hR0 : rd (g + 1) (c :: t) = if (rdn 0 0 (c :: t)).2.1 = 0 then none else some ([((rdn 0 0 (c :: t)).1 : Int)], (rdn 0 0 (c :: t)).2.2) := by
            rw [rd, if_neg (fun e => h46 (by rw [HC.out, e]; rfl)), if_neg (fun e => h40 (by rw [HC.out, e]; rfl))]
          have hgk := fun k (hk : k < t.length + 1) => B8_get (c :: t) k hk
          have hdk := fun k => B8_drop (c :: t) k
          have hgk2 : ∀ k, k < t.length + 1 → ∀ h : k < S.size, (S[k]'h).toNat = ((c :: t).getD k 0).toNat := by rw [HS.out]; exact fun k _ h => B8_get (c :: t) k h
          clear hgk
          have hgk := hgk2
          clear hgk2
          rw [← HS.out] at hdk
          obtain ⟨s, hs⟩ : ∃ s, s = c :: t := ⟨_, rfl⟩
          rw [← hs] at hR0 hgk hdk hl ⊢
          have hsl : t.length + 1 = s.length := by rw [hs]; rfl
          rw [hsl] at hgk hsz h400 hdr
          obtain ⟨N, hN⟩ : ∃ N, N = s.length := ⟨_, rfl⟩
          rw [← hN] at hgk hdk hsz h400 hdr
          have HN := Lib.hid hN
          obtain ⟨RR, hRR⟩ : ∃ RR, RR = rd (g + 1) s := ⟨_, rfl⟩
          rw [← hRR] at hR0 ⊢
          have HR0 := Lib.hid hR0
          have HGK := Lib.hid hgk
          have HDK := Lib.hid hdk
          have hN0 : 0 < N := by omega
          have hne : (s == ([] : List UInt8)) = false := by rw [hs]; rfl
          have hl' : (S.toList == ([] : List UInt8)) = false := by rw [hl]; exact hne
          clear hR0 hRR hN hsl hgk hdk hdr ih hl hs hne ht1 HC h46 h40
          go_enter Tryz.func39, Tryz.ntmps39
          go_wp2
          go_loop [11, 12] (fun nv kv => ∃ n k : Nat, k ≤ N ∧ nv = .int .i64 (n : Int) ∧ kv = .int .i64 (k : Int) ∧ n ≤ 9999 ∧ Hid (rdn 0 0 s = rdn n k (s.drop k))) (fun _ kv => N - (intOf kv).toNat)
          case atStart => exact ⟨0, 0, by omega, rfl, rfl, by omega, rfl⟩
          case round =>
            obtain ⟨n, k, hk, rfl, rfl, hn9, hrn⟩ := hrel
            have hstop : rdn n k (s.drop k) = (n, k, s.drop k) → (k = 0 → RR = none) ∧ (k ≠ 0 → RR = some ([(n : Int)], s.drop k)) := fun h => by
              have h1 := hrn.out.trans h
              have h2 := HR0.out
              rw [h1] at h2
              exact ⟨fun e => by rw [h2]; exact if_pos e, fun e => by rw [h2]; exact if_neg e⟩
            have HSTOP := Lib.hid hstop
            clear hstop
            have hdk := HDK.out k
            by_cases hlt : k < N
            · have hk1 : (k : Int) < (N : Int) := by omega
              have hgk := HGK.out k hlt
              have hdrop : s.drop k = s.getD k 0 :: s.drop (k + 1) := by
                have h : k < s.length := by have := HN.out; omega
                rw [List.drop_eq_getElem_cons h]; simp [List.getD, h]
              obtain ⟨x, hx⟩ : ∃ x, x = s.getD k 0 := ⟨_, rfl⟩
              rw [← hx] at hgk hdrop
              obtain ⟨D, hD⟩ : ∃ D : Nat, D = x.toNat := ⟨_, rfl⟩
              have hD256 : D < 256 := by rw [hD]; exact UInt8.toNat_lt x
              rw [← hD] at hgk
              have hisD : isD x = decide (48 ≤ D ∧ D ≤ 57) := by unfold isD; rw [hD]
              have hstep : rdn n k (s.drop k) = if (48 ≤ D ∧ D ≤ 57) ∧ n < 1000 then rdn (10 * n + (D - 48)) (k + 1) (s.drop (k + 1)) else (n, k, s.drop k) := by
                rw [hdrop, rdn, hisD, ← hD]
                simp
              have HST := Lib.hid hstep
              clear hstep hisD hD hx hdrop
              by_cases hd : (48 ≤ D ∧ D ≤ 57) ∧ n < 1000
              · have hs := HST.out
                rw [if_pos hd] at hs
                have hs2 := hrn.out.trans hs
                have HS2 := Lib.hid hs2
                have d1 : (48 : Int) ≤ (D : Int) := by omega
                have d2 : (D : Int) ≤ 57 := by omega
                have d3 : (n : Int) < 1000 := by omega
                have hw : IntKind.u8.wrap ((D : Int) - 48) = (D : Int) - 48 := by simp [IntKind.wrap, IntKind.signed, IntKind.bits]; omega
                clear hs hs2 HSTOP HST hrn hd
                go_wp2
                go_round
                case rel => exact ⟨10 * n + (D - 48), k + 1, by omega, by go_num, by go_num, by omega, HS2⟩
                case measure => simp [intOf]; omega
              · have hst := HST.out
                rw [if_neg hd] at hst
                have hcase : ¬ 48 ≤ D ∨ (48 ≤ D ∧ ¬ D ≤ 57) ∨ (48 ≤ D ∧ D ≤ 57 ∧ ¬ n < 1000) := by omega
                have HST2 := Lib.hid hst
                clear hd hst
                rcases hcase with e1 | ⟨e1, e2⟩ | ⟨e1, e2, e3⟩
                · have d1 : ¬ (48 : Int) ≤ (D : Int) := by omega
                  have hs := HSTOP.out HST2.out
                  by_cases hk0 : k = 0
                  · have HR := Lib.hid (hs.1 hk0)
                    have hkk : ((k : Int) == 0) = true := by simp [hk0]
                    clear hs HSTOP HST hrn HR0 HGK hk0 hdk
                    go_wp2
                    go_ret3
                    exact ⟨.inl ⟨HR.out, rfl⟩, Below.refl _ _⟩
                  · have HR := Lib.hid (hs.2 hk0)
                    have hkk : ((k : Int) == 0) = false := by simp; omega
                    have hkN : (k : Int) ≤ (N : Int) := by omega
                    have ho := (Own.lit w w.heap.size (Nat.le_refl _) (n : Int)).below (Below.refl _ _).drew
                    have hB := ((Below.refl w.heap.size w).alloc (Nat.le_refl _) (.cells #[.int .i64 (n : Int)] 3)).drew
                    clear hs HSTOP HST hrn HR0 HGK
                    go_wp2_with fail
                    go_region_law (fail)
                    all_goals
                      go_wp2
                      go_ret3
                      exact ⟨.inr ⟨.slice (some ⟨w.heap.size, 0, none⟩) 1 1, [(n : Int)], s.drop k, HR.out, by rfl, ho⟩, hB⟩
                · have d1 : (48 : Int) ≤ (D : Int) := by omega
                  have d2 : ¬ (D : Int) ≤ 57 := by omega
                  have hs := HSTOP.out HST2.out
                  by_cases hk0 : k = 0
                  · have HR := Lib.hid (hs.1 hk0)
                    have hkk : ((k : Int) == 0) = true := by simp [hk0]
                    clear hs HSTOP HST hrn HR0 HGK hk0 hdk
                    go_wp2
                    go_ret3
                    exact ⟨.inl ⟨HR.out, rfl⟩, Below.refl _ _⟩
                  · have HR := Lib.hid (hs.2 hk0)
                    have hkk : ((k : Int) == 0) = false := by simp; omega
                    have hkN : (k : Int) ≤ (N : Int) := by omega
                    have ho := (Own.lit w w.heap.size (Nat.le_refl _) (n : Int)).below (Below.refl _ _).drew
                    have hB := ((Below.refl w.heap.size w).alloc (Nat.le_refl _) (.cells #[.int .i64 (n : Int)] 3)).drew
                    clear hs HSTOP HST hrn HR0 HGK
                    go_wp2_with fail
                    go_region_law (fail)
                    all_goals
                      go_wp2
                      go_ret3
                      exact ⟨.inr ⟨.slice (some ⟨w.heap.size, 0, none⟩) 1 1, [(n : Int)], s.drop k, HR.out, by rfl, ho⟩, hB⟩
                · have d1 : (48 : Int) ≤ (D : Int) := by omega
                  have d2 : (D : Int) ≤ 57 := by omega
                  have d3 : ¬ (n : Int) < 1000 := by omega
                  have hs := HSTOP.out HST2.out
                  by_cases hk0 : k = 0
                  · have HR := Lib.hid (hs.1 hk0)
                    have hkk : ((k : Int) == 0) = true := by simp [hk0]
                    clear hs HSTOP HST hrn HR0 HGK hk0 hdk
                    go_wp2
                    go_ret3
                    exact ⟨.inl ⟨HR.out, rfl⟩, Below.refl _ _⟩
                  · have HR := Lib.hid (hs.2 hk0)
                    have hkk : ((k : Int) == 0) = false := by simp; omega
                    have hkN : (k : Int) ≤ (N : Int) := by omega
                    have ho := (Own.lit w w.heap.size (Nat.le_refl _) (n : Int)).below (Below.refl _ _).drew
                    have hB := ((Below.refl w.heap.size w).alloc (Nat.le_refl _) (.cells #[.int .i64 (n : Int)] 3)).drew
                    clear hs HSTOP HST hrn HR0 HGK
                    go_wp2_with fail
                    go_region_law (fail)
                    all_goals
                      go_wp2
                      go_ret3
                      exact ⟨.inr ⟨.slice (some ⟨w.heap.size, 0, none⟩) 1 1, [(n : Int)], s.drop k, HR.out, by rfl, ho⟩, hB⟩
            · obtain rfl : k = N := by omega
              have hnil : s.drop k = [] := List.drop_eq_nil_of_le (by have := HN.out; omega)
              have HST2 : Hid (rdn n k (s.drop k) = (n, k, s.drop k)) := by show rdn n k (s.drop k) = (n, k, s.drop k); rw [hnil]; rfl
              have HST := HST2
              clear hdk
              have hs := HSTOP.out HST2.out
              by_cases hk0 : k = 0
              · have HR := Lib.hid (hs.1 hk0)
                have hkk : ((k : Int) == 0) = true := by simp [hk0]
                clear hs HSTOP HST hrn HR0 HGK hk0
                go_wp2
                go_ret3
                exact ⟨.inl ⟨HR.out, rfl⟩, Below.refl _ _⟩
              · rw [hnil] at hs
                have HR := Lib.hid (hs.2 hk0)
                have hkk : ((k : Int) == 0) = false := by simp; omega
                have hkN : (k : Int) ≤ (k : Int) := by omega
                have ho := (Own.lit w w.heap.size (Nat.le_refl _) (n : Int)).below (Below.refl _ _).drew
                have hB := ((Below.refl w.heap.size w).alloc (Nat.le_refl _) (.cells #[.int .i64 (n : Int)] 3)).drew
                clear hs HSTOP HST hrn HR0 HGK
                go_wp2_with fail
                go_region_law (fail)
                all_goals
                  go_wp2
                  go_ret3
                  exact ⟨.inr ⟨.slice (some ⟨w.heap.size, 0, none⟩) 1 1, [(n : Int)], [], HR.out, by rfl, ho⟩, hB⟩
end Go.Proofs.YtoaiaindcmihjaaGreatDoor
/-
  spec.ReadTree.
-/
namespace Go.Proofs.YtoaiaindcmihjaaGreatDoor
open Go.RowKit

set_option maxHeartbeats 8000000 in
theorem specReadTree_any (s : List UInt8) (w : World) : Calls Tryz.prog 16 #[.string (B8 s)] w fun e w' => ∃ v, e = .returned (.tuple #[v, .bool (RT s).isSome]) ∧ Own w' w.heap.size v ((RT s).getD []) ∧ Below w.heap.size w w' := by
  have hsz := B8_size s
  have hl := B8_list s
  have CR := fun (h : s.length ≤ 400) => readTree_any (s.length + 1) s w (by omega) h
  obtain ⟨S, hS⟩ : ∃ S, S = B8 s := ⟨_, rfl⟩
  rw [← hS] at hsz hl CR ⊢
  obtain ⟨N, hN⟩ : ∃ N, N = s.length := ⟨_, rfl⟩
  rw [← hN] at hsz
  obtain ⟨RR, hRR⟩ : ∃ RR, RR = RT s := ⟨_, rfl⟩
  rw [← hRR]
  have HRR := Lib.hid hRR
  have HN := Lib.hid hN
  have HCR := Lib.hid CR
  clear hS hRR hN CR
  by_cases h400 : N ≤ 400
  rotate_left
  · obtain rfl : RR = none := by rw [HRR.out]; unfold RT; rw [if_neg (by rw [← HN.out]; exact h400)]
    have h1 : (N : Int) > 400 := by omega
    clear HCR
    go_enter Tryz.func16, Tryz.ntmps16
    go_wp2
    go_ret2
    exact ⟨_, rfl, Own.nil _ _, Below.refl _ _⟩
  have h1 : ¬ (N : Int) > 400 := by omega
  have cr := HCR.out (by rw [← HN.out]; exact h400)
  have hRT : RR = match rd (s.length + 1) s with
    | some (l, []) => if TXT l = s then some (srt l) else none
    | _ => none := by rw [HRR.out]; unfold RT; rw [if_pos (by rw [← HN.out]; exact h400)]; rfl
  have HRT := Lib.hid hRT
  have CR := Lib.hid cr
  clear hRT cr HCR HRR
  go_enter Tryz.func16, Tryz.ntmps16
  go_wp2_with fail
  refine CR.out.mono ?_
  rintro e w1 ⟨⟨h2, rfl⟩ | ⟨v1, L, r, h2, rfl, o1⟩, B1⟩
  · have HR : Hid (RR = none) := by show RR = none; rw [HRT.out, h2]
    clear h2 CR
    go_wp2
    go_ret2
    rw [HR.out]
    exact ⟨_, rfl, Own.nil _ _, B1⟩
  · have k1 := rd_len _ _ _ _ h2
    have hL : L.length ≤ 400 := by have := HN.out; omega
    have H2 := Lib.hid h2
    obtain ⟨a1, c1, rfl, hr1, hlc, _, _⟩ := o1.form
    clear h2 CR k1
    cases r with
    | cons c t =>
      have HR : Hid (RR = none) := by show RR = none; rw [HRT.out, H2.out]
      have hl2 := B8_list (c :: t)
      obtain ⟨S2, hS2⟩ : ∃ S2, S2 = B8 (c :: t) := ⟨_, rfl⟩
      rw [← hS2] at hl2 ⊢
      clear hS2 o1
      go_wp2
      go_ret2
      rw [HR.out]
      exact ⟨_, rfl, Own.nil _ _, B1⟩
    | nil =>
      have hl2 := B8_list []
      have ct := specTreeText_any a1 L c1 w1 hr1 (by omega) hlc
      obtain ⟨T, hT⟩ : ∃ T, T = TXT L := ⟨_, rfl⟩
      rw [← hT] at ct
      have hl3 := B8_list T
      obtain ⟨S3, hS3⟩ : ∃ S3, S3 = B8 T := ⟨_, rfl⟩
      rw [← hS3] at hl3 ct
      have CT := Lib.hid ct
      have HT := Lib.hid hT
      have cs := fun wx (h : Reads wx a1 L) => sortInts_any a1 L c1 wx h (by omega)
      have CS := Lib.hid cs
      clear hS3 ct hT cs o1
      by_cases hTs : T = s
      · have HR : Hid (RR = some (srt L)) := by show RR = some (srt L); rw [HRT.out, H2.out]; exact if_pos (by rw [← HT.out]; exact hTs)
        have hb : (T == s) = true := by rw [hTs]; simp
        have hb2 : (T != s) = false := by rw [hTs]; simp
        clear hTs
        go_wp2_with fail
        refine CT.out.mono ?_
        rintro e w2 ⟨rfl, b2⟩
        have hr2 := hr1.below b2
        have B2 := B1.trans (b2.mono B1.size)
        go_wp2_with fail
        refine (CS.out _ hr2).mono ?_
        rintro e w3 ⟨v3, rfl, o3, b3⟩
        have B3 := B2.trans (b3.mono B2.size)
        clear CT CS b2 b3
        go_wp2
        go_ret2
        rw [HR.out]
        exact ⟨_, rfl, o3.mono B2.size, B3⟩
      · have HR : Hid (RR = none) := by show RR = none; rw [HRT.out, H2.out]; exact if_neg (by rw [← HT.out]; exact hTs)
        have hb : (T == s) = false := by simpa using hTs
        have hb2 : (T != s) = true := by simpa using hTs
        clear hTs CS
        go_wp2_with fail
        refine CT.out.mono ?_
        rintro e w2 ⟨rfl, b2⟩
        have B2 := B1.trans (b2.mono B1.size)
        go_wp2
        go_ret2
        rw [HR.out]
        exact ⟨_, rfl, Own.nil _ _, B2⟩
end Go.Proofs.YtoaiaindcmihjaaGreatDoor
