/-
  impl.joinGroups, impl.GroupsOf.
-/
import Derived.Test.YtlkhobofbkoliaaPd
namespace Go.Proofs.Ytlkhobofbkoliaa
open Go.RowKit

theorem minI (x y : Int) : min x y = if y < x then y else x := by split <;> omega

set_option maxHeartbeats 1000000 in
theorem joinGroups_any (base g n cap : Nat) (X : List Int) (x y : Int) (w : World) (ht : Tab w base g n cap X) (hn : n ≤ 1000) :
    Calls Try.prog 89 #[.slice (some ⟨g, 0, none⟩) n cap, .int .i64 x, .int .i64 y] w fun e w' => e = .returned (.tuple #[]) ∧ Tab w' base g n cap (join X x y) ∧ w.grownBy w' (some g) := by
  have hX := ht.len
  go_enter Try.func89, Try.ntmps89
  go_wp2
  go_loopw [10] (fun i wr => ∃ k : Nat, k ≤ n ∧ i = .int .i64 k ∧ Tab wr base g n cap (joinK X x y k) ∧ w.grownBy wr (some g)) (fun i _ => n - (intOf i).toNat)
  case atStart => exact ⟨0, Nat.zero_le _, rfl, by rw [joinK_zero]; exact ht, World.grownBy.refl _ _⟩
  case round =>
    obtain ⟨k, hk, rfl, hT, hg⟩ := hrel
    by_cases hlt : k < n
    · obtain ⟨z, hc, hz⟩ := hT.get hlt
      rw [joinK_get (by omega)] at hz
      have hfz := hT.frozen k
      have hst := hT.store k (min x y)
      obtain ⟨_, hs2⟩ := World.ownsRow.stored hT k (.int .i64 (min x y))
      have hg2 := grownBy_trans' hg hs2
      by_cases h1 : z = x
      · have hb : (z == x) = true := by simp [h1]
        have e := joinK_succ (X := X) (x := x) (y := y) (k := k) (by omega)
        rw [if_pos (.inl (by rw [hz.out]; exact h1))] at e
        rw [e] at hst
        rw [minI] at hst hg2
        clear e h1
        go_wp2
        go_roundw
        case rel => exact ⟨k + 1, by omega, by go_num, hst, hg2⟩
        case measure => simp [intOf]; omega
      · have hb : (z == x) = false := by simp [h1]
        by_cases h2 : z = y
        · have hb2 : (z == y) = true := by simp [h2]
          have e := joinK_succ (X := X) (x := x) (y := y) (k := k) (by omega)
          rw [if_pos (.inr (by rw [hz.out]; exact h2))] at e
          rw [e] at hst
          rw [minI] at hst hg2
          clear e h2
          go_wp2
          go_roundw
          case rel => exact ⟨k + 1, by omega, by go_num, hst, hg2⟩
          case measure => simp [intOf]; omega
        · have hb2 : (z == y) = false := by simp [h2]
          go_wp2
          go_roundw
          case rel => exact ⟨k + 1, by omega, by go_num, by rw [← joinK_same (by omega) (by rw [hz.out]; omega)]; exact hT, hg⟩
          case measure => simp [intOf]; omega
    · obtain rfl : k = n := by omega
      rw [← hX, joinK_all] at hT
      go_wp2
      go_end0
      rw [hX] at hT
      exact ⟨rfl, hT, hg⟩

/-- The groups while they are laid: the first k slots. -/
def rng (M k : Nat) : List Int := ((List.range M).map fun s : Nat => if s < k then (s : Int) else 0)
theorem rng_len (M k : Nat) : (rng M k).length = M := by simp [rng]
theorem rng_zero (M : Nat) : rng M 0 = List.replicate M 0 := by
  unfold rng
  refine List.ext_getElem (by simp) fun i h1 h2 => by simp
theorem rng_all (M : Nat) (l : List (Int × Int)) : rng M M = gr M l 0 := by
  unfold rng gr
  refine List.map_congr_left fun s hs => ?_
  rw [if_pos (by simpa using hs)]
theorem rng_succ {M k : Nat} (h : k < M) : (rng M k).set k k = rng M (k + 1) := by
  refine List.ext_getElem (by simp [rng]) fun i h1 h2 => ?_
  rw [List.getElem_set]
  simp only [rng, List.getElem_map, List.getElem_range]
  by_cases e : k = i
  · subst e; simp
  · rw [if_neg e]
    by_cases e2 : i < k
    · rw [if_pos e2, if_pos (by omega)]
    · rw [if_neg e2, if_neg (by omega)]

set_option maxHeartbeats 1000000 in
set_option maxRecDepth 100000 in
theorem implGroupsOf_yes (M : Nat) (a : Option Addr) (l : List (Int × Int)) (cap : Nat) (w : World) (hr : ReadsP w a l) (hP : Prs M l) :
    Calls Try.prog 38 #[.int .i64 M, .slice a l.length cap] w fun e w' => ∃ v, e = .returned v ∧ Own w' w.heap.size v (gra M l) ∧ Below w.heap.size w w' := by
  have hM := hP.le
  have hM1 := hP.pos
  have hlen := hP.len
  obtain ⟨i0, hi, hz0, hz1, hz2⟩ := info_parts infoInt
  have hvp := hP.VP
  have HV := Lib.hid hvp
  clear hvp
  go_enter Try.func38, Try.ntmps38
  go_wp2_with fail
  refine (implVP_any _ _ _ _ _ hr).mono ?_
  rintro e w0 ⟨rfl, hb0⟩
  rw [HV.out]
  have hs0 := hb0.size
  go_wp2_with (refine wpList_make_full _ rfl _ _ 23 rfl w.heap.size 3 i0 (.int .i64 0) 1 Try.underlying23 hi hz0 hz1 .i64 .i64 _ _ M rfl rfl rfl rfl ?c1 ?c2 ?c3 ?_)
  case c1 => rw [hz2]; omega
  case c2 => unfold maxLen; omega
  case c3 => exact hs0
  intro w1 hown hgrow
  have hb1 : Below w.heap.size w w1 := hb0.grown hgrow hs0 (fun k h => by cases h)
  have ht1 : Tab w1 w.heap.size w0.heap.size M M (rng M 0) := by
    unfold Tab
    rw [rng_zero, List.map_replicate, ← toList_madeCells_one]; exact hown
  clear hown hgrow hi hz0 hz1 hz2 hb0
  obtain ⟨g, hg⟩ : ∃ g, g = w0.heap.size := ⟨_, rfl⟩
  rw [← hg] at ht1 ⊢
  clear hg hs0
  go_wp2
  go_loopw [17] (fun i wr => ∃ k : Nat, k ≤ M ∧ i = .int .i64 k ∧ Tab wr w.heap.size g M M (rng M k) ∧ Below w.heap.size w wr) (fun i _ => M - (intOf i).toNat)
  case atStart => exact ⟨0, Nat.zero_le _, rfl, ht1, hb1⟩
  case round =>
    clear ht1 hb1
    obtain ⟨k, hk, rfl, hT, hb⟩ := hrel
    by_cases hlt : k < M
    · obtain ⟨z, hc, hz⟩ := hT.get hlt
      clear hz
      have hfz := hT.frozen k
      have hst := hT.store k k
      rw [rng_succ hlt] at hst
      have hb2 := hb.setCell (p := ⟨g, k, none⟩) hT.block.1 (.int .i64 k)
      go_wp2
      go_roundw
      case rel => exact ⟨k + 1, by omega, by go_num, hst, hb2⟩
      case measure => simp [intOf]; omega
    · obtain rfl : k = M := by omega
      rw [rng_all k l] at hT
      go_wp2
      go_loopw [27] (fun i wr => ∃ j : Nat, j ≤ l.length ∧ i = .int .i64 j ∧ Tab wr w.heap.size g k k (gr k l j) ∧ Below w.heap.size w wr) (fun i _ => l.length - (intOf i).toNat)
      case atStart => exact ⟨0, Nat.zero_le _, rfl, hT, hb⟩
      case round =>
        clear hT hb
        obtain ⟨j, hj, rfl, hT, hb⟩ := hrel
        have hsz := hb.size
        by_cases hlt2 : j < l.length
        · obtain ⟨b, off, x, y, rfl, hbb, hcx, hcy, hx, hy⟩ := hr.get hlt2
          have fx := hP.cA hlt2
          have fy := hP.cB hlt2
          have lx := hP.lA hlt2
          have ly := hP.lB hlt2
          obtain ⟨p, hp⟩ : ∃ p, p = hA l j := ⟨_, rfl⟩
          obtain ⟨q, hq⟩ : ∃ q, q = hB l j := ⟨_, rfl⟩
          rw [hx.out, ← hp] at fx
          rw [hy.out, ← hq] at fy
          rw [← hp] at lx
          rw [← hq] at ly
          have HP := Lib.hid hp
          have HQ := Lib.hid hq
          clear hp hq hx hy
          subst fx fy
          have c1 : wr.cell? ⟨b, off + j * 2, none⟩ = some (.int .i64 p) := (hb.cell (by exact hbb)).trans hcx
          have c2 : wr.cell? ⟨b, off + j * 2 + 1, none⟩ = some (.int .i64 q) := (hb.cell (by exact hbb)).trans hcy
          clear hcx hcy
          have hT2 := hT.below ((Below.refl wr.heap.size wr).alloc (Nat.le_refl _) (.cells #[.int .i64 p, .int .i64 q] 44))
          have hb2 := hb.alloc hsz (.cells #[.int .i64 p, .int .i64 q] 44)
          obtain ⟨u, hcu, hu⟩ := hT.get lx
          obtain ⟨v, hcv, hv⟩ := hT.get ly
          have hgl := (hT.block).2
          go_wp2
          refine region_tail 11 (by kernel_rfl) (by kernel_rfl) ?_
          simp only [List.take_succ_cons, List.take_zero, List.drop_succ_cons, List.drop_zero]
          repeat still_step
          refine wpStill_nil ?_
          go_wp2_with fail
          refine (joinGroups_any w.heap.size g k k (gr k l j) u v _ ?_ (by omega)).mono ?_
          · exact World.ownsRow.drew hT2
          rintro e w3 ⟨rfl, hT3, hg3⟩
          have hb3 : Below w.heap.size w w3 := (hb2.drew).grown hg3 (by exact hb2.size) (fun q hq => by cases hq; exact hT.block.1)
          have eJ : join (gr k l j) u v = gr k l (j + 1) := by rw [gr, ← HP.out, ← HQ.out, hu.out, hv.out]
          rw [eJ] at hT3
          clear eJ hT hb hT2 hb2 hg3
          go_wp2
          go_roundw
          case rel => exact ⟨j + 1, by omega, by go_num, hT3, hb3⟩
          case measure => simp [intOf]; omega
        · obtain rfl : j = l.length := by omega
          go_wp2
          go_ret
          exact ⟨_, rfl, hT.own, hb⟩

theorem implGroupsOf_any (m : Int) (a : Option Addr) (l : List (Int × Int)) (cap : Nat) (w : World) (hm : In64 m) (hr : ReadsP w a l) (_hl : l.length ≤ 1048586) :
    Calls Try.prog 38 #[.int .i64 m, .slice a l.length cap] w fun e w' => ∃ v, e = .returned v ∧ Own w' w.heap.size v (GO m l) ∧ Below w.heap.size w w' := by
  by_cases hv : VP m l = true
  · obtain ⟨M, rfl, hP⟩ := Prs.of_VP hv
    unfold GO
    rw [if_pos hv]
    exact implGroupsOf_yes M a l cap w hr hP
  · have hv' : VP m l = false := by simpa using hv
    unfold GO
    rw [if_neg hv]
    clear hv
    have HV := Lib.hid hv'
    clear hv'
    go_enter Try.func38, Try.ntmps38
    go_wp2_with fail
    refine (implVP_any _ _ _ _ _ hr).mono ?_
    rintro e w0 ⟨rfl, hb0⟩
    rw [HV.out]
    go_wp2
    go_ret
    exact ⟨_, rfl, Own.nil _ _, hb0⟩
end Go.Proofs.Ytlkhobofbkoliaa
