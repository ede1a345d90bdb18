/-
  spec.empty, spec.linear, spec.LinearTable.
-/
import Derived.Test.YtapkalpmnldhpabM1
import Derived.Test.YtapkalpmnldhpabW1
namespace Go.Proofs.Ytapkalpmnldhpab
open Go.RowKit

set_option maxHeartbeats 400000 in
theorem empty_any (M : Nat) (hM : M ≤ 1000) (w : World) :
    Calls Try.prog 69 #[.int .i64 M] w fun e w' => ∃ v, e = .returned v ∧ Own w' w.heap.size v (List.replicate M (-1)) ∧ Below w.heap.size w w' := by
  go_enter Try.func69, Try.ntmps69
  go_wp2
  go_loopw [0, 3] (fun s v wr => ∃ j : Nat, j ≤ M ∧ s = .int .i64 j ∧ Own wr w.heap.size v (List.replicate (M - j) (-1)) ∧ Below w.heap.size w wr) (fun s _ _ => (intOf s).toNat)
  case atStart => exact ⟨M, Nat.le_refl _, rfl, by rw [Nat.sub_self]; exact Own.lit0 _ _ (Nat.le_refl _), (Below.refl _ _).alloc (Nat.le_refl _) _⟩
  case round =>
    obtain ⟨j, hj, rfl, hown, hb⟩ := hrel
    have hsz := hb.size
    by_cases hlt : 0 < j
    · go_wp2_with (at_builtin; refine push_int rfl _ _ rfl w.heap.size u3 _ (-1) rfl hown rfl (by rw [List.length_replicate]; omega) hsz ?_)
      intro v' w1 ho1 _ hg1
      have hb1 := Below.grownB hb hown hg1 hsz (Nat.le_refl _)
      have ho2 : Own w1 w.heap.size v' (List.replicate (M - (j - 1)) (-1)) := by
        rw [show M - (j - 1) = (M - j) + 1 by omega, List.replicate_succ']; exact ho1
      clear ho1 hg1 hown hb
      go_wp2
      go_roundw
      case rel => exact ⟨j - 1, by omega, by rw [Int.ofNat_sub (by omega)]; rfl, ho2, hb1⟩
      case measure => simp [intOf]; omega
    · obtain rfl : j = 0 := by omega
      go_wp2
      go_ret
      exact ⟨_, rfl, hown, hb⟩

set_option maxHeartbeats 1000000 in
theorem linear_any (M : Nat) (a : Option Addr) (l : List Int) (cap : Nat) (w : World) (hr : Reads w a l) (h : Homes M l) :
    Calls Try.prog 73 #[.int .i64 M, .slice a l.length cap] w fun e w' => ∃ v, e = .returned (.tuple #[v, .int .i64 (lin M l l.length).2]) ∧ Own w' w.heap.size v (lin M l l.length).1 ∧ Below w.heap.size w w' := by
  have hM := h.le
  have hM1 := h.pos
  have hlen := h.len
  go_enter Try.func73, Try.ntmps73
  go_wp2_with fail
  refine (empty_any M (by omega) _).mono ?_
  rintro e w1 ⟨v, rfl, ho, hb⟩
  obtain ⟨g, cap', rfl, ht⟩ := ho.tab (by simp; omega)
  rw [List.length_replicate] at ht ⊢
  clear ho
  go_wp2
  go_loopw [7, 8] (fun c i wr => ∃ k : Nat, k ≤ l.length ∧ i = .int .i64 k ∧ c = .int .i64 (lin M l k).2 ∧ Tab wr w.heap.size g M cap' (lin M l k).1 ∧ Below w.heap.size w wr) (fun _ i _ => l.length - (intOf i).toNat)
  case atStart => exact ⟨0, Nat.zero_le _, rfl, rfl, ht, hb⟩
  case round =>
    clear ht hb
    obtain ⟨k, hk, rfl, rfl, ht, hb⟩ := hrel
    by_cases hlt : k < l.length
    · obtain ⟨b, off, x, rfl, hbb, hcell, hx⟩ := hr.get hlt
      have hfit := h.fit k hlt
      have hx2 : x = (home l k : Int) := by rw [h.home_cast hlt]; exact hx.out.symm
      have hhl := h.home_lt hlt
      clear hfit hx
      subst hx2
      have hc1 : wr.cell? ⟨b, off + k, none⟩ = some (.int .i64 (home l k)) := (hb.cell (by exact hbb)).trans hcell
      have hbd := lin_bound h k hk
      obtain ⟨D, hway⟩ := way (lin_len M l k) hhl (by rw [lin_held h k hk]; omega)
      have hDM := hway.lt
      go_wp2
      go_loop [7, 9] (fun c at_ => ∃ d p : Nat, d ≤ D ∧ p < M ∧ at_ = .int .i64 p ∧ c = .int .i64 ((lin M l k).2 + 1 + d) ∧ Hid (p = (home l k + d) % M)) (fun c _ => ((lin M l k).2 + 1 + D) - (intOf c).toNat)
      case atStart => exact ⟨0, home l k, Nat.zero_le _, hhl, rfl, by simp, (Nat.mod_eq_of_lt hhl).symm⟩
      case round =>
        obtain ⟨d, p, hd, hp, rfl, rfl, hpd⟩ := hrel
        obtain ⟨y, hcell2, hy⟩ := ht.get hp
        by_cases hlt2 : y < 0
        · have hdD : d = D := by
            apply Classical.byContradiction
            intro hne
            exact hway.full d p (by omega) hpd.out (by rw [hy.out]; exact hlt2)
          have HD := Lib.hid hdD
          clear hdD
          have hfz := ht.frozen p
          have hst := ht.store p k
          have hbs := hb.setCell (p := ⟨g, p, none⟩) (ht.block.1) (.int .i64 k)
          go_wp2
          go_roundw
          case rel =>
            obtain ⟨e1, e2⟩ := lin_succ hway (p := p) (by rw [← HD.out]; exact hpd.out)
            refine ⟨k + 1, by omega, by go_num, ?_, by rw [e1]; exact hst, hbs⟩
            rw [e2, ← HD.out]; congr 1; omega
          case measure => simp [intOf]; omega
        · have hdD : d < D := by
            apply Classical.byContradiction
            intro hne
            have : d = D := by omega
            exact hlt2 (by rw [← hy.out]; exact hway.free p (by rw [← this]; exact hpd.out))
          go_wp2
          go_round
          case rel => exact ⟨d + 1, (p + 1) % M, by omega, Nat.mod_lt _ (by omega), by rw [cast_step], by go_num, by rw [hpd.out]; exact step_mod _ _ _⟩
          case measure => simp [intOf]; omega
    · obtain rfl : k = l.length := by omega
      have e : (lin M l l.length).1.length = M := lin_len _ _ _
      go_wp2
      go_ret2
      exact ⟨_, rfl, ht.own, hb⟩

theorem specLinearTable_yes (M : Nat) (a : Option Addr) (l : List Int) (cap : Nat) (w : World) (hr : Reads w a l) (h : Homes M l) (hv : VH M l = true) :
    Calls Try.prog 70 #[.int .i64 M, .slice a l.length cap] w fun e w' => ∃ v, e = .returned (.tuple #[v, .int .i64 (lin M l l.length).2]) ∧ Own w' w.heap.size v (lin M l l.length).1 ∧ Below w.heap.size w w' := by
  have hM := h.le
  have hlen := h.len
  go_enter Try.func70, Try.ntmps70
  go_wp2_with fail
  refine (specvalidHomes_any _ _ _ _ _ hr ⟨by omega, by omega⟩ (by omega)).mono ?_
  rintro e w' ⟨rfl, rfl⟩
  go_wp2_with fail
  refine (linear_any M _ _ _ _ hr h).mono ?_
  rintro e w' ⟨v, rfl, ho, hb⟩
  go_wp2
  go_ret2
  exact ⟨_, rfl, ho, hb⟩

theorem specLinearTable_no (m : Int) (a : Option Addr) (l : List Int) (cap : Nat) (w : World) (hr : Reads w a l) (hm : In64 m) (hl : l.length ≤ 1048586) (hv : VH m l = false) :
    Calls Try.prog 70 #[.int .i64 m, .slice a l.length cap] w fun e w' => e = .returned (.tuple #[.slice none 0 0, .int .i64 (-1)]) ∧ w = w' := by
  go_enter Try.func70, Try.ntmps70
  go_wp2_with fail
  refine (specvalidHomes_any _ _ _ _ _ hr hm hl).mono ?_
  rintro e w' ⟨rfl, rfl⟩
  go_wp2
  go_ret2
  exact ⟨rfl, rfl⟩
theorem specLinearTable_any (m : Int) (a : Option Addr) (l : List Int) (cap : Nat) (w : World) (hm : In64 m) (hr : Reads w a l) (_hi : ∀ n ∈ l, In64 n) (hl : l.length ≤ 1048586) :
    Calls Try.prog 70 #[.int .i64 m, .slice a l.length cap] w fun e w' => ∃ v, e = .returned (.tuple #[v, .int .i64 (LT m l).2]) ∧ Own w' w.heap.size v (LT m l).1 ∧ Below w.heap.size w w' := by
  by_cases hv : VH m l = true
  · have hh := VH_iff.1 hv
    have hM := Homes.of_VH hh
    obtain ⟨M, rfl⟩ := Int.eq_ofNat_of_zero_le (show 0 ≤ m by omega)
    unfold LT
    rw [if_pos hv]
    exact specLinearTable_yes M a l cap w hr hM hv
  · refine (specLinearTable_no m a l cap w hr hm hl (by simpa using hv)).mono ?_
    rintro e w' ⟨rfl, rfl⟩
    unfold LT
    rw [if_neg hv]
    exact ⟨_, rfl, Own.nil _ _, Below.refl _ _⟩

end Go.Proofs.Ytapkalpmnldhpab
