/-
  impl.LinearTable.
-/
import Derived.Test.YtapkalpmnldhpabS1
import Derived.Test.YtapkalpmnldhpabI0
namespace Go.Proofs.Ytapkalpmnldhpab
open Go.RowKit

set_option maxHeartbeats 1000000 in
theorem implLinearTable_yes (M : Nat) (a : Option Addr) (l : List Int) (cap : Nat) (w : World) (hr : Reads w a l) (h : Homes M l) (hv : VH M l = true) :
    Calls Try.prog 23 #[.int .i64 M, .slice a l.length cap] w fun e w' => ∃ v, e = .returned (.tuple #[v, .int .i64 (lin M l l.length).2]) ∧ Own w' w.heap.size v (lin M l l.length).1 ∧ Below w.heap.size w w' := by
  have hM := h.le
  have hM1 := h.pos
  have hlen := h.len
  go_enter Try.func23, Try.ntmps23
  go_wp2_with fail
  go_step3
  go_wp2_with fail
  refine (implValidHomes_any _ _ _ _ _ hr).mono ?_
  rintro e w' ⟨rfl, rfl⟩
  go_wp2_with fail
  refine (freeTable_any _).mono ?_
  rintro e w1 ⟨rfl, hb⟩
  have hs1 := hb.size
  have h0 : Arr (w1.alloc (.cells (arr (List.replicate 10 0)) 68)) 68 w1.heap.size (List.replicate 10 0) := Arr.new _ _ _
  rw [arr_zero10] at h0
  go_wp2_with (refine store_arr rfl _ _ _ rfl _ rfl _ _ rfl _ _ h0 inf_slot rfl rfl ?_)
  intro w2 h2 hg2
  have hb2 : Below w.heap.size w w2 := (hb.alloc hb.size _).grown hg2 (by simp; omega) (fun q hq => by cases hq; exact hb.size)
  rw [full_free M hM] at h2
  clear hg2 h0 hb
  go_wp2
  go_step3
  go_wp2
  obtain ⟨g, hg⟩ : ∃ g, g = w1.heap.size := ⟨_, rfl⟩
  rw [← hg] at h2 ⊢
  have hgw : w.heap.size ≤ g := by omega
  clear hg
  go_loopw [7, 20] (fun c i wr => ∃ k : Nat, k ≤ l.length ∧ i = .int .i64 k ∧ c = .int .i64 (lin M l k).2 ∧ Arr wr 68 g (full (lin M l k).1) ∧ Below w.heap.size w wr) (fun _ i _ => l.length - (intOf i).toNat)
  case atStart => exact ⟨0, Nat.zero_le _, rfl, rfl, h2, hb2⟩
  case round =>
    clear h2 hb2
    obtain ⟨k, hk, rfl, rfl, ht, hb⟩ := hrel
    by_cases hlt : k < l.length
    · obtain ⟨b, off, x, rfl, hbb, hcell, hx⟩ := hr.get hlt
      have hx2 : x = (home l k : Int) := by rw [h.home_cast hlt]; exact hx.out.symm
      have hhl := h.home_lt hlt
      clear hx
      subst hx2
      have hc1 : wr.cell? ⟨b, off + k, none⟩ = some (.int .i64 (home l k)) := (hb.cell (by exact hbb)).trans hcell
      have hbd := lin_bound h k hk
      obtain ⟨D, hway⟩ := way (lin_len M l k) hhl (by rw [lin_held h k hk]; omega)
      have hDM := hway.lt
      have hll := lin_len M l k
      have HLL := Lib.hid hll
      clear hll
      go_wp2_with fail
      refine (lookFrom_any _ _ _).mono ?_
      rintro e w3 ⟨rfl, hk1, hk2, hb3, hs3⟩
      have ht3 := ht.belowAll hb3
      have hb4 := hb.trans (hb3.mono hb.size)
      have hk1' : w3.cell? ⟨wr.heap.size, 0, none⟩ = some (.int .i64 (M : Int)) := hk1
      clear ht hb hb3 hk1
      go_wp2
      go_loop [7, 29] (fun c i => ∃ d : Nat, d ≤ D ∧ i = .int .i64 d ∧ c = .int .i64 ((lin M l k).2 + d)) (fun _ i => M - (intOf i).toNat)
      case atStart => exact ⟨0, Nat.zero_le _, rfl, by simp⟩
      case round =>
        obtain ⟨d, hd, rfl, rfl⟩ := hrel
        obtain ⟨p, hpd⟩ : ∃ p, p = (home l k + d) % M := ⟨_, rfl⟩
        have hpM : p < M := by rw [hpd]; exact Nat.mod_lt _ (by omega)
        obtain ⟨y, hcell2, hy⟩ := ht3.get (k := p) (by rw [full_len (by rw [HLL.out]; exact hM)]; omega)
        have hy2 : (lin M l k).1.getD p 0 = y := by rw [← hy.out, full_get (by rw [HLL.out]; exact hpM)]
        have HPD := Lib.hid hpd
        have HY := Lib.hid hy2
        clear hpd hy hy2
        go_wp2_with fail
        refine (lookFrom1_any M (home l k) d (by omega) (by omega) (by omega) (by omega) wr.heap.size (wr.heap.size + 1) _ hk1' hk2).mono ?_
        rintro e w' ⟨rfl, rfl⟩
        rw [← HPD.out]
        have hsl := lin_slots M l k p (by rw [HLL.out]; exact hpM)
        rw [HY.out] at hsl
        by_cases hlt2 : y = -1
        · have hdD : d = D := by
            apply Classical.byContradiction
            intro hne
            exact hway.full d p (by omega) HPD.out (by rw [HY.out]; omega)
          have HD := Lib.hid hdD
          clear hdD hsl
          subst hlt2
          have hfz := ht3.frozen p
          have hst := ht3.store p k
          rw [full_set (by rw [HLL.out]; exact hpM)] at hst
          have hbs := hb4.setCell (p := ⟨g, p, none⟩) hgw (.int .i64 k)
          go_wp2
          go_roundw
          case rel =>
            obtain ⟨e1, e2⟩ := lin_succ hway (p := p) (by rw [← HD.out]; exact HPD.out)
            refine ⟨k + 1, by omega, by go_num, ?_, by rw [e1]; exact hst, hbs⟩
            rw [e2, ← HD.out]; congr 1
          case measure => simp [intOf]; omega
        · have hne : (y == -1) = false := by simpa using hlt2
          have hdD : d < D := by
            apply Classical.byContradiction
            intro hn
            have : d = D := by omega
            have := hway.free p (by rw [← this]; exact HPD.out)
            rw [HY.out] at this
            omega
          clear hsl
          go_wp2
          go_round
          case rel => exact ⟨d + 1, by omega, by go_num, by go_num⟩
          case measure => simp [intOf]; omega
    · obtain rfl : k = l.length := by omega
      have hl1 := lin_len M l l.length
      go_wp2_with (refine load_arr rfl _ _ rfl _ rfl _ _ _ _ ht und_slot inf_slot (full_len (by rw [hl1]; exact hM)) ?_)
      go_wp2_with fail
      refine (list_any M _ _ hM hl1).mono ?_
      rintro e w3 ⟨v, rfl, ho, hb3, _⟩
      go_wp2
      try rw [Exit.noGoto_ret]
      go_ret2
      exact ⟨_, rfl, ho.mono hb.size, hb.trans (hb3.mono hb.size)⟩

theorem implLinearTable_no (m : Int) (a : Option Addr) (l : List Int) (cap : Nat) (w : World) (hr : Reads w a l) (hv : VH m l = false) :
    Calls Try.prog 23 #[.int .i64 m, .slice a l.length cap] w fun e w' => e = .returned (.tuple #[.slice none 0 0, .int .i64 (-1)]) ∧ w = w' := by
  go_enter Try.func23, Try.ntmps23
  go_wp2_with fail
  go_step3
  go_wp2_with fail
  refine (implValidHomes_any _ _ _ _ _ hr).mono ?_
  rintro e w' ⟨rfl, rfl⟩
  go_wp2
  try rw [Exit.noGoto_ret]
  go_ret2
  exact ⟨rfl, rfl⟩

theorem implLinearTable_any (m : Int) (a : Option Addr) (l : List Int) (cap : Nat) (w : World) (hm : In64 m) (hr : Reads w a l) (_hi : ∀ n ∈ l, In64 n) (hl : l.length ≤ 1048586) :
    Calls Try.prog 23 #[.int .i64 m, .slice a l.length cap] w fun e w' => ∃ v, e = .returned (.tuple #[v, .int .i64 (LT m l).2]) ∧ Own w' w.heap.size v (LT m l).1 ∧ Below w.heap.size w w' := by
  by_cases hv : VH m l = true
  · have hh := VH_iff.1 hv
    have hM := Homes.of_VH hh
    obtain ⟨M, rfl⟩ := Int.eq_ofNat_of_zero_le (show 0 ≤ m by omega)
    unfold LT
    rw [if_pos hv]
    exact implLinearTable_yes M a l cap w hr hM hv
  · refine (implLinearTable_no m a l cap w hr (by simpa using hv)).mono ?_
    rintro e w' ⟨rfl, rfl⟩
    unfold LT
    rw [if_neg hv]
    exact ⟨_, rfl, Own.nil _ _, Below.refl _ _⟩

end Go.Proofs.Ytapkalpmnldhpab
