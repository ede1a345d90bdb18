/-
  impl.stepsTo, impl.givesWay, impl.FairTable.
-/
import Derived.Test.YtapkalpmnldhpabS2
import Derived.Test.YtapkalpmnldhpabI0
namespace Go.Proofs.Ytapkalpmnldhpab
open Go.RowKit

set_option maxHeartbeats 400000 in
theorem stepsTo_any (m h p : Int) (hm : 1 ≤ m) (hm' : m ≤ 100000) (h0 : 0 ≤ h) (h1 : h < m) (p0 : 0 ≤ p) (p1 : p < m) (w : World) :
    Calls Try.prog 55 #[.int .i64 m, .int .i64 h, .int .i64 p] w fun e w' => e = .returned (.int .i64 (offI m h p)) ∧ w = w' := by
  have hne : (m == 0) = false := by simp; omega
  go_enter Try.func55, Try.ntmps55
  go_wp2
  go_ret
  exact ⟨rfl, rfl⟩

set_option maxHeartbeats 400000 in
theorem givesWay_any (M : Nat) (a : Option Addr) (l : List Int) (cap p o q : Nat) (w : World) (hr : Reads w a l) (h : Homes M l) (hp : p < M) (hol : o < l.length) (hql : q < l.length) :
    Calls Try.prog 50 #[.int .i64 M, .slice a l.length cap, .int .i64 p, .int .i64 o, .int .i64 q] w fun e w' => e = .returned (.bool (gives M l p o q)) ∧ w = w' := by
  have hM := h.le
  have hM1 := h.pos
  have hlen := h.len
  obtain ⟨b, off, x, rfl, hbb, hz1, hz2⟩ := hr.get hol
  clear hz1 hz2
  obtain ⟨hq, hcq1, hhq⟩ := hr.at_ hql
  obtain ⟨hoo, hco1, hho⟩ := hr.at_ hol
  have fq := h.fit q hql
  have fo := h.fit o hol
  rw [hhq.out] at fq
  rw [hho.out] at fo
  obtain ⟨A, hA⟩ : ∃ A, offI M hq p = A := ⟨_, rfl⟩
  obtain ⟨B, hB⟩ : ∃ B, offI M hoo p = B := ⟨_, rfl⟩
  have HA := Lib.hid hA
  have HB := Lib.hid hB
  clear hA hB
  go_enter Try.func50, Try.ntmps50
  go_wp2_with fail
  refine (stepsTo_any _ _ _ (by omega) (by omega) fo.1 fo.2 (by omega) (by omega) _).mono ?_
  rintro e w' ⟨rfl, rfl⟩
  rw [HB.out]
  go_wp2_with fail
  refine (stepsTo_any _ _ _ (by omega) (by omega) fq.1 fq.2 (by omega) (by omega) _).mono ?_
  rintro e w' ⟨rfl, rfl⟩
  rw [HA.out]
  by_cases hAB : B < A
  · go_wp2
    go_ret
    exact ⟨ret_bool (gives_lt (A := A) (B := B) (l := l) (k := q) (o := o) (m := M) (p := p) (by rw [hhq.out]; exact HA.out) (by rw [hho.out]; exact HB.out) hAB).symm, rfl⟩
  by_cases hEQ : A = B
  · by_cases hko : q < o
    · have HEQ := Lib.hid hEQ
      have hb1 : (B == A) = true := by simp [hEQ]
      clear hEQ
      go_wp2
      go_ret
      exact ⟨ret_bool (gives_eq (A := A) (B := B) (l := l) (k := q) (o := o) (m := M) (p := p) (by rw [hhq.out]; exact HA.out) (by rw [hho.out]; exact HB.out) HEQ.out hko).symm, rfl⟩
    · have HEQ := Lib.hid hEQ
      have hb1 : (B == A) = true := by simp [hEQ]
      have hb2 : decide ((q : Int) < o) = false := by simp; omega
      have hb3 : decide (B < A) = false := by simp; omega
      clear hEQ
      go_wp2
      go_ret
      exact ⟨ret_bool (gives_no (A := A) (B := B) (l := l) (k := q) (o := o) (m := M) (p := p) (by rw [hhq.out]; exact HA.out) (by rw [hho.out]; exact HB.out) (by omega) (fun hh => by have := hh.2; omega)).symm, rfl⟩
  · have hb1 : (B == A) = false := by simp; omega
    have hb3 : decide (B < A) = false := by simp; omega
    go_wp2
    go_ret
    exact ⟨ret_bool (gives_no (A := A) (B := B) (l := l) (k := q) (o := o) (m := M) (p := p) (by rw [hhq.out]; exact HA.out) (by rw [hho.out]; exact HB.out) (by omega) (fun hh => hEQ hh.1)).symm, rfl⟩

set_option maxHeartbeats 2000000 in
theorem implFairTable_yes (M : Nat) (a : Option Addr) (l : List Int) (cap : Nat) (w : World) (hr : Reads w a l) (h : Homes M l) (hv : VH M l = true) :
    Calls Try.prog 21 #[.int .i64 M, .slice a l.length cap] w fun e w' => ∃ v, e = .returned v ∧ Own w' w.heap.size v (rob M l l.length) ∧ Below w.heap.size w w' := by
  have hM := h.le
  have hM1 := h.pos
  have hlen := h.len
  go_enter Try.func21, Try.ntmps21
  go_wp2_with fail
  go_step3
  go_wp2_with fail
  refine (implValidHomes_any _ _ _ _ _ hr).mono ?_
  rintro e w' ⟨rfl, rfl⟩
  go_wp2_with fail
  refine (freeTable_any _).mono ?_
  rintro e w1 ⟨rfl, hb⟩
  have hs1 := hb.size
  have h0 : Arr (w1.alloc (.cells (arr (List.replicate 10 0)) 68)) 68 w1.heap.size (List.replicate 10 0) := Arr.new _ _ _
  rw [arr_zero10] at h0
  go_wp2_with (refine store_arr rfl _ _ _ rfl _ rfl _ _ rfl _ _ h0 inf_slot rfl rfl ?_)
  intro w2 h2 hg2
  have hb2 : Below w.heap.size w w2 := (hb.alloc hb.size _).grown hg2 (by simp; omega) (fun q hq => by cases hq; exact hb.size)
  rw [full_free M hM] at h2
  clear hg2 h0 hb
  go_wp2
  go_step3
  go_wp2
  obtain ⟨g, hg⟩ : ∃ g, g = w1.heap.size := ⟨_, rfl⟩
  rw [← hg] at h2 ⊢
  have hgw : w.heap.size ≤ g := by omega
  clear hg
  go_loopw [20] (fun i wr => ∃ k : Nat, k ≤ l.length ∧ i = .int .i64 k ∧ Arr wr 68 g (full (rob M l k)) ∧ Below w.heap.size w wr) (fun i _ => l.length - (intOf i).toNat)
  case atStart => exact ⟨0, Nat.zero_le _, rfl, h2, hb2⟩
  case round =>
    clear h2 hb2
    obtain ⟨k, hk, rfl, ht, hb⟩ := hrel
    by_cases hlt : k < l.length
    · obtain ⟨b, off, x, rfl, hbb, hcell, hx⟩ := hr.get hlt
      have hx2 : x = (home l k : Int) := by rw [h.home_cast hlt]; exact hx.out.symm
      have hhl := h.home_lt hlt
      clear hx
      subst hx2
      have hc1 : wr.cell? ⟨b, off + k, none⟩ = some (.int .i64 (home l k)) := (hb.cell (by exact hbb)).trans hcell
      obtain ⟨v1, v2, v3⟩ := rob_inv h k hk
      obtain ⟨D, hway⟩ := way v1 hhl (by rw [v3]; omega)
      have hDM := hway.lt
      have hinv := rob1_inv (l := l) h.pos v1 v2 hway
      have HINV := Lib.hid hinv
      clear hinv v1 v2 v3
      go_wp2_with fail
      refine (lookFrom_any _ _ _).mono ?_
      rintro e w3 ⟨rfl, hk1, hk2, hb3, hs3⟩
      have ht3 := ht.belowAll hb3
      have hb4 := hb.trans (hb3.mono hb.size)
      have hk1' : w3.cell? ⟨wr.heap.size, 0, none⟩ = some (.int .i64 (M : Int)) := hk1
      have hgc := ht.lt
      obtain ⟨c, hc⟩ : ∃ c, c = wr.heap.size := ⟨_, rfl⟩
      rw [← hc] at hk1' hk2 hgc hs3 ⊢
      clear ht hb hb3 hk1 hc1 hcell hc
      go_wp2
      go_loopw [9, 30] (fun key i wq => ∃ d : Nat, d ≤ D ∧ i = .int .i64 d ∧ key = .int .i64 (rob1 M l (home l k) (rob M l k) k d).2 ∧ Arr wq 68 g (full (rob1 M l (home l k) (rob M l k) k d).1) ∧ Below w.heap.size w wq ∧ wq.cell? ⟨c, 0, none⟩ = some (.int .i64 (M : Int)) ∧ wq.cell? ⟨c + 1, 0, none⟩ = some (.int .i64 (home l k : Int))) (fun _ i _ => M - (intOf i).toNat)
      case atStart => exact ⟨0, Nat.zero_le _, rfl, rfl, ht3, hb4, hk1', hk2⟩
      case round =>
        clear ht3 hb4 hk1' hk2 hs3
        obtain ⟨d, hdle, rfl, rfl, ht, hb, hk1, hk2⟩ := hrel
        obtain ⟨r1, r2, r3, r4⟩ := HINV.out d hdle
        obtain ⟨T, q, hs⟩ : ∃ T q, rob1 M l (home l k) (rob M l k) k d = (T, q) := ⟨_, _, rfl⟩
        have HS := Lib.hid hs
        rw [hs] at r1 r2 r3 r4 ht ⊢
        clear hs
        dsimp only at r1 r2 r3 r4 ht ⊢
        obtain ⟨p, hpd⟩ : ∃ p, p = (home l k + d) % M := ⟨_, rfl⟩
        have hp : p < M := by rw [hpd]; exact Nat.mod_lt _ (by omega)
        have HPD := Lib.hid hpd
        clear hpd
        have HR1 := Lib.hid r1
        obtain ⟨y, hcell2, hy⟩ := ht.get (k := p) (by rw [full_len (by omega)]; omega)
        have hy2 : T.getD p 0 = y := by rw [← hy.out, full_get (by omega)]
        have hr2 := r2 p (by omega)
        rw [hy2] at hr2
        have hyf := r4 p hp
        rw [hy2] at hyf
        have HY := Lib.hid hy2
        have HYF := Lib.hid hyf
        have hfz := ht.frozen p
        clear hyf hy2 hy r1 r2 r4
        go_wp2_with fail
        refine (lookFrom1_any M (home l k) d (by omega) (by omega) (by omega) (by omega) c (c + 1) _ hk1 hk2).mono ?_
        rintro e w' ⟨rfl, rfl⟩
        rw [← HPD.out]
        by_cases hlt2 : y = -1
        · have hdD : d = D := by
            apply Classical.byContradiction
            intro hne
            exact hway.full d p (by omega) HPD.out (HYF.out.1 (by omega))
          have HDD := Lib.hid hdD
          clear hdD hr2
          subst hlt2
          have hst := ht.store p q
          rw [full_set (by rw [HR1.out]; exact hp)] at hst
          have hbs := hb.setCell (p := ⟨g, p, none⟩) hgw (.int .i64 q)
          go_wp2
          go_roundw
          case rel =>
            refine ⟨k + 1, by omega, by go_num, ?_, hbs⟩
            rw [rob_succ hway (p := p) (by rw [← HDD.out]; exact HPD.out), ← HDD.out, HS.out]
            exact hst
          case measure => simp [intOf]; omega
        · have hne1 : (y == -1) = false := by simpa using hlt2
          have hdD : d < D := by
            apply Classical.byContradiction
            intro hne
            have : d = D := by omega
            have := HYF.out.2 (hway.free p (by rw [← this]; exact HPD.out))
            omega
          obtain ⟨o, rfl⟩ := Int.eq_ofNat_of_zero_le (show 0 ≤ y by omega)
          have hol : o < l.length := by omega
          have hql : q < l.length := by omega
          have hrr : Reads wr (some ⟨b, off, none⟩) l := hr.below hb
          clear hr2 hlt2
          go_wp2_with fail
          refine (givesWay_any M _ _ _ _ _ _ _ hrr h hp hol hql).mono ?_
          rintro e w' ⟨rfl, rfl⟩
          by_cases hgv : gives M l p o q = true
          · have hst := ht.store p q
            rw [full_set (by rw [HR1.out]; exact hp)] at hst
            have hbs := hb.setCell (p := ⟨g, p, none⟩) hgw (.int .i64 q)
            have hk1s : (wr.setCell ⟨g, p, none⟩ (.int .i64 q)).cell? ⟨c, 0, none⟩ = some (.int .i64 (M : Int)) := by
              rw [World.cell?_of_block (w := wr) (heap_setCell_other _ _ _ _ (by show c ≠ g; omega))]; exact hk1
            have hk2s : (wr.setCell ⟨g, p, none⟩ (.int .i64 q)).cell? ⟨c + 1, 0, none⟩ = some (.int .i64 (home l k : Int)) := by
              rw [World.cell?_of_block (w := wr) (heap_setCell_other _ _ _ _ (by show c + 1 ≠ g; omega))]; exact hk2
            go_wp2
            go_roundw
            case rel =>
              have e1 := rob1_succ_yes (l := l) (t := rob M l k) (k := k) HPD.out (o := o) (by rw [HS.out]; exact HY.out) (by rw [HS.out]; exact hgv)
              rw [HS.out] at e1
              exact ⟨d + 1, by omega, by go_num, by rw [e1], by rw [e1]; exact hst, hbs, hk1s, hk2s⟩
            case measure => simp [intOf]; omega
          · have hgv' : gives M l p o q = false := by simpa using hgv
            go_wp2
            go_roundw
            case rel =>
              have e1 := rob1_succ_no (l := l) (t := rob M l k) (k := k) HPD.out (o := o) (by rw [HS.out]; exact HY.out) (by rw [HS.out]; exact hgv')
              rw [HS.out] at e1
              exact ⟨d + 1, by omega, by go_num, by rw [e1], by rw [e1]; exact ht, hb, hk1, hk2⟩
            case measure => simp [intOf]; omega
    · obtain rfl : k = l.length := by omega
      have hl1 := (rob_inv h l.length (Nat.le_refl _)).1
      go_wp2_with (refine load_arr rfl _ _ rfl _ rfl _ _ _ _ ht und_slot inf_slot (full_len (by rw [hl1]; exact hM)) ?_)
      go_wp2_with fail
      refine (list_any M _ _ hM hl1).mono ?_
      rintro e w3 ⟨v, rfl, ho, hb3, _⟩
      go_wp2
      try rw [Exit.noGoto_ret]
      go_ret
      exact ⟨_, rfl, ho.mono hb.size, hb.trans (hb3.mono hb.size)⟩

theorem implFairTable_any (m : Int) (a : Option Addr) (l : List Int) (cap : Nat) (w : World) (hm : In64 m) (hr : Reads w a l) (_hi : ∀ n ∈ l, In64 n) (hl : l.length ≤ 1048586) :
    Calls Try.prog 21 #[.int .i64 m, .slice a l.length cap] w fun e w' => ∃ v, e = .returned v ∧ Own w' w.heap.size v (FT m l) ∧ Below w.heap.size w w' := by
  by_cases hv : VH m l = true
  · have hM := Homes.of_VH (VH_iff.1 hv)
    obtain ⟨M, rfl⟩ := Int.eq_ofNat_of_zero_le (show 0 ≤ m by have := (VH_iff.1 hv).1; omega)
    have hF : FT M l = rob M l l.length := by unfold FT; rw [if_pos hv]; rfl
    rw [hF]
    exact implFairTable_yes M a l cap w hr hM hv
  · have hv' : VH m l = false := by simpa using hv
    have hF : FT m l = [] := by unfold FT; rw [if_neg hv]
    rw [hF]
    clear hF hv
    go_enter Try.func21, Try.ntmps21
    go_wp2_with fail
    go_step3
    go_wp2_with fail
    refine (implValidHomes_any _ _ _ _ _ hr).mono ?_
    rintro e w' ⟨rfl, rfl⟩
    go_wp2
    try rw [Exit.noGoto_ret]
    go_ret
    exact ⟨_, rfl, Own.nil _ _, Below.refl _ _⟩

end Go.Proofs.Ytapkalpmnldhpab
