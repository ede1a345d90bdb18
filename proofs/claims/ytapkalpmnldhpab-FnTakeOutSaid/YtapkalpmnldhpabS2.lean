/-
  spec.off, spec.robin, spec.FairTable.
-/
import Derived.Test.YtapkalpmnldhpabM2
import Derived.Test.YtapkalpmnldhpabS1
namespace Go.Proofs.Ytapkalpmnldhpab
open Go.RowKit

set_option maxHeartbeats 400000 in
theorem off_any (m h p : Int) (hm : 1 ≤ m) (hm' : m ≤ 100000) (h0 : 0 ≤ h) (h1 : h < m) (p0 : 0 ≤ p) (p1 : p < m) (w : World) :
    Calls Try.prog 61 #[.int .i64 m, .int .i64 h, .int .i64 p] w fun e w' => e = .returned (.int .i64 (offI m h p)) ∧ w = w' := by
  have hne : (m == 0) = false := by simp; omega
  go_enter Try.func61, Try.ntmps61
  go_wp2
  go_ret
  exact ⟨rfl, rfl⟩

theorem offI_bd {m h p : Int} (hm : 1 ≤ m) : 0 ≤ offI m h p ∧ offI m h p < m :=
  ⟨Int.emod_nonneg _ (by omega), Int.emod_lt_of_pos _ (by omega)⟩

theorem gives_lt {m : Nat} {l : List Int} {p o k : Nat} {A B : Int} (hA : offI m (l.getD k 0) p = A) (hB : offI m (l.getD o 0) p = B) (h : B < A) : gives m l p o k = true := by
  unfold gives; rw [hA, hB]; simp [h]
theorem gives_eq {m : Nat} {l : List Int} {p o k : Nat} {A B : Int} (hA : offI m (l.getD k 0) p = A) (hB : offI m (l.getD o 0) p = B) (h : A = B) (hk : k < o) : gives m l p o k = true := by
  unfold gives; rw [hA, hB]; simp [h, hk]
theorem gives_no {m : Nat} {l : List Int} {p o k : Nat} {A B : Int} (hA : offI m (l.getD k 0) p = A) (hB : offI m (l.getD o 0) p = B) (h : ¬ B < A) (hk : ¬ (A = B ∧ k < o)) : gives m l p o k = false := by
  simp only [gives, hA, hB, Bool.or_eq_false_iff, decide_eq_false_iff_not, Bool.and_eq_false_iff]
  refine ⟨h, ?_⟩
  by_cases e : A = B
  · exact .inr (fun hh => hk ⟨e, hh⟩)
  · exact .inl e

theorem rob1_succ_yes {m : Nat} {l : List Int} {a : Nat} {t : List Int} {k d p o : Nat} (hp : p = (a + d) % m) (ho : (rob1 m l a t k d).1.getD p 0 = o) (hg : gives m l p o (rob1 m l a t k d).2 = true) :
    rob1 m l a t k (d + 1) = ((rob1 m l a t k d).1.set p (rob1 m l a t k d).2, o) := by
  subst hp
  rw [rob1, if_pos (by rw [ho, Int.toNat_natCast]; exact hg), ho, Int.toNat_natCast]
theorem rob1_succ_no {m : Nat} {l : List Int} {a : Nat} {t : List Int} {k d p o : Nat} (hp : p = (a + d) % m) (ho : (rob1 m l a t k d).1.getD p 0 = o) (hg : gives m l p o (rob1 m l a t k d).2 = false) :
    rob1 m l a t k (d + 1) = rob1 m l a t k d := by
  subst hp
  rw [rob1, if_neg (by rw [ho, Int.toNat_natCast, hg]; decide)]
theorem rob_succ {m : Nat} {l : List Int} {k D p : Nat} (hw : Way (rob m l k) m (home l k) D) (hp : p = (home l k + D) % m) :
    rob m l (k + 1) = (rob1 m l (home l k) (rob m l k) k D).1.set p (rob1 m l (home l k) (rob m l k) k D).2 := by
  simp only [rob, hw.is, ← hp]

set_option maxHeartbeats 2000000 in
theorem robin_any (M : Nat) (a : Option Addr) (l : List Int) (cap : Nat) (w : World) (hr : Reads w a l) (h : Homes M l) :
    Calls Try.prog 53 #[.int .i64 M, .slice a l.length cap] w fun e w' => ∃ v, e = .returned v ∧ Own w' w.heap.size v (rob M l l.length) ∧ Below w.heap.size w w' := by
  have hM := h.le
  have hM1 := h.pos
  have hlen := h.len
  go_enter Try.func53, Try.ntmps53
  go_wp2_with fail
  refine (empty_any M (by omega) _).mono ?_
  rintro e w1 ⟨v, rfl, ho, hb⟩
  obtain ⟨g, cap', rfl, ht⟩ := ho.tab (by simp; omega)
  rw [List.length_replicate] at ht ⊢
  clear ho
  go_wp2
  go_loopw [6] (fun i wr => ∃ k : Nat, k ≤ l.length ∧ i = .int .i64 k ∧ Tab wr w.heap.size g M cap' (rob M l k) ∧ Below w.heap.size w wr) (fun i _ => l.length - (intOf i).toNat)
  case atStart => exact ⟨0, Nat.zero_le _, rfl, ht, hb⟩
  case round =>
    clear ht hb
    obtain ⟨k, hk, rfl, ht, hb⟩ := hrel
    by_cases hlt : k < l.length
    · obtain ⟨b, off, x, rfl, hbb, hcell, hx⟩ := hr.get hlt
      have hx2 : x = (home l k : Int) := by rw [h.home_cast hlt]; exact hx.out.symm
      have hhl := h.home_lt hlt
      clear hx
      subst hx2
      have hc1 : wr.cell? ⟨b, off + k, none⟩ = some (.int .i64 (home l k)) := (hb.cell (by exact hbb)).trans hcell
      obtain ⟨v1, v2, v3⟩ := rob_inv h k hk
      obtain ⟨D, hway⟩ := way v1 hhl (by rw [v3]; omega)
      have hDM := hway.lt
      have hinv := rob1_inv (l := l) h.pos v1 v2 hway
      have HINV := Lib.hid hinv
      clear hinv v1 v2 v3
      go_wp2
      go_loopg [7, 8] D (fun n key at_ wq => ∃ d p : Nat, d + n = D ∧ p < M ∧ at_ = .int .i64 p ∧ key = .int .i64 (rob1 M l (home l k) (rob M l k) k d).2 ∧ Hid (p = (home l k + d) % M) ∧ Tab wq w.heap.size g M cap' (rob1 M l (home l k) (rob M l k) k d).1 ∧ Below w.heap.size w wq)
      case atStart => exact ⟨0, home l k, by omega, hhl, rfl, rfl, (Nat.mod_eq_of_lt hhl).symm, ht, hb⟩
      case round =>
        clear ht hb hc1 hcell
        obtain ⟨d, p, hd, hp, rfl, rfl, hpd, ht, hb⟩ := hrel
        have HD := Lib.hid hd
        have hdle : d ≤ D := by omega
        clear hd
        obtain ⟨r1, r2, r3, r4⟩ := HINV.out d hdle
        obtain ⟨T, q, hs⟩ : ∃ T q, rob1 M l (home l k) (rob M l k) k d = (T, q) := ⟨_, _, rfl⟩
        have HS := Lib.hid hs
        rw [hs] at r1 r2 r3 r4 ht ⊢
        clear hs
        dsimp only at r1 r2 r3 r4 ht ⊢
        obtain ⟨y, hcell2, hy⟩ := ht.get hp
        have hr2 := r2 p (by rw [r1]; exact hp)
        rw [hy.out] at hr2
        have hyf := r4 p hp
        rw [hy.out] at hyf
        have HYF := Lib.hid hyf
        have hfz := ht.frozen p
        clear hyf r1 r2 r4
        by_cases hlt2 : y < 0
        · have hdD : d = D := by
            apply Classical.byContradiction
            intro hne
            exact hway.full d p (by omega) hpd.out (HYF.out.1 hlt2)
          have HDD := Lib.hid hdD
          clear hdD
          have hst := ht.store p q
          have hbs := hb.setCell (p := ⟨g, p, none⟩) (ht.block.1) (.int .i64 q)
          go_wp2
          go_roundw
          case rel =>
            refine ⟨k + 1, by omega, by go_num, ?_, hbs⟩
            rw [rob_succ hway (p := p) (by rw [← HDD.out]; exact hpd.out), ← HDD.out, HS.out]
            exact hst
          case measure => simp [intOf]; omega
        · have hdD : d < D := by
            apply Classical.byContradiction
            intro hne
            have : d = D := by omega
            exact hlt2 (HYF.out.2 (hway.free p (by rw [← this]; exact hpd.out)))
          obtain ⟨o, rfl⟩ := Int.eq_ofNat_of_zero_le (show 0 ≤ y by omega)
          have hol : o < l.length := by omega
          have hql : q < l.length := by omega
          obtain ⟨hq, hcq, hhq⟩ := hr.at_ hql
          obtain ⟨hoo, hco, hho⟩ := hr.at_ hol
          have hcq1 : wr.cell? ⟨b, off + q, none⟩ = some (.int .i64 hq) := (hb.cell (by exact hbb)).trans hcq
          have hco1 : wr.cell? ⟨b, off + o, none⟩ = some (.int .i64 hoo) := (hb.cell (by exact hbb)).trans hco
          have fq := h.fit q hql
          have fo := h.fit o hol
          rw [hhq.out] at fq
          rw [hho.out] at fo
          clear hcq hco hr2
          obtain ⟨A, hA⟩ : ∃ A, offI M hq p = A := ⟨_, rfl⟩
          obtain ⟨B, hB⟩ : ∃ B, offI M hoo p = B := ⟨_, rfl⟩
          have HA := Lib.hid hA
          have HB := Lib.hid hB
          clear hA hB
          go_wp2_with fail
          refine (off_any _ _ _ (by omega) (by omega) fq.1 fq.2 (by omega) (by omega) _).mono ?_
          rintro e w' ⟨rfl, rfl⟩
          rw [HA.out]
          go_wp2_with fail
          refine (off_any _ _ _ (by omega) (by omega) fo.1 fo.2 (by omega) (by omega) _).mono ?_
          rintro e w' ⟨rfl, rfl⟩
          rw [HB.out]
          have nxt : (home l k + (d + 1)) % M = (p + 1) % M := by rw [hpd.out]; exact (step_mod _ _ _).symm
          have NXT := Lib.hid nxt
          clear nxt
          by_cases hAB : B < A
          · have hst := ht.store p q
            have hbs := hb.setCell (p := ⟨g, p, none⟩) (ht.block.1) (.int .i64 q)
            go_wp2
            go_roundg (gk - 1)
            case measure => have := HD.out; omega
            case rel =>
              have hg := gives_lt (A := A) (B := B) (l := l) (k := q) (o := o) (m := M) (p := p) (by rw [hhq.out]; exact HA.out) (by rw [hho.out]; exact HB.out) hAB
              have e1 := rob1_succ_yes (l := l) (t := rob M l k) (k := k) hpd.out (o := o) (by rw [HS.out]; exact hy.out) (by rw [HS.out]; exact hg)
              rw [HS.out] at e1
              refine ⟨d + 1, (p + 1) % M, by have := HD.out; omega, Nat.mod_lt _ (by omega), by rw [cast_step], by rw [e1], NXT.out.symm, by rw [e1]; exact hst, hbs⟩
          by_cases hEQ : A = B
          · by_cases hko : q < o
            · have hst := ht.store p q
              have hbs := hb.setCell (p := ⟨g, p, none⟩) (ht.block.1) (.int .i64 q)
              have HEQ := Lib.hid hEQ
              have hb1 : (A == B) = true := by simp [hEQ]
              clear hEQ
              go_wp2
              go_roundg (gk - 1)
              case measure => have := HD.out; omega
              case rel =>
                have hg := gives_eq (A := A) (B := B) (l := l) (k := q) (o := o) (m := M) (p := p) (by rw [hhq.out]; exact HA.out) (by rw [hho.out]; exact HB.out) HEQ.out hko
                have e1 := rob1_succ_yes (l := l) (t := rob M l k) (k := k) hpd.out (o := o) (by rw [HS.out]; exact hy.out) (by rw [HS.out]; exact hg)
                rw [HS.out] at e1
                refine ⟨d + 1, (p + 1) % M, by have := HD.out; omega, Nat.mod_lt _ (by omega), by rw [cast_step], by rw [e1], NXT.out.symm, by rw [e1]; exact hst, hbs⟩
            · have HEQ := Lib.hid hEQ
              have hb1 : (A == B) = true := by simp [hEQ]
              clear hEQ
              go_wp2
              go_roundg (gk - 1)
              case measure => have := HD.out; omega
              case rel =>
                have hg := gives_no (A := A) (B := B) (l := l) (k := q) (o := o) (m := M) (p := p) (by rw [hhq.out]; exact HA.out) (by rw [hho.out]; exact HB.out) (by omega) (fun hh => by have := hh.2; omega)
                have e1 := rob1_succ_no (l := l) (t := rob M l k) (k := k) hpd.out (o := o) (by rw [HS.out]; exact hy.out) (by rw [HS.out]; exact hg)
                rw [HS.out] at e1
                refine ⟨d + 1, (p + 1) % M, by have := HD.out; omega, Nat.mod_lt _ (by omega), by rw [cast_step], by rw [e1], NXT.out.symm, by rw [e1]; exact ht, hb⟩
          · have hb1 : (A == B) = false := by simpa using hEQ
            go_wp2
            go_roundg (gk - 1)
            case measure => have := HD.out; omega
            case rel =>
              have hg := gives_no (A := A) (B := B) (l := l) (k := q) (o := o) (m := M) (p := p) (by rw [hhq.out]; exact HA.out) (by rw [hho.out]; exact HB.out) (by omega) (fun hh => hEQ hh.1)
              have e1 := rob1_succ_no (l := l) (t := rob M l k) (k := k) hpd.out (o := o) (by rw [HS.out]; exact hy.out) (by rw [HS.out]; exact hg)
              rw [HS.out] at e1
              refine ⟨d + 1, (p + 1) % M, by have := HD.out; omega, Nat.mod_lt _ (by omega), by rw [cast_step], by rw [e1], NXT.out.symm, by rw [e1]; exact ht, hb⟩
    · obtain rfl : k = l.length := by omega
      go_wp2
      go_ret
      exact ⟨_, rfl, ht.own, hb⟩

theorem specFairTable_any (m : Int) (a : Option Addr) (l : List Int) (cap : Nat) (w : World) (hm : In64 m) (hr : Reads w a l) (_hi : ∀ n ∈ l, In64 n) (hl : l.length ≤ 1048586) :
    Calls Try.prog 22 #[.int .i64 m, .slice a l.length cap] w fun e w' => ∃ v, e = .returned v ∧ Own w' w.heap.size v (FT m l) ∧ Below w.heap.size w w' := by
  by_cases hv : VH m l = true
  · have hM := Homes.of_VH (VH_iff.1 hv)
    obtain ⟨M, rfl⟩ := Int.eq_ofNat_of_zero_le (show 0 ≤ m by have := (VH_iff.1 hv).1; omega)
    have hF : FT M l = rob M l l.length := by unfold FT; rw [if_pos hv]; rfl
    rw [hF]
    clear hF
    go_enter Try.func22, Try.ntmps22
    go_wp2_with fail
    refine (specvalidHomes_any _ _ _ _ _ hr hm hl).mono ?_
    rintro e w' ⟨rfl, rfl⟩
    go_wp2_with fail
    refine (robin_any M _ _ _ _ hr hM).mono ?_
    rintro e w' ⟨v, rfl, ho, hb⟩
    go_wp2
    go_ret
    exact ⟨_, rfl, ho, hb⟩
  · have hv' : VH m l = false := by simpa using hv
    have hF : FT m l = [] := by unfold FT; rw [if_neg hv]
    rw [hF]
    clear hF hv
    go_enter Try.func22, Try.ntmps22
    go_wp2_with fail
    refine (specvalidHomes_any _ _ _ _ _ hr hm hl).mono ?_
    rintro e w' ⟨rfl, rfl⟩
    go_wp2
    go_ret
    exact ⟨_, rfl, Own.nil _ _, Below.refl _ _⟩
end Go.Proofs.Ytapkalpmnldhpab
