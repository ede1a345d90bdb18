/-
  spec.countedKeys, spec.DrawCountKeys.
-/
import Derived.Test.YtjkcahmbocjacaaD9
import Derived.Test.YtjkcahmbocjacaaD4
import Derived.Deep.Cut
namespace Go.Proofs.Ytjkcahmbocjacaa
open Go.RowKit

set_option maxHeartbeats 8000000 in
theorem countedKeys_any (g p : Nat) (w : World) (hR : Rdr w g p) (hp : p ≤ 900000) :
    Calls Try.prog 77 #[.pointer (some ⟨g, 0, none⟩)] w fun e w' => ∃ (v : Value) (l : List Int) (q : Nat), e = .returned v ∧ Own w' w.heap.size v l ∧ l.length ≤ 9 ∧ (∀ x ∈ l, 0 ≤ x ∧ x ≤ 31) ∧ Rdr w' g q ∧ q ≤ p + 100 ∧ w.grownBy w' (some g) := by
  have zg := hR.lt
  go_enter Try.func77, Try.ntmps77
  have ho1 : Own (w.alloc (.cells #[] 3)) w.heap.size (.slice (some ⟨w.heap.size, 0, none⟩) 0 0) [] := (Own.lit0 w w.heap.size (Nat.le_refl _))
  have hR2 := hR.below ((Below.refl w.heap.size w).alloc (Nat.le_refl _) (.cells #[] 3))
  have hg2 := World.grownBy_alloc w (.cells #[] 3) (some g)
  obtain ⟨w0, e0⟩ : ∃ w0, w0 = w.alloc (.cells #[] 3) := ⟨_, rfl⟩
  rw [← e0] at ho1 hR2 hg2
  have E0 := Lib.hid e0
  have z0 : w0.heap.size = w.heap.size + 1 := by rw [e0]; simp
  have hone := one_litR g p w0 [4, 5, 3, 8, 2, 0, 9] 7 hR2 (by omega) (by simp) (by simp) rfl
  rw [z0] at hone
  have HONE := Lib.hid hone
  clear e0 hR hR2 hone
  go_wp2_with fail
  rw [← E0.out]
  refine HONE.out.mono ?_
  rintro e w2 ⟨nn, rfl, hnn, hR3, hg3⟩
  have hnn2 : 0 ≤ nn ∧ nn ≤ 9 := by simp at hnn; omega
  have ho2 := ho1.kept hg3 (by simp [Value.ownBlock]; omega)
  have hg4 := grownBy_trans hg2 hg3
  clear hnn hg3 hg2 ho1 HONE
  go_wp2
  go_loopg [3] 10 (fun n v wr => ∃ (l : List Int) (q : Nat), l.length + n = 10 ∧ (l.length : Int) ≤ nn ∧ Own wr w.heap.size v l ∧ (∀ x ∈ l, 0 ≤ x ∧ x ≤ 31) ∧ Rdr wr g q ∧ q ≤ p + 10 + 5 * l.length ∧ w.grownBy wr (some g))
  case atStart => exact ⟨[], p + 1, by simp, by simp; omega, ho2, by simp, hR3, by simp, hg4⟩
  case round =>
    clear ho2 hR3 hg4
    obtain ⟨kl, q, hln, hlnn, ho, hsm, hR, hq, hg⟩ := hrel
    obtain ⟨a5, c5, rfl, hrd, hlc, hcm, hblk⟩ := ho.form
    have hz := hg.size
    have HLN := Lib.hid hln
    have HSM := Lib.hid hsm
    have HLNN := Lib.hid hlnn
    have hl9 : kl.length ≤ 9 := by omega
    clear hln hblk hcm hsm hlnn hrd
    by_cases hlt : (kl.length : Int) < nn
    · go_wp2_with fail
      refine (pick_any g q _ _ hR (by omega) (by omega)).mono ?_
      rintro e wa ⟨x1, rfl, hx1, hRa, hga⟩
      have hx1' := hx1.1 (by omega)
      replace ho := ho.kept hga (ho.ne_g zg)
      replace hg := grownBy_trans hg hga
      clear hx1 hga hR
      go_wp2_with fail
      refine (pick_any g (q + 1) _ _ hRa (by omega) (by omega)).mono ?_
      rintro e wb ⟨x2, rfl, hx2, hRb, hgb⟩
      have hx2' := hx2.1 (by omega)
      replace ho := ho.kept hgb (ho.ne_g zg)
      replace hg := grownBy_trans hg hgb
      clear hx2 hgb hRa
      go_wp2_with fail
      refine (one_litR g (q + 2) wb [x1, x2] 2 hRb (by omega) (by simp) (by simp) rfl).mono ?_
      rintro e wc ⟨x, rfl, hx, hRc, hgc⟩
      have hx' : 0 ≤ x ∧ x ≤ 31 := by simp at hx; omega
      replace ho := ho.kept hgc (ho.ne_g zg)
      replace hg := grownBy_trans hg hgc
      have hza := hg.size
      clear hx hgc hRb
      go_wp2_with (at_builtin; refine push_int rfl (.tmp 13) (.tmp 21) rfl w.heap.size _ kl x rfl ho rfl (by omega) hza ?_)
      intro v' we oe ne ge
      have hRe := hRc.kept ge (fun k hk => by have := (ho.lt k hk).1; omega)
      have hge := grownBy_own hg ho (Nat.le_refl _) ge
      have hsm2 : ∀ z ∈ kl ++ [x], 0 ≤ z ∧ z ≤ 31 := by
        intro z hz
        rcases List.mem_append.1 hz with h | h
        · exact HSM.out z h
        · simp only [List.mem_singleton] at h; subst h; exact hx'
      clear ge ho hg hRc
      go_wp2
      go_roundg (gk - 1)
      case measure => have := HLN.out; omega
      case rel => exact ⟨kl ++ [x], q + 2 + 1, by have := HLN.out; simp; omega, by simp; omega, oe, hsm2, hRe, by simp; omega, hge⟩
    · by_cases h0 : kl.length = 0
      · have g0 : ¬ (kl.length : Int) > 0 := by omega
        go_wp2
        go_ret
        rw [h0] at ho
        first
          | exact ⟨_, kl, q, rfl, ho, by omega, HSM.out, hR, by omega, hg⟩
          | exact ⟨_, rfl, kl, ho, by omega, HSM.out, q, hR, by omega, hg⟩
          | exact ⟨_, rfl, kl, q, ho, by omega, HSM.out, hR, by omega, hg⟩
      · have g0 : (kl.length : Int) > 0 := by omega
        go_wp2_with fail
        refine (pick_any g q _ _ hR (by omega) (by omega)).mono ?_
        rintro e wa ⟨x1, rfl, hx1, hRa, hga⟩
        replace ho := ho.kept hga (ho.ne_g zg)
        replace hg := grownBy_trans hg hga
        have hza := hg.size
        have hga2 := hRa.lt
        clear hx1 hga hR
        by_cases hx0 : x1 = 0
        · have hd2 : (x1 == 0) = true := by simp [hx0]
          clear hx0
          obtain ⟨gl, c6, e6, T6⟩ := ho.tab h0
          obtain ⟨rfl, rfl⟩ : a5 = some ⟨gl, 0, none⟩ ∧ c5 = c6 := by cases e6; exact ⟨rfl, rfl⟩
          have h00 : 0 < kl.length := by omega
          obtain ⟨x0, hc0, _⟩ := T6.get h00
          have hf0 := T6.frozen 0
          have T8 := T6.store 0 31
          have gs := grownBy_setCell_any wa ⟨gl, 0, none⟩ (.int .i64 31)
          have hb7 := T6.block
          have hR := hRa.kept gs (fun k hk => by cases hk; show g < gl; omega)
          have hg := grownBy_own hg ho (Nat.le_refl _) (show wa.grownBy _ (Value.slice (some ⟨gl, 0, none⟩) kl.length c5).ownBlock from gs)
          have ho := T8.own
          have hsm2 : ∀ x ∈ kl.set 0 31, 0 ≤ x ∧ x ≤ 31 := fun x hx => by
            rcases List.mem_or_eq_of_mem_set hx with h | h
            · exact HSM.out x h
            · subst h; omega
          rw [show (Value.slice (some ⟨gl, 0, none⟩) kl.length c5) = Value.slice (some ⟨gl, 0, none⟩) kl.length c5 from rfl] at ho
          clear gs T6 T8 hRa
          go_wp2
          go_ret
          exact ⟨_, kl.set 0 31, _, rfl, ho, by simp; omega, hsm2, hR, by omega, hg⟩
        · have hd2 : (x1 == 0) = false := by simpa using hx0
          clear hx0
          go_wp2
          go_ret
          exact ⟨_, kl, _, rfl, ho, by omega, HSM.out, hRa, by omega, hg⟩
set_option maxHeartbeats 4000000 in
theorem drawCountKeys_any (a : Option Addr) (n cap : Nat) (w : World) (hB : Bytes w w.heap.size a n) (hn : n ≤ 9223372036854775807) (hc : n ≤ cap) :
    Calls Try.prog 38 #[.slice a n cap] w fun e w' => ∃ (ways bits : Int) (v : Value) (l : List Int), e = .returned (.tuple #[.int .i64 ways, .int .i64 bits, v]) ∧ (0 ≤ ways ∧ ways ≤ 5) ∧ (0 ≤ bits ∧ bits ≤ 17) ∧ Own w' w.heap.size v l ∧ l.length ≤ 9 ∧ (∀ x ∈ l, 0 ≤ x ∧ x ≤ 31) ∧ Below w.heap.size w w' := by
  go_enter Try.func38, Try.ntmps38
  go_wp2_with fail
  refine (newReader_any a n cap w hB hn hc).mono ?_
  rintro e w1 ⟨rfl, R1, B1, s1⟩
  clear hB hn hc
  go_wp2_with fail
  refine (one_litR w.heap.size 0 w1 [2, 3, 1, 4, 0, 5] 6 R1 (by omega) (by simp) (by simp) rfl).mono ?_
  rintro e w2 ⟨ways, rfl, hw, R2, g2⟩
  have hw2 : 0 ≤ ways ∧ ways ≤ 5 := by simp at hw; omega
  have B2 := B1.grown g2 B1.size (fun k hk => by cases hk; exact Nat.le_refl _)
  clear hw g2 R1
  go_wp2_with fail
  refine (one_litR w.heap.size 1 w2 [5, 8, 3, 16, 1, 0, 17] 7 R2 (by omega) (by simp) (by simp) rfl).mono ?_
  rintro e w3 ⟨bits, rfl, hb, R3, g3⟩
  have hb2 : 0 ≤ bits ∧ bits ≤ 17 := by simp at hb; omega
  have B3 := B2.grown g3 B2.size (fun k hk => by cases hk; exact Nat.le_refl _)
  clear hb g3 R2
  go_wp2_with fail
  refine (countedKeys_any w.heap.size 2 w3 R3 (by omega)).mono ?_
  rintro e w4 ⟨v, l, q, rfl, ho, hl, hs, R4, _, g4⟩
  have B4 := B3.grown g4 B3.size (fun k hk => by cases hk; exact Nat.le_refl _)
  have z3 := B3.size
  go_wp2
  go_ret3
  exact ⟨ways, bits, v, l, rfl, hw2, hb2, ho.mono z3, hl, hs, B4⟩
end Go.Proofs.Ytjkcahmbocjacaa
