/-
  spec.DrawBoundedOwners.
-/
import Derived.Test.YtbldfhfciihddaaD9
import Derived.Test.YtbldfhfciihddaaD4
import Derived.Deep.Cut
namespace Go.Proofs.Ytbldfhfciihddaa
open Go.RowKit

set_option maxHeartbeats 8000000 in
theorem drawBoundedOwners_any (a : Option Addr) (n cap : Nat) (w : World) (hB : Bytes w w.heap.size a n) (hn : n ≤ 9223372036854775807) (hc : n ≤ cap) :
    Calls Try.prog 45 #[.slice a n cap] w fun e w' => ∃ (v : Value) (l : List Int) (kv : Value) (ks : List Int) (load : Int), e = .returned (.tuple #[v, kv, .int .i64 load]) ∧ Own w' w.heap.size v l ∧ l.length ≤ 9 ∧ (∀ x ∈ l, -1 ≤ x ∧ x ≤ 64) ∧ Own w' w.heap.size kv ks ∧ ks.length ≤ 9 ∧ (∀ x ∈ ks, -1 ≤ x ∧ x ≤ 64) ∧ (0 ≤ load ∧ load ≤ 9) ∧ Below w.heap.size w w' := by
  go_enter Try.func45, Try.ntmps45
  go_wp2_with fail
  refine (newReader_any a n cap w hB hn hc).mono ?_
  rintro e w1 ⟨rfl, hR0, hb1, hs1⟩
  have hz1 := hb1.size
  clear hB hn hc
  go_wp2_with fail
  refine (someRing_any w.heap.size 0 _ hR0 (by omega)).mono ?_
  rintro e w2 ⟨v, l, q0, rfl, hoP, hlP, hsP, hR2, hqq, hgP⟩
  have zg := hR2.lt
  have zw2 := hgP.size
  obtain ⟨av, cv, rfl, _, _, _, _⟩ := hoP.form
  have hb1 := hb1.grown hgP hb1.size (fun k hk => by cases hk; omega)
  have hz2 := hb1.size
  have ho1 : Own (w2.alloc (.cells #[] 3)) w2.heap.size (.slice (some ⟨w2.heap.size, 0, none⟩) 0 0) [] := (Own.lit0 w2 w2.heap.size (Nat.le_refl _))
  have hR3 := hR2.below ((Below.refl w2.heap.size w2).alloc (Nat.le_refl _) (.cells #[] 3))
  have hg2 := World.grownBy_alloc w2 (.cells #[] 3) (some w.heap.size)
  obtain ⟨w0, e0⟩ : ∃ w0, w0 = w2.alloc (.cells #[] 3) := ⟨_, rfl⟩
  rw [← e0] at ho1 hR3 hg2
  have E0 := Lib.hid e0
  have z0 : w0.heap.size = w2.heap.size + 1 := by rw [e0]; simp
  have hone := one_litR w.heap.size q0 w0 [5, 6, 4, 8, 2, 0, 9] 7 hR3 (by omega) (by simp) (by simp) rfl
  rw [z0] at hone
  have HONE := Lib.hid hone
  have HSP := Lib.hid hsP
  clear e0 hR0 hR2 hone hR3 hgP hsP
  go_wp2_with fail
  rw [← E0.out]
  refine HONE.out.mono ?_
  rintro e w3 ⟨nn, rfl, hnn, hR4, hg3⟩
  have hnn2 : 0 ≤ nn ∧ nn ≤ 9 := by simp at hnn; omega
  have ho2 := ho1.kept hg3 (by simp [Value.ownBlock]; omega)
  have hg4 := grownBy_trans hg2 hg3
  clear hnn hg3 hg2 ho1 HONE
  go_wp2
  go_loopg [7] 10 (fun n v wr => ∃ (l : List Int) (q : Nat), l.length + n = 10 ∧ (l.length : Int) ≤ nn ∧ Own wr w2.heap.size v l ∧ (∀ x ∈ l, -1 ≤ x ∧ x ≤ 64) ∧ Rdr wr w.heap.size q ∧ q ≤ 200 + 5 * l.length ∧ w2.grownBy wr (some w.heap.size))
  case atStart => exact ⟨[], _, by simp, by simp; omega, ho2, by simp, hR4, by simp; omega, hg4⟩
  case round =>
    clear ho2 hR4 hg4 hqq
    obtain ⟨kl, q, hln, hlnn, ho, hsm, hR, hq, hg⟩ := hrel
    obtain ⟨a5, c5, rfl, hrd, hlc, hcm, hblk⟩ := ho.form
    have hz := hg.size
    have HLN := Lib.hid hln
    have HSM := Lib.hid hsm
    have HLNN := Lib.hid hlnn
    have hl9 : kl.length ≤ 9 := by omega
    clear hln hblk hcm hsm hlnn hrd
    by_cases hlt : (kl.length : Int) < nn
    · go_wp2_with fail
      refine (pick_any w.heap.size q _ _ hR (by omega) (by omega)).mono ?_
      rintro e wa ⟨x1, rfl, hx1, hRa, hga⟩
      have hx1' := hx1.1 (by omega)
      replace ho := ho.kept hga (ho.ne_g zg)
      replace hg := grownBy_trans hg hga
      clear hx1 hga hR
      go_wp2_with fail
      refine (pick_any w.heap.size (q + 1) _ _ hRa (by omega) (by omega)).mono ?_
      rintro e wb ⟨x2, rfl, hx2, hRb, hgb⟩
      have hx2' := hx2.1 (by omega)
      replace ho := ho.kept hgb (ho.ne_g zg)
      replace hg := grownBy_trans hg hgb
      clear hx2 hgb hRa
      go_wp2_with fail
      refine (one_litR w.heap.size (q + 2) wb [x1, x2] 2 hRb (by omega) (by simp) (by simp) rfl).mono ?_
      rintro e wc ⟨x, rfl, hx, hRc, hgc⟩
      have hx' : -1 ≤ x ∧ x ≤ 64 := by simp at hx; omega
      replace ho := ho.kept hgc (ho.ne_g zg)
      replace hg := grownBy_trans hg hgc
      have hza := hg.size
      clear hx hgc hRb
      go_wp2_with (at_builtin; refine push_int rfl (.tmp 21) (.tmp 29) rfl w2.heap.size _ kl x rfl ho rfl (by omega) hza ?_)
      intro v' we oe ne ge
      have hRe := hRc.kept ge (fun k hk => by have := (ho.lt k hk).1; omega)
      have hge := grownBy_own hg ho (Nat.le_refl _) ge
      have hsm2 : ∀ z ∈ kl ++ [x], -1 ≤ z ∧ z ≤ 64 := by
        intro z hz
        rcases List.mem_append.1 hz with h | h
        · exact HSM.out z h
        · simp only [List.mem_singleton] at h; subst h; exact hx'
      clear ge ho hg hRc
      go_wp2
      go_roundg (gk - 1)
      case measure => have := HLN.out; omega
      case rel => exact ⟨kl ++ [x], q + 2 + 1, by have := HLN.out; simp; omega, by simp; omega, oe, hsm2, hRe, by simp; omega, hge⟩
    · by_cases h0 : kl.length = 0
      · have g0 : ¬ (kl.length : Int) > 0 := by omega
        have zgE := hR.lt
        go_wp2_with fail
        refine (one_litR w.heap.size q _ [2, 3, 1, 4, 8, 0, 9] 7 hR (by omega) (by simp) (by simp) rfl).mono ?_
        rintro e wd4 ⟨y4, rfl, hy4, hR4, hg4⟩
        have hz4 : 0 ≤ y4 ∧ y4 ≤ 9 := by simp at hy4; omega
        clear hy4 hR4
        replace ho := (ho.kept hg4 (ho.ne_g zg)).mono hz2
        replace hg := grownBy_trans hg hg4
        have hbe := hb1.grown hg hb1.size (fun k hk => by cases hk; omega)
        have hoE := (hoP.kept hg (hoP.ne_g hs1)).mono hz1
        go_wp2
        go_ret3
        exact ⟨_, l, _, kl, y4, rfl, hoE, hlP, HSP.out, by rw [h0] at ho; exact ho, by omega, HSM.out, hz4, hbe⟩
      · have g0 : (kl.length : Int) > 0 := by omega
        go_wp2_with fail
        refine (pick_any w.heap.size q _ _ hR (by omega) (by omega)).mono ?_
        rintro e wa ⟨x1, rfl, hx1, hRa, hga⟩
        replace ho := ho.kept hga (ho.ne_g zg)
        replace hg := grownBy_trans hg hga
        have hza := hg.size
        have hga2 := hRa.lt
        clear hx1 hga hR
        by_cases hx0 : x1 = 0
        · have hd2 : (x1 == 0) = true := by simp [hx0]
          clear hx0
          obtain ⟨gl, c6, e6, T6⟩ := ho.tab h0
          obtain ⟨rfl, rfl⟩ : a5 = some ⟨gl, 0, none⟩ ∧ c5 = c6 := by cases e6; exact ⟨rfl, rfl⟩
          have h00 : 0 < kl.length := by omega
          obtain ⟨x0, hc0, _⟩ := T6.get h00
          have hf0 := T6.frozen 0
          have T8 := T6.store 0 64
          have gs := grownBy_setCell_any wa ⟨gl, 0, none⟩ (.int .i64 64)
          have hb7 := T6.block
          have hR := hRa.kept gs (fun k hk => by cases hk; show w.heap.size < gl; omega)
          have hg := grownBy_own hg ho (Nat.le_refl _) (show wa.grownBy _ (Value.slice (some ⟨gl, 0, none⟩) kl.length c5).ownBlock from gs)
          have ho := T8.own
          have hsm2 : ∀ x ∈ kl.set 0 64, -1 ≤ x ∧ x ≤ 64 := fun x hx => by
            rcases List.mem_or_eq_of_mem_set hx with h | h
            · exact HSM.out x h
            · subst h; omega
          clear gs T6 T8 hRa
          obtain ⟨ws, hws⟩ : ∃ ws, ws = wa.setCell ⟨gl, 0, none⟩ (.int .i64 64) := ⟨_, rfl⟩
          rw [← hws] at hR hg ho
          have HWS := Lib.hid hws
          clear hws
          go_upto_region 9 with fail
          rw [← HWS.out]
          clear hc0 hf0
          have zgE := hR.lt
          go_wp2_with fail
          refine (one_litR w.heap.size (q + 1) _ [2, 3, 1, 4, 8, 0, 9] 7 hR (by omega) (by simp) (by simp) rfl).mono ?_
          rintro e wd4 ⟨y4, rfl, hy4, hR4, hg4⟩
          have hz4 : 0 ≤ y4 ∧ y4 ≤ 9 := by simp at hy4; omega
          clear hy4 hR4
          replace ho := (ho.kept hg4 (ho.ne_g zg)).mono hz2
          replace hg := grownBy_trans hg hg4
          have hbe := hb1.grown hg hb1.size (fun k hk => by cases hk; omega)
          have hoE := (hoP.kept hg (hoP.ne_g hs1)).mono hz1
          go_wp2
          go_ret3
          exact ⟨_, l, _, kl.set 0 64, y4, rfl, hoE, hlP, HSP.out, ho, by simp; omega, hsm2, hz4, hbe⟩
        · have hd2 : (x1 == 0) = false := by simpa using hx0
          have hR := hRa
          clear hx0 hRa
          have zgE := hR.lt
          go_wp2_with fail
          refine (one_litR w.heap.size (q + 1) _ [2, 3, 1, 4, 8, 0, 9] 7 hR (by omega) (by simp) (by simp) rfl).mono ?_
          rintro e wd4 ⟨y4, rfl, hy4, hR4, hg4⟩
          have hz4 : 0 ≤ y4 ∧ y4 ≤ 9 := by simp at hy4; omega
          clear hy4 hR4
          replace ho := (ho.kept hg4 (ho.ne_g zg)).mono hz2
          replace hg := grownBy_trans hg hg4
          have hbe := hb1.grown hg hb1.size (fun k hk => by cases hk; omega)
          have hoE := (hoP.kept hg (hoP.ne_g hs1)).mono hz1
          go_wp2
          go_ret3
          exact ⟨_, l, _, kl, y4, rfl, hoE, hlP, HSP.out, ho, by omega, HSM.out, hz4, hbe⟩
end Go.Proofs.Ytbldfhfciihddaa
