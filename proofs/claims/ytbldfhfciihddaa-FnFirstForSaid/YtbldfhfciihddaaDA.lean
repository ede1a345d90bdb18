/-
  spec.DrawFirstFor.
-/
import Derived.Test.YtbldfhfciihddaaD9
import Derived.Test.YtbldfhfciihddaaD4
namespace Go.Proofs.Ytbldfhfciihddaa
open Go.RowKit

set_option maxHeartbeats 8000000 in
theorem drawFirstFor_any (a : Option Addr) (n cap : Nat) (w : World) (hB : Bytes w w.heap.size a n) (hn : n ≤ 9223372036854775807) (hc : n ≤ cap) :
    Calls Try.prog 36 #[.slice a n cap] w fun e w' => ∃ (v : Value) (l : List Int) (k : Int), e = .returned (.tuple #[v, .int .i64 k]) ∧ Own w' w.heap.size v l ∧ l.length ≤ 6 ∧ (∀ x ∈ l, -1 ≤ x ∧ x ≤ 64) ∧ (-1 ≤ k ∧ k ≤ 64) ∧ Below w.heap.size w w' := by
  go_enter Try.func36, Try.ntmps36
  go_wp2_with fail
  refine (newReader_any a n cap w hB hn hc).mono ?_
  rintro e w1 ⟨rfl, hR0, hb1, hs1⟩
  have hz1 := hb1.size
  have zg := hR0.lt
  clear hB hn hc
  have ho1 : Own (w1.alloc (.cells #[] 3)) w1.heap.size (.slice (some ⟨w1.heap.size, 0, none⟩) 0 0) [] := (Own.lit0 w1 w1.heap.size (Nat.le_refl _))
  have hR2 := hR0.below ((Below.refl w1.heap.size w1).alloc (Nat.le_refl _) (.cells #[] 3))
  have hg2 := World.grownBy_alloc w1 (.cells #[] 3) (some w.heap.size)
  obtain ⟨w0, e0⟩ : ∃ w0, w0 = w1.alloc (.cells #[] 3) := ⟨_, rfl⟩
  rw [← e0] at ho1 hR2 hg2
  have E0 := Lib.hid e0
  have z0 : w0.heap.size = w1.heap.size + 1 := by rw [e0]; simp
  have hone := one_litR w.heap.size 0 w0 [3, 4, 2, 5, 1, 6, 0] 7 hR2 (by omega) (by simp) (by simp) rfl
  rw [z0] at hone
  have HONE := Lib.hid hone
  clear e0 hR0 hR2 hone
  go_wp2_with fail
  rw [← E0.out]
  refine HONE.out.mono ?_
  rintro e w2 ⟨nn, rfl, hnn, hR3, hg3⟩
  have hnn2 : 0 ≤ nn ∧ nn ≤ 6 := by simp at hnn; omega
  have ho2 := ho1.kept hg3 (by simp [Value.ownBlock]; omega)
  have hg4 := grownBy_trans hg2 hg3
  clear hnn hg3 hg2 ho1 HONE
  go_wp2
  go_loopg [5, 6] 7 (fun n v av wr => ∃ (l : List Int) (q : Nat) (t : Int), l.length + n = 7 ∧ (l.length : Int) ≤ nn ∧ av = .int .i64 t ∧ (-1 ≤ t ∧ t + 1 ≤ 6 * (l.length : Int)) ∧ Own wr w1.heap.size v l ∧ (∀ x ∈ l, -1 ≤ x ∧ x ≤ 64) ∧ Rdr wr w.heap.size q ∧ q ≤ 1 + l.length ∧ w1.grownBy wr (some w.heap.size))
  case atStart => exact ⟨[], 1, -1, by simp, by simp; omega, rfl, by simp, ho2, by simp, hR3, by simp, hg4⟩
  case round =>
    clear ho2 hR3 hg4
    obtain ⟨l, q, t, hln, hlnn, rfl, ht, ho, hsm, hR, hq, hg⟩ := hrel
    obtain ⟨a5, c5, rfl, hrd, hlc, hcm, hblk⟩ := ho.form
    have hz := hg.size
    have HLN := Lib.hid hln
    have hl7 : l.length ≤ 6 := by omega
    have HSM := Lib.hid hsm
    have HLNN := Lib.hid hlnn
    clear hln hblk hcm hsm hlnn
    by_cases hlt : (l.length : Int) < nn
    · have ew1 : IntKind.i64.wrap (t + 1) = t + 1 := IntWalk.i64_in _ (by omega)
      go_wp2_with fail
      refine (pick_any w.heap.size q _ _ hR (by omega) (by omega)).mono ?_
      rintro e wa ⟨x1, rfl, hx1, hRa, hga⟩
      have hx1' := hx1.1 (by omega)
      replace ho := ho.kept hga (ho.ne_g zg)
      replace hg := grownBy_trans hg hga
      have hza := hg.size
      have ew2 : IntKind.i64.wrap (t + 1 + x1) = t + 1 + x1 := IntWalk.i64_in _ (by omega)
      have hXs : -1 ≤ t + 1 + x1 ∧ t + 1 + x1 ≤ 64 := by omega
      clear hx1 hga hR hrd
      go_wp2_with (at_builtin; refine push_int rfl (.tmp 23) (.tmp 25) rfl w1.heap.size _ l (t + 1 + x1) rfl ho rfl (by omega) hza ?_)
      intro v' we oe ne ge
      have hRe := hRa.kept ge (fun k hk => by have := (ho.lt k hk).1; omega)
      have hge := grownBy_own hg ho (Nat.le_refl _) ge
      have hsm2 : ∀ x ∈ l ++ [t + 1 + x1], -1 ≤ x ∧ x ≤ 64 := by
        intro x hx
        rcases List.mem_append.1 hx with h | h
        · exact HSM.out x h
        · simp only [List.mem_singleton] at h; subst h; exact hXs
      clear ge ho hg hRa
      go_wp2
      go_roundg (gk - 1)
      case measure => have := HLN.out; omega
      case rel => exact ⟨l ++ [t + 1 + x1], q + 1, t + 1 + x1, by have := HLN.out; simp; omega, by simp; omega, rfl, by simp; omega, oe, hsm2, hRe, by simp; omega, hge⟩
    · by_cases h0 : l.length = 0
      · have g0 : ¬ (l.length : Int) > 0 := by omega
        clear hrd
        go_wp2_with fail
        refine (pick_any w.heap.size q _ _ hR (by omega) (by omega)).mono ?_
        rintro e wd2 ⟨y2, rfl, hy2, hR2, hg2⟩
        have hz2 := hy2.1 (by omega)
        clear hy2 hR
        replace ho := ho.kept hg2 (ho.ne_g zg)
        replace hg := grownBy_trans hg hg2
        have zg2 := hR2.lt
        go_wp2_with fail
        refine (pick_any w.heap.size (q + 1) _ _ hR2 (by omega) (by omega)).mono ?_
        rintro e wd3 ⟨y3, rfl, hy3, hR3, hg3⟩
        have hz3 := hy3.1 (by omega)
        clear hy3 hR2
        replace ho := ho.kept hg3 (ho.ne_g zg)
        replace hg := grownBy_trans hg hg3
        have zg3 := hR3.lt
        go_wp2_with fail
        refine (one_litR w.heap.size (q + 2) _ [y2, y3, 0, 63, 64, (-1)] 6 hR3 (by omega) (by simp) (by simp) rfl).mono ?_
        rintro e wd4 ⟨y4, rfl, hy4, hR4, hg4⟩
        have hz4 : -1 ≤ y4 ∧ y4 ≤ 64 := by simp at hy4; omega
        clear hy4 hR3
        replace ho := (ho.kept hg4 (ho.ne_g zg)).mono hz1
        replace hg := grownBy_trans hg hg4
        have hbe := hb1.grown hg hb1.size (fun k hk => by cases hk; omega)
        go_wp2
        go_ret2
        exact ⟨_, l, y4, rfl, by rw [h0] at ho; exact ho, by omega, HSM.out, hz4, hbe⟩
      · have g0 : (l.length : Int) > 0 := by omega
        clear hrd
        go_wp2_with fail
        refine (pick_any w.heap.size q _ _ hR (by omega) (by omega)).mono ?_
        rintro e wa ⟨x1, rfl, hx1, hRa, hga⟩
        replace ho := ho.kept hga (ho.ne_g zg)
        replace hg := grownBy_trans hg hga
        have hza := hg.size
        have hga2 := hRa.lt
        clear hx1 hga hR
        by_cases hx0 : x1 = 0
        · have hd2 : (x1 == 0) = true := by simp [hx0]
          clear hx0
          obtain ⟨gl, c6, e6, T6⟩ := ho.tab h0
          obtain ⟨rfl, rfl⟩ : a5 = some ⟨gl, 0, none⟩ ∧ c5 = c6 := by cases e6; exact ⟨rfl, rfl⟩
          go_wp2_with fail
          refine (one_litR w.heap.size (q + 1) wa [-1, 41] 2 hRa (by omega) (by simp) (by simp) rfl).mono ?_
          rintro e wb ⟨z, rfl, hzz, hR3, hg3⟩
          have hz2 : -1 ≤ z ∧ z ≤ 64 := by simp at hzz; omega
          have hng := ho.ne_g zg
          have hob := ho.kept hg3 hng
          have hgb := grownBy_trans hg hg3
          have hzb := hgb.size
          have T7 : Tab wb w1.heap.size gl l.length c5 l := World.ownsRow.kept T6 hg3 hng
          clear hzz hg3 ho hg hRa T6 hng
          have h00 : 0 < l.length := by omega
          obtain ⟨x0, hc0, _⟩ := T7.get h00
          have hf0 := T7.frozen 0
          have T8 := T7.store 0 z
          have gs := grownBy_setCell_any wb ⟨gl, 0, none⟩ (.int .i64 z)
          have hb7 := T7.block
          have hR := hR3.kept gs (fun k hk => by cases hk; show w.heap.size < gl; omega)
          have hg := grownBy_own hgb hob (Nat.le_refl _) (show wb.grownBy _ (Value.slice (some ⟨gl, 0, none⟩) l.length c5).ownBlock from gs)
          have ho := T8.own
          have hsm2 : ∀ x ∈ l.set 0 z, -1 ≤ x ∧ x ≤ 64 := fun x hx => by
            rcases List.mem_or_eq_of_mem_set hx with h | h
            · exact HSM.out x h
            · subst h; exact hz2
          clear gs T7 T8 hob hgb hR3
          go_wp2_with fail
          refine (pick_any w.heap.size (q + 2) _ _ hR (by omega) (by omega)).mono ?_
          rintro e wd2 ⟨y2, rfl, hy2, hR2, hg2⟩
          have hz2 := hy2.1 (by omega)
          clear hy2 hR
          replace ho := ho.kept hg2 (ho.ne_g zg)
          replace hg := grownBy_trans hg hg2
          have zg2 := hR2.lt
          go_wp2_with fail
          refine (pick_any w.heap.size ((q + 2) + 1) _ _ hR2 (by omega) (by omega)).mono ?_
          rintro e wd3 ⟨y3, rfl, hy3, hR3, hg3⟩
          have hz3 := hy3.1 (by omega)
          clear hy3 hR2
          replace ho := ho.kept hg3 (ho.ne_g zg)
          replace hg := grownBy_trans hg hg3
          have zg3 := hR3.lt
          go_wp2_with fail
          refine (one_litR w.heap.size ((q + 2) + 2) _ [y2, y3, 0, 63, 64, (-1)] 6 hR3 (by omega) (by simp) (by simp) rfl).mono ?_
          rintro e wd4 ⟨y4, rfl, hy4, hR4, hg4⟩
          have hz4 : -1 ≤ y4 ∧ y4 ≤ 64 := by simp at hy4; omega
          clear hy4 hR3
          replace ho := (ho.kept hg4 (ho.ne_g zg)).mono hz1
          replace hg := grownBy_trans hg hg4
          have hbe := hb1.grown hg hb1.size (fun k hk => by cases hk; omega)
          go_wp2
          go_ret2
          exact ⟨_, l.set 0 z, y4, rfl, ho, by simp; omega, hsm2, hz4, hbe⟩
        · have hd2 : (x1 == 0) = false := by simpa using hx0
          have hR := hRa
          clear hx0 hRa
          go_wp2_with fail
          refine (pick_any w.heap.size (q + 1) _ _ hR (by omega) (by omega)).mono ?_
          rintro e wd2 ⟨y2, rfl, hy2, hR2, hg2⟩
          have hz2 := hy2.1 (by omega)
          clear hy2 hR
          replace ho := ho.kept hg2 (ho.ne_g zg)
          replace hg := grownBy_trans hg hg2
          have zg2 := hR2.lt
          go_wp2_with fail
          refine (pick_any w.heap.size ((q + 1) + 1) _ _ hR2 (by omega) (by omega)).mono ?_
          rintro e wd3 ⟨y3, rfl, hy3, hR3, hg3⟩
          have hz3 := hy3.1 (by omega)
          clear hy3 hR2
          replace ho := ho.kept hg3 (ho.ne_g zg)
          replace hg := grownBy_trans hg hg3
          have zg3 := hR3.lt
          go_wp2_with fail
          refine (one_litR w.heap.size ((q + 1) + 2) _ [y2, y3, 0, 63, 64, (-1)] 6 hR3 (by omega) (by simp) (by simp) rfl).mono ?_
          rintro e wd4 ⟨y4, rfl, hy4, hR4, hg4⟩
          have hz4 : -1 ≤ y4 ∧ y4 ≤ 64 := by simp at hy4; omega
          clear hy4 hR3
          replace ho := (ho.kept hg4 (ho.ne_g zg)).mono hz1
          replace hg := grownBy_trans hg hg4
          have hbe := hb1.grown hg hb1.size (fun k hk => by cases hk; omega)
          go_wp2
          go_ret2
          exact ⟨_, l, y4, rfl, ho, by omega, HSM.out, hz4, hbe⟩
end Go.Proofs.Ytbldfhfciihddaa
