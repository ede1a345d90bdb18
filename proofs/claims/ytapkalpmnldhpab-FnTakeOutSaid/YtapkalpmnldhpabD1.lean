/-
  spec.someHomes, the draws of chapter 1 that give homes.
-/
import Derived.Test.YtapkalpmnldhpabD0
namespace Go.Proofs.Ytapkalpmnldhpab
open Go.RowKit

/-- What a draw's numbers are: small. -/
def Small (l : List Int) : Prop := ∀ x ∈ l, -1 ≤ x ∧ x ≤ 11
theorem Small.nil : Small [] := by intro x hx; simp at hx
theorem Small.push {l : List Int} {x : Int} (h : Small l) (hx : -1 ≤ x ∧ x ≤ 11) : Small (l ++ [x]) := by
  intro y hy
  rcases List.mem_append.1 hy with hy | hy
  · exact h y hy
  · simp at hy; rw [hy]; exact hx

set_option maxHeartbeats 4000000 in
theorem someHomes_any (g p : Nat) (w : World) (hR : Rdr w g p) (hp : p ≤ 800000) :
    Calls Try.prog 46 #[.pointer (some ⟨g, 0, none⟩)] w fun e w' => ∃ (m : Int) (v : Value) (l : List Int) (q : Nat), e = .returned (.tuple #[.int .i64 m, v]) ∧ (-1 ≤ m ∧ m ≤ 11) ∧ Own w' w.heap.size v l ∧ l.length ≤ 14 ∧ Small l ∧ v ≠ .slice none 0 0 ∧ Rdr w' g q ∧ q ≤ p + 100 ∧ w.grownBy w' (some g) := by
  have zg := hR.lt
  go_enter Try.func46, Try.ntmps46
  go_wp2_with fail
  refine (slots_any g p _ hR (by omega)).mono ?_
  rintro e w1 ⟨m, rfl, hm, hR1, hg1⟩
  have z1 := hg1.size
  have ho1 : Own (w1.alloc (.cells #[] 3)) w.heap.size (.slice (some ⟨w1.heap.size, 0, none⟩) 0 0) [] := (Own.lit0 w1 w.heap.size z1)
  have hR2 := hR1.below ((Below.refl w1.heap.size w1).alloc (Nat.le_refl _) (.cells #[] 3))
  have hg2 := grownBy_alloc' hg1 (.cells #[] 3)
  have hneg : m < 0 ∨ 0 ≤ m := by omega
  clear hR1 hg1 hR
  rcases hneg with hneg | hneg
  all_goals
    go_wp2_with fail
    refine (pick_any g (p + 2) _ _ hR2 (by omega) (by omega)).mono ?_
    rintro e w2 ⟨y1, rfl, hy1, hR3, hg3⟩
    have hy1' := hy1.1 (by omega)
    have ho2 := ho1.kept hg3 (by simp [Value.ownBlock]; omega)
    have hg4 := grownBy_trans hg2 hg3
    go_wp2_with fail
    refine (pick_any g (p + 3) _ _ hR3 (by omega) (by omega)).mono ?_
    rintro e w3 ⟨y2, rfl, hy2, hR4, hg5⟩
    have ho3 := ho2.kept hg5 (by simp [Value.ownBlock]; omega)
    have hg6 := grownBy_trans hg4 hg5
    clear hR3 hg3 hg4 hg5 ho2 hy1 hy2
    by_cases hb : y2 = 0
    · have hd : (y2 == 0) = true := by simp [hb]
      clear hb
      go_wp2_with fail
      refine (pick_any g (p + 4) _ _ hR4 (by omega) (by omega)).mono ?_
      rintro e wc ⟨y3, rfl, hy3, hRc, hg7⟩
      have hy3' := hy3.1 (by omega)
      have hoc := ho3.kept hg7 (by simp [Value.ownBlock]; omega)
      have hgc := grownBy_trans hg6 hg7
      have hRq : ∃ q, Rdr wc g q ∧ q ≤ p + 10 := ⟨_, hRc, by omega⟩
      clear hR4 hg6 hg7 ho3 hy3 hRc
      go_wp2
      first | (obtain ⟨nn, hnn⟩ : ∃ nn, nn = m - y3 := ⟨_, rfl⟩; rw [← hnn]; have hnn2 : nn ≤ 11 := (by omega); clear hnn) | (obtain ⟨nn, hnn⟩ : ∃ nn, nn = -y3 := ⟨_, rfl⟩; rw [← hnn]; have hnn2 : nn ≤ 11 := (by omega); clear hnn)
      go_loopg [5] 12 (fun n v wr => ∃ (l : List Int) (q : Nat), l.length + n = 12 ∧ Own wr w.heap.size v l ∧ Small l ∧ v ≠ .slice none 0 0 ∧ Rdr wr g q ∧ q ≤ p + 10 + 3 * l.length ∧ w.grownBy wr (some g))
      case atStart => obtain ⟨q, h1, h2⟩ := hRq; exact ⟨[], q, by simp, hoc, Small.nil, by simp, h1, by simpa using h2, hgc⟩
      case round =>
        clear hoc hRq hgc
        obtain ⟨l, q, hln, ho, hsm, hvn, hR, hq, hg⟩ := hrel
        obtain ⟨a5, c5, rfl, hrd, hlc, hcm, hblk⟩ := ho.form
        have hz := hg.size
        have HLN := Lib.hid hln
        have hl12 : l.length ≤ 12 := by omega
        have HSM := Lib.hid hsm
        clear hln hrd hblk hcm hsm
        by_cases hlt : (l.length : Int) < nn
        · go_wp2_with fail
          refine (pick_any g q _ _ hR (by omega) (by omega)).mono ?_
          rintro e wa ⟨x1, rfl, hx1, hRa, hga⟩
          have hx1' : -1 ≤ x1 ∧ x1 ≤ 11 := by
            by_cases h : 1 ≤ m
            · have := hx1.1 h; omega
            · have := hx1.2 (by omega); omega
          replace ho := ho.kept hga (ho.ne_g zg)
          replace hg := grownBy_trans hg hga
          clear hx1 hga hR
          go_wp2_with fail
          refine (pick_any g (q + 1) _ _ hRa (by omega) (by omega)).mono ?_
          rintro e wb ⟨x2, rfl, hx2, hRb, hgb⟩
          replace ho := ho.kept hgb (ho.ne_g zg)
          replace hg := grownBy_trans hg hgb
          have hzb := hg.size
          clear hx2 hgb hRa
          by_cases hx0 : x2 = 0
          · have hd2 : (x2 == 0) = true := by simp [hx0]
            clear hx0
            have hmc : m < 1 ∨ (1 ≤ m ∧ m < 3) ∨ (3 ≤ m ∧ m ≤ 3) ∨ 3 < m := by omega
            rcases hmc with hmc | hmc | hmc | hmc
            all_goals try (exfalso; omega)
            all_goals
              go_wp2_with fail
              refine (pick_any g (q + 2) _ _ hRb (by omega) (by omega)).mono ?_
              rintro e wd ⟨x3, rfl, hx3, hRd, hgd⟩
              have hx3' : -1 ≤ x3 ∧ x3 ≤ 11 := by have := hx3.1 (by omega); omega
              have hod := ho.kept hgd (ho.ne_g zg)
              have hgd2 := grownBy_trans hg hgd
              have hzd := hgd2.size
              have hmu := HLN.out
              clear hx3 hgd hRb
              go_wp2_with (at_builtin; refine push_int rfl (.tmp 39) (.tmp 41) rfl w.heap.size _ l x3 rfl hod rfl (by omega) hzd ?_)
              intro v' we oe ne ge
              have hRe := hRd.kept ge (fun k hk => by have := (hod.lt k hk).1; omega)
              have hge := grownBy_own hgd2 hod (Nat.le_refl _) ge
              have hsm2 := HSM.out.push hx3'
              clear ge hod hgd2 hRd
              go_wp2
              go_roundg (gk - 1)
              case measure => omega
              case rel => exact ⟨l ++ [x3], q + 3, by simp; omega, oe, hsm2, ne, hRe, by simp; omega, hge⟩
          · have hd2 : (x2 == 0) = false := by simpa using hx0
            have hmu := HLN.out
            clear hx0
            go_wp2_with (at_builtin; refine push_int rfl (.tmp 39) (.tmp 41) rfl w.heap.size _ l x1 rfl ho rfl (by omega) hzb ?_)
            intro v' we oe ne ge
            have hRe := hRb.kept ge (fun k hk => by have := (ho.lt k hk).1; omega)
            have hge := grownBy_own hg ho (Nat.le_refl _) ge
            have hsm2 := HSM.out.push hx1'
            clear ge ho hg hRb
            go_wp2
            go_roundg (gk - 1)
            case measure => omega
            case rel => exact ⟨l ++ [x1], q + 2, by simp; omega, oe, hsm2, ne, hRe, by simp; omega, hge⟩
        · go_wp2_with fail
          refine (pick_any g q _ _ hR (by omega) (by omega)).mono ?_
          rintro e wa ⟨x1, rfl, hx1, hRa, hga⟩
          replace ho := ho.kept hga (ho.ne_g zg)
          replace hg := grownBy_trans hg hga
          have hza := hg.size
          have hga2 := hRa.lt
          clear hx1 hga hR
          by_cases hx0 : x1 = 0
          · have hd2 : (x1 == 0) = true := by simp [hx0]
            have hc : CellsAt (wa.alloc (.cells #[.int .i64 (-1), .int .i64 m] 3)) wa.heap.size 0 [-1, m] := CellsAt.lit wa [-1, m]
            have hR2 := hRa.below ((Below.refl wa.heap.size wa).alloc (Nat.le_refl _) (.cells #[.int .i64 (-1), .int .i64 m] 3))
            clear hx0
            go_wp2_with fail
            refine (one_any g (q + 1) _ _ [-1, m] _ hR2 (by omega) hc hga2 (by simp) (by simp) 2 rfl).mono ?_
            rintro e wb ⟨z, rfl, hz, hR3, hg3⟩
            have hz2 : -1 ≤ z ∧ z ≤ 11 := by simp at hz; omega
            have hob0 : Own _ _ _ _ := World.ownsRow.alloc ho (.cells #[.int .i64 (-1), .int .i64 m] 3)
            have hob := hob0.kept hg3 (ho.ne_g zg)
            have hgb := grownBy_trans (grownBy_alloc' hg _) hg3
            have hzb := hgb.size
            clear hc hz hg3 ho hg
            go_wp2_with (at_builtin; refine push_int rfl (.tmp 48) (.tmp 53) rfl w.heap.size (.slice a5 l.length c5) l z rfl hob rfl (by omega) hzb ?_)
            intro v' we oe ne ge
            have hRe := hR3.kept ge (fun k hk => by have := (hob.lt k hk).1; omega)
            have hge := grownBy_own hgb hob (Nat.le_refl _) ge
            clear ge hob hgb hR3
            go_wp2
            go_ret2
            exact ⟨m, v', _, _, rfl, hm, oe, by simp; omega, HSM.out.push hz2, ne, hRe, by omega, hge⟩
          by_cases hx01 : x1 = 1
          · have hd2 : (x1 == 0) = false := by simpa using hx0
            have hd3 : (x1 == 1) = true := by simp [hx01]
            clear hx0 hx01
            go_wp2_with (at_builtin; refine push_two rfl (.tmp 58) (.tmp 59) rfl w.heap.size (.slice a5 l.length c5) l 0 0 rfl ho rfl (by omega) hza ?_)
            intro v' we oe ne ge
            have hRe := hRa.kept ge (fun k hk => by have := (ho.lt k hk).1; omega)
            have hge := grownBy_own hg ho (Nat.le_refl _) ge
            have hs2 := (HSM.out.push (x := 0) (by omega)).push (x := 0) (by omega)
            clear ge ho hg hRa
            go_wp2
            go_ret2
            exact ⟨m, v', _, _, rfl, hm, oe, by simp; omega, by simpa using hs2, ne, hRe, by omega, hge⟩
          · have hd2 : (x1 == 0) = false := by simpa using hx0
            have hd3 : (x1 == 1) = false := by simpa using hx01
            clear hx0 hx01
            go_wp2
            go_ret2
            exact ⟨m, _, l, _, rfl, hm, ho, by omega, HSM.out, hvn, hRa, by omega, hg⟩
    · have hd : (y2 == 0) = false := by simpa using hb
      clear hb
      have hRq : ∃ q, Rdr w3 g q ∧ q ≤ p + 10 := ⟨_, hR4, by omega⟩
      have hoc := ho3
      have hgc := hg6
      clear hR4 ho3 hg6
      go_wp2
      obtain ⟨nn, hnn⟩ : ∃ nn, nn = y1 := ⟨_, rfl⟩
      rw [← hnn]
      have hnn2 : nn ≤ 11 := by omega
      clear hnn
      go_loopg [5] 12 (fun n v wr => ∃ (l : List Int) (q : Nat), l.length + n = 12 ∧ Own wr w.heap.size v l ∧ Small l ∧ v ≠ .slice none 0 0 ∧ Rdr wr g q ∧ q ≤ p + 10 + 3 * l.length ∧ w.grownBy wr (some g))
      case atStart => obtain ⟨q, h1, h2⟩ := hRq; exact ⟨[], q, by simp, hoc, Small.nil, by simp, h1, by simpa using h2, hgc⟩
      case round =>
        clear hoc hRq hgc
        obtain ⟨l, q, hln, ho, hsm, hvn, hR, hq, hg⟩ := hrel
        obtain ⟨a5, c5, rfl, hrd, hlc, hcm, hblk⟩ := ho.form
        have hz := hg.size
        have HLN := Lib.hid hln
        have hl12 : l.length ≤ 12 := by omega
        have HSM := Lib.hid hsm
        clear hln hrd hblk hcm hsm
        by_cases hlt : (l.length : Int) < nn
        · go_wp2_with fail
          refine (pick_any g q _ _ hR (by omega) (by omega)).mono ?_
          rintro e wa ⟨x1, rfl, hx1, hRa, hga⟩
          have hx1' : -1 ≤ x1 ∧ x1 ≤ 11 := by
            by_cases h : 1 ≤ m
            · have := hx1.1 h; omega
            · have := hx1.2 (by omega); omega
          replace ho := ho.kept hga (ho.ne_g zg)
          replace hg := grownBy_trans hg hga
          clear hx1 hga hR
          go_wp2_with fail
          refine (pick_any g (q + 1) _ _ hRa (by omega) (by omega)).mono ?_
          rintro e wb ⟨x2, rfl, hx2, hRb, hgb⟩
          replace ho := ho.kept hgb (ho.ne_g zg)
          replace hg := grownBy_trans hg hgb
          have hzb := hg.size
          clear hx2 hgb hRa
          by_cases hx0 : x2 = 0
          · have hd2 : (x2 == 0) = true := by simp [hx0]
            clear hx0
            have hmc : m < 1 ∨ (1 ≤ m ∧ m < 3) ∨ (3 ≤ m ∧ m ≤ 3) ∨ 3 < m := by omega
            rcases hmc with hmc | hmc | hmc | hmc
            all_goals try (exfalso; omega)
            all_goals
              go_wp2_with fail
              refine (pick_any g (q + 2) _ _ hRb (by omega) (by omega)).mono ?_
              rintro e wd ⟨x3, rfl, hx3, hRd, hgd⟩
              have hx3' : -1 ≤ x3 ∧ x3 ≤ 11 := by have := hx3.1 (by omega); omega
              have hod := ho.kept hgd (ho.ne_g zg)
              have hgd2 := grownBy_trans hg hgd
              have hzd := hgd2.size
              have hmu := HLN.out
              clear hx3 hgd hRb
              go_wp2_with (at_builtin; refine push_int rfl (.tmp 39) (.tmp 41) rfl w.heap.size _ l x3 rfl hod rfl (by omega) hzd ?_)
              intro v' we oe ne ge
              have hRe := hRd.kept ge (fun k hk => by have := (hod.lt k hk).1; omega)
              have hge := grownBy_own hgd2 hod (Nat.le_refl _) ge
              have hsm2 := HSM.out.push hx3'
              clear ge hod hgd2 hRd
              go_wp2
              go_roundg (gk - 1)
              case measure => omega
              case rel => exact ⟨l ++ [x3], q + 3, by simp; omega, oe, hsm2, ne, hRe, by simp; omega, hge⟩
          · have hd2 : (x2 == 0) = false := by simpa using hx0
            have hmu := HLN.out
            clear hx0
            go_wp2_with (at_builtin; refine push_int rfl (.tmp 39) (.tmp 41) rfl w.heap.size _ l x1 rfl ho rfl (by omega) hzb ?_)
            intro v' we oe ne ge
            have hRe := hRb.kept ge (fun k hk => by have := (ho.lt k hk).1; omega)
            have hge := grownBy_own hg ho (Nat.le_refl _) ge
            have hsm2 := HSM.out.push hx1'
            clear ge ho hg hRb
            go_wp2
            go_roundg (gk - 1)
            case measure => omega
            case rel => exact ⟨l ++ [x1], q + 2, by simp; omega, oe, hsm2, ne, hRe, by simp; omega, hge⟩
        · go_wp2_with fail
          refine (pick_any g q _ _ hR (by omega) (by omega)).mono ?_
          rintro e wa ⟨x1, rfl, hx1, hRa, hga⟩
          replace ho := ho.kept hga (ho.ne_g zg)
          replace hg := grownBy_trans hg hga
          have hza := hg.size
          have hga2 := hRa.lt
          clear hx1 hga hR
          by_cases hx0 : x1 = 0
          · have hd2 : (x1 == 0) = true := by simp [hx0]
            have hc : CellsAt (wa.alloc (.cells #[.int .i64 (-1), .int .i64 m] 3)) wa.heap.size 0 [-1, m] := CellsAt.lit wa [-1, m]
            have hR2 := hRa.below ((Below.refl wa.heap.size wa).alloc (Nat.le_refl _) (.cells #[.int .i64 (-1), .int .i64 m] 3))
            clear hx0
            go_wp2_with fail
            refine (one_any g (q + 1) _ _ [-1, m] _ hR2 (by omega) hc hga2 (by simp) (by simp) 2 rfl).mono ?_
            rintro e wb ⟨z, rfl, hz, hR3, hg3⟩
            have hz2 : -1 ≤ z ∧ z ≤ 11 := by simp at hz; omega
            have hob0 : Own _ _ _ _ := World.ownsRow.alloc ho (.cells #[.int .i64 (-1), .int .i64 m] 3)
            have hob := hob0.kept hg3 (ho.ne_g zg)
            have hgb := grownBy_trans (grownBy_alloc' hg _) hg3
            have hzb := hgb.size
            clear hc hz hg3 ho hg
            go_wp2_with (at_builtin; refine push_int rfl (.tmp 48) (.tmp 53) rfl w.heap.size (.slice a5 l.length c5) l z rfl hob rfl (by omega) hzb ?_)
            intro v' we oe ne ge
            have hRe := hR3.kept ge (fun k hk => by have := (hob.lt k hk).1; omega)
            have hge := grownBy_own hgb hob (Nat.le_refl _) ge
            clear ge hob hgb hR3
            go_wp2
            go_ret2
            exact ⟨m, v', _, _, rfl, hm, oe, by simp; omega, HSM.out.push hz2, ne, hRe, by omega, hge⟩
          by_cases hx01 : x1 = 1
          · have hd2 : (x1 == 0) = false := by simpa using hx0
            have hd3 : (x1 == 1) = true := by simp [hx01]
            clear hx0 hx01
            go_wp2_with (at_builtin; refine push_two rfl (.tmp 58) (.tmp 59) rfl w.heap.size (.slice a5 l.length c5) l 0 0 rfl ho rfl (by omega) hza ?_)
            intro v' we oe ne ge
            have hRe := hRa.kept ge (fun k hk => by have := (ho.lt k hk).1; omega)
            have hge := grownBy_own hg ho (Nat.le_refl _) ge
            have hs2 := (HSM.out.push (x := 0) (by omega)).push (x := 0) (by omega)
            clear ge ho hg hRa
            go_wp2
            go_ret2
            exact ⟨m, v', _, _, rfl, hm, oe, by simp; omega, by simpa using hs2, ne, hRe, by omega, hge⟩
          · have hd2 : (x1 == 0) = false := by simpa using hx0
            have hd3 : (x1 == 1) = false := by simpa using hx01
            clear hx0 hx01
            go_wp2
            go_ret2
            exact ⟨m, _, l, _, rfl, hm, ho, by omega, HSM.out, hvn, hRa, by omega, hg⟩
end Go.Proofs.Ytapkalpmnldhpab
