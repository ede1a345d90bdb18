/-
  spec.TakeOut.
-/
import Derived.Test.YtapkalpmnldhpabM5
namespace Go.Proofs.Ytapkalpmnldhpab
open Go.RowKit

set_option maxHeartbeats 2000000 in
theorem specTakeOut_yes (M : Nat) (a : Option Addr) (l : List Int) (cap : Nat) (a2 : Option Addr) (t : List Int) (cap2 : Nat) (key : Int) (w : World) (hm : In64 M) (hr : Reads w a l) (hl : l.length ≤ 1048586) (hr2 : Reads w a2 t) (ht : t.length ≤ 1048586) (hF : FD M l t = true) (hk0 : 0 ≤ key) :
    Calls Try.prog 30 #[.int .i64 M, .slice a l.length cap, .slice a2 t.length cap2, .int .i64 key] w fun e w' => ∃ v, e = .returned (.tuple #[v, .bool (TO M l t key).2]) ∧ Own w' w.heap.size v (TO M l t key).1 ∧ Below w.heap.size w w' := by
  obtain ⟨v1, v2, v3⟩ := VT_iff.1 (FD_iff.1 hF).1
  have hH := Homes.of_VH (VH_iff.1 v1)
  rw [Int.toNat_natCast] at hH
  have hM := hH.le
  have hM1 := hH.pos
  have hll := hH.len
  obtain rfl : t.length = M := by omega
  obtain ⟨b, off, x0, rfl, hbb, hz1, hz2⟩ := hr2.get (k := 0) (by omega)
  clear hz1 hz2
  have hct : CellsAt w b off t := by
    intro i hi
    obtain ⟨x, e1, e2⟩ := hr2.at_ hi
    rw [e1, e2.out]
  obtain ⟨i0, hi, hz0, hz1, hz2⟩ := info_parts infoInt
  go_enter Try.func30, Try.ntmps30
  go_wp2_with fail
  refine (specIsFound_q _ _ _ _ _ _ _ _ hm hr hl hr2 ht).mono ?_
  rintro e w' ⟨rfl, n, rfl⟩
  have ho : Own ((w.drewN n).alloc (.cells #[] 3)) w.heap.size (.slice (some ⟨w.heap.size, 0, none⟩) 0 0) [] := Own.lit0 (w.drewN n) w.heap.size (Nat.le_refl _)
  have d0 : decide (key < 0) = false := by simp; omega
  have hcell : ∀ j u, (t.map (Value.int .i64))[j]? = some u → ((w.drewN n).alloc (.cells #[] 3)).cell? ((⟨b, off, none⟩ : Addr).add j) = some u := by
    intro j u hu
    have hj : j < t.length := by simpa using (List.getElem?_eq_some_iff.1 hu).1
    rw [getD_map hj] at hu
    obtain rfl := Option.some.inj hu
    rw [Addr.add_lit, World.cell?_alloc_past _ _ _ (by exact hbb)]
    exact hct j hj
  go_wp2_with (at_builtin; refine wpList_append_own _ rfl (.tmp 23) (.tmp 24) 23 rfl w.heap.size 3 i0 (.int .i64 0) 1 8 Try.underlying23 hi hz0 hz1 hz2 rfl (by decide) _ _ _ rfl ho ⟨b, off, none⟩ t.length cap2 (t.map (Value.int .i64)) rfl (by simp) hcell (ints_oneCell _ _) (by unfold maxLen; simp; omega) (by simp; omega) (by simp) ?_)
  intro v' w1 g1 g2 g3
  have B1 : Below w.heap.size w w1 := ((below_drewN (Below.refl _ _) n).alloc (by exact Nat.le_refl _) _).grown g2 (by simp) (fun q hq => by simp [Value.ownBlock] at hq; omega)
  have o1 : Own w1 w.heap.size v' t := g1
  obtain ⟨g, cap', rfl, hT⟩ := o1.tab (by omega)
  clear g1 g2 g3 hcell ho o1 hi hz0 hz1 hz2 hct
  go_wp2
  go_loop [11, 12] (fun h s => ∃ i : Nat, i ≤ t.length ∧ s = .int .i64 i ∧ ∃ hole : Int, h = .int .i64 hole ∧ ((hole = -1 ∧ ∀ j, j < i → t.getD j 0 ≠ key) ∨ ∃ j : Nat, j < t.length ∧ hole = j ∧ t.getD j 0 = key)) (fun _ s => t.length - (intOf s).toNat)
  case atStart => exact ⟨0, Nat.zero_le _, rfl, -1, rfl, .inl ⟨rfl, fun j hj => by omega⟩⟩
  case round =>
    obtain ⟨i, hi, rfl, hole, rfl, hcase⟩ := hrel
    have HC := Lib.hid hcase
    clear hcase
    by_cases hlt : i < t.length
    · obtain ⟨x, hcx, hx⟩ := hT.get hlt
      by_cases hxk : x = key
      · have hd : (x == key) = true := by simp [hxk]
        have HXK := Lib.hid hxk
        clear hxk
        go_wp2
        go_round
        case rel => exact ⟨i + 1, by omega, by go_num, i, rfl, .inr ⟨i, hlt, rfl, by rw [hx.out]; exact HXK.out⟩⟩
        case measure => simp [intOf]; omega
      · have hd : (x == key) = false := by simpa using hxk
        go_wp2
        go_round
        case rel =>
          refine ⟨i + 1, by omega, by go_num, hole, rfl, ?_⟩
          rcases HC.out with ⟨e, hf⟩ | hh
          · exact .inl ⟨e, below_all hf (by rw [hx.out]; exact hxk)⟩
          · exact .inr hh
        case measure => simp [intOf]; omega
    · obtain rfl : i = t.length := by omega
      rcases HC.out with ⟨e, hf⟩ | ⟨j, hj, e, he⟩
      · subst e
        have hpn : posn t key = none := by
          cases hp : posn t key with
          | none => rfl
          | some i =>
            obtain ⟨h1, h2⟩ := posn_some hp
            exact absurd h2 (hf i h1)
        have HTO := Lib.hid (TO_none ⟨hF, hk0⟩ hpn)
        clear hf hpn
        go_wp2
        go_ret2
        rw [HTO.out]
        exact ⟨_, rfl, Own.nil _ _, B1⟩
      · subst e
        have hps := posn_is v3 hk0 hj he
        have hto := TO_some ⟨hF, hk0⟩ hps
        rw [Int.toNat_natCast] at hto
        obtain ⟨R, hR⟩ : ∃ R, R = TK t.length l (t.set j (-1)) j 1 := ⟨_, rfl⟩
        rw [← hR] at hto
        have HTO := Lib.hid hto
        have hH0 := hole_first (l := l) rfl v3 hj
        have HR := Lib.hid hR
        obtain ⟨y, hcy, hyy⟩ := hT.get hj
        have hfz := hT.frozen j
        have hst := hT.store j (-1)
        have hbs := B1.setCell (p := ⟨g, j, none⟩) (hT.block.1) (.int .i64 (-1))
        have hpm : (j + 1) % t.length < t.length := Nat.mod_lt _ (by omega)
        have hgw := hT.block.1
        clear hto hR hps he hyy HC
        go_wp2
        go_loopg [11, 13] (mu t.length l (t.set j (-1)) 1) (fun gn h s wr => ∃ T : List Int, ∃ hole st p : Nat, h = .int .i64 hole ∧ s = .int .i64 p ∧ Hid (p = (hole + st) % t.length) ∧ p < t.length ∧ 1 ≤ st ∧ st ≤ t.length ∧ Hole t.length l T hole ∧ Tab wr w.heap.size g t.length cap' T ∧ Hid (R = TK t.length l T hole st) ∧ Below w.heap.size w wr ∧ mu t.length l T st ≤ gn)
        case atStart => exact ⟨_, j, 1, (j + 1) % t.length, rfl, by rw [cast_step], rfl, hpm, by omega, hM1, hH0, hst, HR, hbs, Nat.le_refl _⟩
        case round =>
          clear hst hbs hH0 hpm HR hcy hfz
          obtain ⟨T, hole, st, p, rfl, rfl, hpe, hpm, hs1, hs2, hHo, hTT, hRR, hb, hmu⟩ := hrel
          have hhl := hHo.lt
          by_cases hend : st = t.length
          · have hph : p = hole := by rw [hpe.out, hend, Nat.add_mod_right, Nat.mod_eq_of_lt hhl]
            have hd : ((p : Int) != hole) = false := by simp [hph]
            have hTR : R = T := by rw [hRR.out]; exact TK_end (by omega)
            have HTR := Lib.hid hTR
            clear hph hTR hend
            go_wp2
            go_ret2
            rw [HTO.out, HTR.out]
            exact ⟨_, rfl, hTT.own, hb⟩
          · have hph : p ≠ hole := by rw [hpe.out]; exact slot_ne hhl hs1 (by omega)
            have hd : ((p : Int) != hole) = true := by simp; omega
            obtain ⟨y, hcy, hyy⟩ := hTT.get hpm
            have hky := hHo.keys p (by rw [hHo.len]; exact hpm)
            rw [hyy.out] at hky
            by_cases hy0 : y < 0
            · have hTR : R = T := by rw [hRR.out]; exact TK_free (by omega) hpe.out (by rw [hyy.out]; exact hy0)
              have HTR := Lib.hid hTR
              clear hTR hky
              go_wp2
              go_ret2
              rw [HTO.out, HTR.out]
              exact ⟨_, rfl, hTT.own, hb⟩
            · obtain ⟨o, rfl⟩ := Int.eq_ofNat_of_zero_le (show 0 ≤ y by omega)
              have hol : o < l.length := by omega
              clear hky
              obtain ⟨b', off', h0, rfl, hbb', hcell', hh0⟩ := hr.get hol
              have hcell1' : wr.cell? ⟨b', off' + o, none⟩ = some (.int .i64 h0) := (hb.cell (by exact hbb')).trans hcell'
              have hx2 : h0 = (home l o : Int) := by rw [hH.home_cast hol]; exact hh0.out.symm
              have hhm := hH.home_lt hol
              clear hh0 hcell'
              subst hx2
              obtain ⟨A, hA⟩ : ∃ A, offI t.length (home l o) p = A := ⟨_, rfl⟩
              obtain ⟨B, hB⟩ : ∃ B, offI t.length hole p = B := ⟨_, rfl⟩
              have hgo : Hid (goes t.length l T hole p = decide (B ≤ A)) := by
                unfold Hid goes; rw [hyy.out, Int.toNat_natCast, hA, hB]
              have HA := Lib.hid hA
              have HB := Lib.hid hB
              clear hA hB
              go_wp2_with fail
              refine (off_any _ _ _ (by omega) (by omega) (by omega) (by omega) (by omega) (by omega) _).mono ?_
              rintro e w' ⟨rfl, rfl⟩
              rw [HA.out]
              go_wp2_with fail
              refine (off_any _ _ _ (by omega) (by omega) (by omega) (by omega) (by omega) (by omega) _).mono ?_
              rintro e w' ⟨rfl, rfl⟩
              rw [HB.out]
              have nxt : (hole + (st + 1)) % t.length = (p + 1) % t.length := by rw [hpe.out]; exact (step_mod _ _ _).symm
              have NXT := Lib.hid nxt
              clear nxt
              by_cases hAB : B ≤ A
              · have hg : goes t.length l T hole p = true := by rw [hgo.out]; simp [hAB]
                have hx0 : 0 ≤ T.getD p 0 := by rw [hyy.out]; omega
                have hmv := TK_move hH hHo hs1 (by omega) hpe.out hx0 hg
                have hHo2 := moved_hole hHo hpm hx0
                have hphi := mu_moved (s := st) hM1 (by omega) (phi_moved hM1 hH hHo hpm hph hx0 hg)
                obtain ⟨z, hcz, _⟩ := hTT.get hhl
                have hf1 := hTT.frozen hole
                have hf2 := hTT.frozen p
                have hs1' := hTT.store hole o
                have hs2' := hs1'.store p (-1)
                have hf3 := hs1'.frozen p
                have hb1 := hb.setCell (p := ⟨g, hole, none⟩) hgw (.int .i64 o)
                have hb2 := hb1.setCell (p := ⟨g, p, none⟩) hgw (.int .i64 (-1))
                obtain ⟨z2, hcz2, _⟩ := hs1'.get hpm
                have hTm : Tab ((wr.setCell ⟨g, hole, none⟩ (.int .i64 o)).setCell ⟨g, p, none⟩ (.int .i64 (-1))) w.heap.size g t.length cap' (moved T hole p) := by
                  unfold moved; rw [hyy.out]; exact hs2'
                have HMV := Lib.hid hmv
                have hp2 : (p + 1) % t.length < t.length := Nat.mod_lt _ (by omega)
                clear hmv hs2' hs1' hb1 hg hx0 hpe
                go_wp2
                go_roundg (gk - 1)
                case measure => unfold mu at hmu hphi; omega
                case rel => exact ⟨_, p, 1, (p + 1) % t.length, rfl, by rw [cast_step], rfl, hp2, by omega, hM1, hHo2, hTm, by unfold Hid; rw [hRR.out]; exact HMV.out, hb2, by omega⟩
              · have hg : goes t.length l T hole p = false := by rw [hgo.out]; simp; omega
                have hx0 : 0 ≤ T.getD p 0 := by rw [hyy.out]; omega
                have hmv := TK_skip hH hHo hs1 (by omega) hpe.out hx0 hg
                have HMV := Lib.hid hmv
                have hp2 : (p + 1) % t.length < t.length := Nat.mod_lt _ (by omega)
                clear hmv hg hx0 hpe
                go_wp2
                go_roundg (gk - 1)
                case measure => unfold mu at hmu; omega
                case rel => exact ⟨T, hole, st + 1, (p + 1) % t.length, rfl, by rw [cast_step], NXT.out.symm, hp2, by omega, by omega, hHo, hTT, by unfold Hid; rw [hRR.out]; exact HMV.out, hb, by unfold mu at hmu ⊢; omega⟩

theorem specTakeOut_any (m : Int) (a : Option Addr) (l : List Int) (cap : Nat) (a2 : Option Addr) (t : List Int) (cap2 : Nat) (key : Int) (w : World) (hm : In64 m) (hr : Reads w a l) (_hi : ∀ n ∈ l, In64 n) (hl : l.length ≤ 1048586) (hr2 : Reads w a2 t) (_hi2 : ∀ n ∈ t, In64 n) (ht : t.length ≤ 1048586) (_hk : In64 key) :
    Calls Try.prog 30 #[.int .i64 m, .slice a l.length cap, .slice a2 t.length cap2, .int .i64 key] w fun e w' => ∃ v, e = .returned (.tuple #[v, .bool (TO m l t key).2]) ∧ Own w' w.heap.size v (TO m l t key).1 ∧ Below w.heap.size w w' := by
  by_cases hF : FD m l t = true
  · by_cases hk : 0 ≤ key
    · obtain ⟨M, rfl⟩ := Int.eq_ofNat_of_zero_le (show 0 ≤ m by have := (VH_iff.1 (VT_iff.1 (FD_iff.1 hF).1).1).1; omega)
      exact specTakeOut_yes M a l cap a2 t cap2 key w hm hr hl hr2 ht hF hk
    · rw [TO_no (fun h => hk h.2)]
      have d : decide (key < 0) = true := by simp; omega
      go_enter Try.func30, Try.ntmps30
      go_wp2_with fail
      refine (specIsFound_q _ _ _ _ _ _ _ _ hm hr hl hr2 ht).mono ?_
      rintro e w' ⟨rfl, n, rfl⟩
      go_wp2
      go_ret2
      exact ⟨_, rfl, Own.nil _ _, below_drewN (Below.refl _ _) n⟩
  · rw [TO_no (fun h => hF h.1)]
    have hF' : FD m l t = false := by simpa using hF
    clear hF
    go_enter Try.func30, Try.ntmps30
    go_wp2_with fail
    refine (specIsFound_q _ _ _ _ _ _ _ _ hm hr hl hr2 ht).mono ?_
    rintro e w' ⟨rfl, n, rfl⟩
    go_wp2
    go_ret2
    exact ⟨_, rfl, Own.nil _ _, below_drewN (Below.refl _ _) n⟩
end Go.Proofs.Ytapkalpmnldhpab
