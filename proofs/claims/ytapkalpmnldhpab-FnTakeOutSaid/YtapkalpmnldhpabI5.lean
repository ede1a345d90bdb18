/-
  slices.Index, impl.fillGap, impl.TakeOut.
-/
import Derived.Test.YtapkalpmnldhpabS5
import Derived.Test.YtapkalpmnldhpabI4
namespace Go.Proofs.Ytapkalpmnldhpab
open Go.RowKit

def idx (t : List Int) (key : Int) : Int := match posn t key with | some i => (i : Int) | none => -1
theorem idx_some {t : List Int} {key : Int} {i : Nat} (h : posn t key = some i) : idx t key = i := by unfold idx; rw [h]
theorem idx_none {t : List Int} {key : Int} (h : posn t key = none) : idx t key = -1 := by unfold idx; rw [h]

set_option maxHeartbeats 1000000 in
theorem index_any (a : Option Addr) (t : List Int) (n cap : Nat) (key : Int) (w : World) (hr : Reads w a t) (hn : t.length = n) (hl : t.length ≤ 1048586) (m : Nat) (hok : TabOk m t t.length) (hk : 0 ≤ key) :
    Calls Try.prog 58 #[.slice a n cap, .int .i64 key] w fun e w' => e = .returned (.int .i64 (idx t key)) ∧ w = w' := by
  subst hn
  go_enter Try.func58, Try.ntmps58
  go_wp2
  go_loop [8] (fun s => ∃ i : Nat, i ≤ t.length ∧ s = .int .i64 i ∧ ∀ j, j < i → t.getD j 0 ≠ key) (fun s => t.length - (intOf s).toNat)
  case atStart => exact ⟨0, Nat.zero_le _, rfl, fun j hj => by omega⟩
  case round =>
    obtain ⟨i, hi, rfl, hf⟩ := hrel
    have HF := Lib.hid hf
    clear hf
    by_cases hlt : i < t.length
    · obtain ⟨b, off, x, rfl, hbb, hcell, hx⟩ := hr.get hlt
      by_cases hxk : key = x
      · have hd : (key == x) = true := by simp [hxk]
        have hp := posn_is hok hk hlt (by rw [hx.out, hxk])
        have HP := Lib.hid (idx_some hp)
        clear hxk hp
        go_wp2
        go_ret
        exact ⟨ret_int (by rw [HP.out]), rfl⟩
      · have hd : (key == x) = false := by simpa using hxk
        go_wp2
        go_round
        case rel => exact ⟨i + 1, by omega, by go_num, below_all HF.out (by rw [hx.out]; exact fun e => hxk e.symm)⟩
        case measure => simp [intOf]; omega
    · obtain rfl : i = t.length := by omega
      have hpn : posn t key = none := by
        cases hp : posn t key with
        | none => rfl
        | some i =>
          obtain ⟨h1, h2⟩ := posn_some hp
          exact absurd h2 (HF.out i h1)
      have HP := Lib.hid (idx_none hpn)
      clear hpn
      go_wp2
      go_ret
      exact ⟨ret_int (by rw [HP.out]), rfl⟩

/-- What fillGap comes to: the table is done, or a key has moved. -/
def Filled (m : Nat) (l t : List Int) (hole : Nat) (t' : List Int) (g : Nat) : Prop :=
  (t' = t ∧ g = hole ∧ TK m l t hole 1 = t) ∨ (Hole m l t' g ∧ t' ≠ t ∧ TK m l t hole 1 = TK m l t' g 1 ∧ phi m l t' m + 1 ≤ phi m l t m)

set_option maxRecDepth 100000 in
set_option maxHeartbeats 2000000 in
theorem fillGap_any (M : Nat) (a : Option Addr) (l : List Int) (cap : Nat) (t : List Int) (hole : Nat) (w : World) (hr : Reads w a l) (hH : Homes M l) (hHo : Hole M l t hole) :
    Calls Try.prog 59 #[.int .i64 M, .slice a l.length cap, .agg (arr (full t)), .int .i64 hole] w fun e w' => ∃ (t' : List Int) (g : Nat), e = .returned (.tuple #[.agg (arr (full t')), .int .i64 (g : Int)]) ∧ Filled M l t hole t' g ∧ Below w.heap.size w w' := by
  have hM := hH.le
  have hM1 := hH.pos
  have hll := hH.len
  have hlen := hHo.len
  have hT : (full t).length = 10 := full_len (by omega)
  have hhl := hHo.lt
  have h6 : Arr ((w.alloc (.cells (arr (full t)) 68)).alloc (.cells (arr (List.replicate 10 0)) 68)) 68 w.heap.size (full t) := (Arr.new w _ _).alloc _
  have h8 : Arr ((w.alloc (.cells (arr (full t)) 68)).alloc (.cells (arr (List.replicate 10 0)) 68)) 68 (w.heap.size + 1) (List.replicate 10 0) := by
    have := Arr.new (w.alloc (.cells (arr (full t)) 68)) 68 (List.replicate 10 0)
    rw [World.size_alloc] at this
    exact this
  rw [arr_zero10] at h6 h8
  have B0 := ((Below.refl w.heap.size w).alloc (Nat.le_refl _) (.cells (arr (full t)) 68)).alloc (by simp) (.cells #[.int .i64 0, .int .i64 0, .int .i64 0, .int .i64 0, .int .i64 0, .int .i64 0, .int .i64 0, .int .i64 0, .int .i64 0, .int .i64 0] 68)
  have HLEN := Lib.hid hlen
  clear hlen
  go_enter Try.func59, Try.ntmps59
  go_wp2_with fail
  refine (lookFrom_any _ _ _).mono ?_
  rintro e w3 ⟨rfl, hk1, hk2, hb3, hs3⟩
  replace h6 := h6.belowAll hb3
  replace h8 := h8.belowAll hb3
  have B3 := B0.trans (hb3.mono B0.size)
  have hk1' : w3.cell? ⟨w.heap.size + 1 + 1, 0, none⟩ = some (.int .i64 (M : Int)) := by simpa using hk1
  have hk2' : w3.cell? ⟨w.heap.size + 1 + 1 + 1, 0, none⟩ = some (.int .i64 (hole : Int)) := by simpa using hk2
  clear hk1 hk2 hb3 B0 hs3
  go_wp2
  obtain ⟨c, hc⟩ : ∃ c, c = w.heap.size + 1 + 1 := ⟨_, rfl⟩
  rw [← hc] at hk1' hk2' ⊢
  clear hc
  go_loop [11] (fun s => ∃ st : Nat, 1 ≤ st ∧ st ≤ M ∧ s = .int .i64 st ∧ Hid (TK M l t hole 1 = TK M l t hole st)) (fun s => M - (intOf s).toNat)
  case atStart => exact ⟨1, by omega, hM1, rfl, rfl⟩
  case round =>
    obtain ⟨st, h1, h2, rfl, hTK⟩ := hrel
    by_cases hlt : st < M
    · obtain ⟨p, hpd⟩ : ∃ p, p = (hole + st) % M := ⟨_, rfl⟩
      have hp : p < M := by rw [hpd]; exact Nat.mod_lt _ (by omega)
      have hne : p ≠ hole := by rw [hpd]; exact slot_ne hhl h1 hlt
      have HPD := Lib.hid hpd
      clear hpd
      obtain ⟨y, hcell2, hy⟩ := h6.get (k := p) (by rw [hT]; omega)
      have hy2 : t.getD p 0 = y := by rw [← hy.out, full_get (by rw [HLEN.out]; exact hp)]
      have hky := hHo.keys p (by rw [HLEN.out]; exact hp)
      rw [hy2] at hky
      have HY := Lib.hid hy2
      clear hy2 hy
      go_wp2_with fail
      refine (lookFrom1_any M hole st (by omega) (by omega) (by omega) (by omega) c (c + 1) _ hk1' hk2').mono ?_
      rintro e w' ⟨rfl, rfl⟩
      rw [← HPD.out]
      by_cases hy0 : y = -1
      · have hd : (y == -1) = true := by simp [hy0]
        have hend : TK M l t hole 1 = t := by rw [hTK.out]; exact TK_free hlt HPD.out (by rw [HY.out]; omega)
        have HEND := Lib.hid hend
        clear hend hky hy0
        go_wp2_with (first | (refine load_arr rfl _ _ rfl _ rfl _ _ _ _ h6 und_slot inf_slot hT ?_) | (refine store_arr rfl _ _ _ rfl _ rfl _ _ rfl _ _ h8 inf_slot hT rfl ?_))
        intro w4 h84 g4
        have B4 := B3.grown g4 B3.size (fun q hq => by cases hq; exact Nat.le_succ _)
        go_wp2
        exact ret_arr2 rfl rfl _ rfl _ _ 10 _ h84 und_slot inf_slot hT _ rfl ⟨t, hole, rfl, .inl ⟨rfl, rfl, HEND.out⟩, B4⟩
      · have hd : (y == -1) = false := by simpa using hy0
        obtain ⟨o, rfl⟩ := Int.eq_ofNat_of_zero_le (show 0 ≤ y by omega)
        have hol : o < l.length := by omega
        clear hky hy0
        obtain ⟨b', off', h0, rfl, hbb', hcell', hh0⟩ := hr.get hol
        have hcell1' : w3.cell? ⟨b', off' + o, none⟩ = some (.int .i64 h0) := (B3.cell (by exact hbb')).trans hcell'
        have hx2 : h0 = (home l o : Int) := by rw [hH.home_cast hol]; exact hh0.out.symm
        have hhm := hH.home_lt hol
        clear hh0 hcell'
        subst hx2
        have hpi := pass_iff hhm hhl hp hne
        obtain ⟨A, hA⟩ : ∃ A, offI M (home l o) p = A := ⟨_, rfl⟩
        obtain ⟨B, hB⟩ : ∃ B, offI M (home l o) hole = B := ⟨_, rfl⟩
        have hgo : goes M l t hole p = decide (B < A) := by
          unfold goes; rw [HY.out, Int.toNat_natCast, ← hA, ← hB, decide_eq_decide]; exact hpi
        have HGO := Lib.hid hgo
        have HA := Lib.hid hA
        have HB := Lib.hid hB
        clear hA hB hpi hgo
        go_wp2_with fail
        refine (stepsTo_any _ _ _ (by omega) (by omega) (by omega) (by omega) (by omega) (by omega) _).mono ?_
        rintro e w' ⟨rfl, rfl⟩
        rw [HB.out]
        go_wp2_with fail
        refine (stepsTo_any _ _ _ (by omega) (by omega) (by omega) (by omega) (by omega) (by omega) _).mono ?_
        rintro e w' ⟨rfl, rfl⟩
        rw [HA.out]
        by_cases hAB : B < A
        · have hg : goes M l t hole p = true := by rw [HGO.out]; simp [hAB]
          have hx0 : 0 ≤ t.getD p 0 := by rw [HY.out]; omega
          have hmv := TK_move hH hHo h1 hlt HPD.out hx0 hg
          have hHo2 := moved_hole hHo hp hx0
          have hphi := phi_moved hM1 hH hHo hp hne hx0 hg
          have hmne : moved t hole p ≠ t := by
            intro e
            have e2 : (moved t hole p).getD p 0 = t.getD p 0 := by rw [e]
            unfold moved at e2
            rw [getD_set (by rw [List.length_set, HLEN.out]; exact hp), if_pos rfl] at e2
            omega
          have hfill : Filled M l t hole (moved t hole p) p := .inr ⟨hHo2, hmne, by rw [hTK.out]; exact hmv, hphi⟩
          obtain ⟨z, hcz, _⟩ := h6.get (k := hole) (by rw [hT]; omega)
          have hf1 := h6.frozen hole
          have hs1 := h6.store hole o
          have hf2 := hs1.frozen p
          obtain ⟨z2, hcz2, _⟩ := hs1.get (k := p) (by rw [List.length_set, hT]; omega)
          have hs2 := hs1.store p (-1)
          have hfm : ((full t).set hole o).set p (-1) = full (moved t hole p) := by
            unfold moved
            rw [HY.out, full_set (by rw [HLEN.out]; exact hhl), full_set (by rw [List.length_set, HLEN.out]; exact hp)]
          rw [hfm] at hs2
          have h8a := (h8.other (g' := w.heap.size) (by omega) hole (.int .i64 o)).other (g' := w.heap.size) (by omega) p (.int .i64 (-1))
          have hb1 := (B3.setCell (p := ⟨w.heap.size, hole, none⟩) (Nat.le_refl _) (.int .i64 o)).setCell (p := ⟨w.heap.size, p, none⟩) (Nat.le_refl _) (.int .i64 (-1))
          have hTm : (full (moved t hole p)).length = 10 := full_len (by rw [show (moved t hole p).length = M from hHo2.len]; omega)
          have HFILL := Lib.hid hfill
          clear hmv hphi hmne hfill hfm hg hx0 hs1
          go_wp2_with (first | (refine load_arr rfl _ _ rfl _ rfl _ _ _ _ hs2 und_slot inf_slot hTm ?_) | (refine store_arr rfl 68 _ _ rfl _ rfl _ _ rfl _ _ h8a inf_slot hTm rfl ?_))
          intro w4 h84 g4
          have B4 := hb1.grown g4 hb1.size (fun q hq => by cases hq; exact Nat.le_succ _)
          go_wp2
          exact ret_arr2 rfl rfl _ rfl _ _ 10 _ h84 und_slot inf_slot hTm _ rfl ⟨_, p, rfl, HFILL.out, B4⟩
        · have hg : goes M l t hole p = false := by rw [HGO.out]; simp; omega
          have hmv := TK_skip hH hHo h1 hlt HPD.out (by rw [HY.out]; omega) hg
          have HMV := Lib.hid hmv
          clear hmv hg
          go_wp2
          go_round
          case rel => exact ⟨st + 1, by omega, by omega, by go_num, by unfold Hid; rw [hTK.out]; exact HMV.out⟩
          case measure => simp [intOf]; omega
    · have hend : TK M l t hole 1 = t := by rw [hTK.out]; exact TK_end (by omega)
      have HEND := Lib.hid hend
      clear hend
      go_wp2_with (first | (refine load_arr rfl _ _ rfl _ rfl _ _ _ _ h6 und_slot inf_slot hT ?_) | (refine store_arr rfl _ _ _ rfl _ rfl _ _ rfl _ _ h8 inf_slot hT rfl ?_))
      intro w4 h84 g4
      have B4 := B3.grown g4 B3.size (fun q hq => by cases hq; exact Nat.le_succ _)
      go_wp2
      exact ret_arr2 rfl rfl _ rfl _ _ 10 _ h84 und_slot inf_slot hT _ rfl ⟨t, hole, rfl, .inl ⟨rfl, rfl, HEND.out⟩, B4⟩

end Go.Proofs.Ytapkalpmnldhpab
