/-
  impl.readTable, impl.LooksOf, impl.isReached, impl.IsFound.
-/
import Derived.Test.YtapkalpmnldhpabS3
import Derived.Test.YtapkalpmnldhpabI2
namespace Go.Proofs.Ytapkalpmnldhpab
open Go.RowKit

theorem pre_zero (t : List Int) : pre t 0 = free10 := by simp [pre, free10]
theorem pre_full (t : List Int) : pre t t.length = full t := by simp [pre, full]
theorem bools_zero : ((List.replicate 10 false).map Value.bool).toArray = #[.bool false, .bool false, .bool false, .bool false, .bool false, .bool false, .bool false, .bool false, .bool false, .bool false] := rfl

set_option maxRecDepth 100000 in
set_option maxHeartbeats 2000000 in
theorem readTable_any (m : Int) (a : Option Addr) (l : List Int) (cap : Nat) (a2 : Option Addr) (t : List Int) (cap2 : Nat) (w : World) (hr : Reads w a l) (hr2 : Reads w a2 t) (hv : VH m l = true) (hlen : (t.length : Int) = m) :
    Calls Try.prog 54 #[.int .i64 m, .slice a l.length cap, .slice a2 t.length cap2] w fun e w' => ∃ T, e = .returned (.tuple #[.agg (arr T), .bool (VT m l t)]) ∧ T.length = 10 ∧ (VT m l t = true → T = full t) ∧ Below w.heap.size w w' := by
  have hd : ((t.length : Int) != (t.length : Int)) = false := by simp
  subst hlen
  have hh := VH_iff.1 hv
  have hl1 : l.length ≤ t.length := by omega
  have hl2 : t.length ≤ 10 := by omega
  clear hh
  have h6 : Arr (w.alloc (.cells (arr (List.replicate 10 0)) 68)) 68 w.heap.size (List.replicate 10 0) := Arr.new _ _ _
  rw [arr_zero10] at h6
  have B0 := (Below.refl w.heap.size w).alloc (Nat.le_refl _) (.cells #[.int .i64 0, .int .i64 0, .int .i64 0, .int .i64 0, .int .i64 0, .int .i64 0, .int .i64 0, .int .i64 0, .int .i64 0, .int .i64 0] 68)
  go_enter Try.func54, Try.ntmps54
  go_wp2_with fail
  refine (freeTable_any _).mono ?_
  rintro e w1 ⟨rfl, hb⟩
  replace h6 := h6.belowAll hb
  have B1 := B0.trans (hb.mono (by simp))
  have z1 := h6.lt
  clear hb B0
  have h8 : Arr (w1.alloc (.cells (arr (List.replicate 10 0)) 68)) 68 w1.heap.size (List.replicate 10 0) := Arr.new _ _ _
  rw [arr_zero10] at h8
  go_wp2_with (refine store_arr rfl _ _ _ rfl _ rfl _ _ rfl _ _ h8 inf_slot rfl rfl ?_)
  intro w2 h82 hg2
  have B2 : Below w.heap.size w w2 := (B1.alloc B1.size _).grown hg2 (by simp; omega) (fun q hq => by cases hq; exact B1.size)
  replace h6 := (h6.alloc _).kept hg2 (by simp; omega)
  have z2 := h82.lt
  obtain ⟨g6, e6⟩ : ∃ g, g = w.heap.size := ⟨_, rfl⟩
  obtain ⟨g8, e8⟩ : ∃ g, g = w1.heap.size := ⟨_, rfl⟩
  rw [← e6] at h6 z1 ⊢
  rw [← e8] at h82 z1 z2 ⊢
  have z6 : w.heap.size ≤ g6 := by omega
  clear h8 hg2 B1 e6 e8
  go_wp2_with fail
  refine (implValidHomes_any _ _ _ _ _ (hr.below B2)).mono ?_
  rintro e w' ⟨rfl, rfl⟩
  rw [← pre_zero t] at h82
  have h9 := BArr.new w2 86 (List.replicate 10 false)
  rw [bools_zero] at h9
  go_wp2
  replace h6 := h6.alloc (.cells #[.bool false, .bool false, .bool false, .bool false, .bool false, .bool false, .bool false, .bool false, .bool false, .bool false] 86)
  replace h82 := h82.alloc (.cells #[.bool false, .bool false, .bool false, .bool false, .bool false, .bool false, .bool false, .bool false, .bool false, .bool false] 86)
  replace B2 := B2.alloc B2.size (.cells #[.bool false, .bool false, .bool false, .bool false, .bool false, .bool false, .bool false, .bool false, .bool false, .bool false] 86)
  obtain ⟨g9, e9⟩ : ∃ g, g = w2.heap.size := ⟨_, rfl⟩
  rw [← e9] at h9 z2 ⊢
  clear e9
  go_loopw [26] (fun s wr => ∃ i : Nat, i ≤ t.length ∧ s = .int .i64 i ∧ TabOk l.length t i ∧ Arr wr 68 g6 (List.replicate 10 0) ∧ Arr wr 68 g8 (pre t i) ∧ BArr wr 86 g9 (sn t i) ∧ Below w.heap.size w wr) (fun s _ => t.length - (intOf s).toNat)
  case atStart => exact ⟨0, Nat.zero_le _, rfl, TabOk.zero _ _, h6, h82, h9, B2⟩
  case round =>
    clear h6 h82 h9 B2
    obtain ⟨i, hi, rfl, hok, h6, h8, h9, hb⟩ := hrel
    have hlp := pre_len hi hl2
    by_cases hlt : i < t.length
    · obtain ⟨b, off, x, rfl, hbb, hcell, hx⟩ := hr2.get hlt
      have hcell1 : wr.cell? ⟨b, off + i, none⟩ = some (.int .i64 x) := (hb.cell (by exact hbb)).trans hcell
      clear hcell
      by_cases g1 : x = -1
      · have hx' := hx.out
        rw [g1] at hx'
        have hok' := hok.succ (by omega) (fun k hk h0 => by omega)
        have HX := Lib.hid hx'
        clear hx hx'
        subst g1
        go_wp2
        go_roundw
        case rel => exact ⟨i + 1, by omega, by go_num, hok', h6, by rw [pre_skip hlt hl2 HX.out]; exact h8, by rw [sn_no (by rw [HX.out]; decide)]; exact h9, hb⟩
        case measure => simp [intOf]; omega
      · have hne1 : (x == -1) = false := by simpa using g1
        by_cases g2 : x < 0
        · have hVT : VT t.length l t = false := VT_false fun hh => by
            have := (hh.2.2.range i hlt).1
            rw [hx.out] at this; omega
          have HV := Lib.hid hVT
          clear hVT
          go_wp2_with (first | (refine load_arr rfl _ _ rfl _ rfl _ _ _ _ h8 und_slot inf_slot hlp ?_) | (refine store_arr rfl _ _ _ rfl _ rfl _ _ rfl _ _ h6 inf_slot hlp rfl ?_))
          intro w3 h63 hg3
          have hb3 := hb.grown hg3 hb.size (fun q hq => by cases hq; exact z6)
          go_wp2
          exact ret_arr2 rfl rfl _ rfl _ _ 10 _ h63 und_slot inf_slot hlp _ rfl ⟨_, by rw [HV.out]; rfl, hlp, (fun hh => by rw [HV.out] at hh; cases hh), hb3⟩
        by_cases g3 : (l.length : Int) ≤ x
        · have hVT : VT t.length l t = false := VT_false fun hh => by
            have := (hh.2.2.range i hlt).2
            rw [hx.out] at this; omega
          have HV := Lib.hid hVT
          clear hVT
          go_wp2_with (first | (refine load_arr rfl _ _ rfl _ rfl _ _ _ _ h8 und_slot inf_slot hlp ?_) | (refine store_arr rfl _ _ _ rfl _ rfl _ _ rfl _ _ h6 inf_slot hlp rfl ?_))
          intro w3 h63 hg3
          have hb3 := hb.grown hg3 hb.size (fun q hq => by cases hq; exact z6)
          go_wp2
          exact ret_arr2 rfl rfl _ rfl _ _ 10 _ h63 und_slot inf_slot hlp _ rfl ⟨_, by rw [HV.out]; rfl, hlp, (fun hh => by rw [HV.out] at hh; cases hh), hb3⟩
        obtain ⟨o, rfl⟩ := Int.eq_ofNat_of_zero_le (show 0 ≤ x by omega)
        have hol : o < l.length := by omega
        obtain ⟨sb, hsb, hhs⟩ := h9.get (k := o) (by rw [sn_len]; omega)
        have hget := sn_get t (k := o) (by omega) i
        rw [hhs.out] at hget
        have HG := Lib.hid hget
        clear hget hhs
        have d1 : decide ((l.length : Int) ≤ o) = false := by simp; omega
        cases sb with
        | true =>
          have hVT : VT t.length l t = false := VT_false fun hh => by
            obtain ⟨j, hj, e⟩ := HG.out.1 rfl
            exact hh.2.2.once i hlt j hj (by omega) (by rw [e, hx.out])
          have HV := Lib.hid hVT
          clear hVT
          go_wp2_with (first | (refine load_arr rfl _ _ rfl _ rfl _ _ _ _ h8 und_slot inf_slot hlp ?_) | (refine store_arr rfl _ _ _ rfl _ rfl _ _ rfl _ _ h6 inf_slot hlp rfl ?_))
          intro w3 h63 hg3
          have hb3 := hb.grown hg3 hb.size (fun q hq => by cases hq; exact z6)
          go_wp2
          exact ret_arr2 rfl rfl _ rfl _ _ 10 _ h63 und_slot inf_slot hlp _ rfl ⟨_, by rw [HV.out]; rfl, hlp, (fun hh => by rw [HV.out] at hh; cases hh), hb3⟩
        | false =>
          have hok' := hok.succ (by rw [hx.out]; omega) (fun k hk h0 he => by
            have := HG.out.2 ⟨k, hk, by rw [he, hx.out]⟩
            cases this)
          obtain ⟨y, hc8, hy8⟩ := h8.get (k := i) (by omega)
          have hf8 := h8.frozen i
          have hf9 := h9.frozen o
          have h9s := h9.store o true
          have h8a := h8.other (g' := g9) (by omega) o (.bool true)
          have h6a := h6.other (g' := g9) (by omega) o (.bool true)
          have hba := hb.setCell (p := ⟨g9, o, none⟩) (by show w.heap.size ≤ g9; omega) (.bool true)
          have h8s := h8a.store i o
          have hf8b := h8a.frozen i
          have h9b := h9s.other (g' := g8) (by omega) i (.int .i64 o)
          have h6b := h6a.other (g' := g8) (by omega) i (.int .i64 o)
          have hbb2 := hba.setCell (p := ⟨g8, i, none⟩) (by show w.heap.size ≤ g8; omega) (.int .i64 o)
          clear hy8
          go_wp2
          go_roundw
          case rel =>
            refine ⟨i + 1, by omega, by go_num, hok', h6b, ?_, by rw [sn_yes hx.out]; exact h9b, hbb2⟩
            rw [← pre_succ hlt hl2, hx.out]; exact h8s
          case measure => simp [intOf]; omega
    · obtain rfl : i = t.length := by omega
      have hVT : VT t.length l t = true := VT_true hv rfl hok
      have HV := Lib.hid hVT
      clear hVT
      go_wp2_with (first | (refine load_arr rfl _ _ rfl _ rfl _ _ _ _ h8 und_slot inf_slot hlp ?_) | (refine store_arr rfl _ _ _ rfl _ rfl _ _ rfl _ _ h6 inf_slot hlp rfl ?_))
      intro w3 h63 hg3
      have hb3 := hb.grown hg3 hb.size (fun q hq => by cases hq; exact z6)
      go_wp2
      exact ret_arr2 rfl rfl _ rfl _ _ 10 _ h63 und_slot inf_slot hlp _ rfl ⟨_, by rw [HV.out]; rfl, hlp, fun _ => pre_full t, hb3⟩

theorem full_ge {t : List Int} {i : Nat} (h : t.length ≤ i) (hi : i < 10) : (full t).getD i 0 = -1 := by
  simp only [full, List.getD_eq_getElem?_getD, List.getElem?_append, if_neg (by omega : ¬ i < t.length), List.getElem?_replicate]
  rw [if_pos (by omega)]; rfl

set_option maxHeartbeats 2000000 in
theorem readTable_no (m : Int) (a : Option Addr) (l : List Int) (cap : Nat) (a2 : Option Addr) (t : List Int) (cap2 : Nat) (w : World) (hr : Reads w a l) (hn : ¬ (VH m l = true ∧ (t.length : Int) = m)) :
    Calls Try.prog 54 #[.int .i64 m, .slice a l.length cap, .slice a2 t.length cap2] w fun e w' => ∃ T, e = .returned (.tuple #[.agg (arr T), .bool (VT m l t)]) ∧ T.length = 10 ∧ (VT m l t = true → T = full t) ∧ Below w.heap.size w w' := by
  have hVT : VT m l t = false := VT_false fun hh => hn ⟨hh.1, hh.2.1⟩
  have HV := Lib.hid hVT
  have hc : VH m l = false ∨ (VH m l = true ∧ ((t.length : Int) != m) = true) := by
    by_cases hv : VH m l = true
    · exact .inr ⟨hv, by simp; intro e; exact hn ⟨hv, e⟩⟩
    · exact .inl (by simpa using hv)
  clear hVT hn
  have h6 : Arr (w.alloc (.cells (arr (List.replicate 10 0)) 68)) 68 w.heap.size (List.replicate 10 0) := Arr.new _ _ _
  rw [arr_zero10] at h6
  have B0 := (Below.refl w.heap.size w).alloc (Nat.le_refl _) (.cells #[.int .i64 0, .int .i64 0, .int .i64 0, .int .i64 0, .int .i64 0, .int .i64 0, .int .i64 0, .int .i64 0, .int .i64 0, .int .i64 0] 68)
  go_enter Try.func54, Try.ntmps54
  go_wp2_with fail
  refine (freeTable_any _).mono ?_
  rintro e w1 ⟨rfl, hb⟩
  replace h6 := h6.belowAll hb
  have B1 := B0.trans (hb.mono (by simp))
  have z1 := h6.lt
  clear hb B0
  have h8 : Arr (w1.alloc (.cells (arr (List.replicate 10 0)) 68)) 68 w1.heap.size (List.replicate 10 0) := Arr.new _ _ _
  rw [arr_zero10] at h8
  go_wp2_with (refine store_arr rfl _ _ _ rfl _ rfl _ _ rfl _ _ h8 inf_slot rfl rfl ?_)
  intro w2 h82 hg2
  have B2 : Below w.heap.size w w2 := (B1.alloc B1.size _).grown hg2 (by simp; omega) (fun q hq => by cases hq; exact B1.size)
  replace h6 := (h6.alloc _).kept hg2 (by simp; omega)
  have z2 := h82.lt
  obtain ⟨g6, e6⟩ : ∃ g, g = w.heap.size := ⟨_, rfl⟩
  obtain ⟨g8, e8⟩ : ∃ g, g = w1.heap.size := ⟨_, rfl⟩
  rw [← e6] at h6 z1 ⊢
  rw [← e8] at h82 z1 z2 ⊢
  have z6 : w.heap.size ≤ g6 := by omega
  clear h8 hg2 B1 e6 e8
  go_wp2_with fail
  refine (implValidHomes_any _ _ _ _ _ (hr.below B2)).mono ?_
  rintro e w' ⟨rfl, rfl⟩
  rcases hc with hc | ⟨hc, hc2⟩
  all_goals
    go_wp2_with (first | (refine load_arr rfl _ _ rfl _ rfl _ _ _ _ h82 und_slot inf_slot free10_len ?_) | (refine store_arr rfl _ _ _ rfl _ rfl _ _ rfl _ _ h6 inf_slot free10_len rfl ?_))
    intro w3 h63 hg3
    have hb3 := B2.grown hg3 B2.size (fun q hq => by cases hq; exact z6)
    go_wp2
    exact ret_arr2 rfl rfl _ rfl _ _ 10 _ h63 und_slot inf_slot free10_len _ rfl ⟨_, by rw [HV.out]; rfl, free10_len, (fun hh => by rw [HV.out] at hh; cases hh), hb3⟩

theorem readTable_all (m : Int) (a : Option Addr) (l : List Int) (cap : Nat) (a2 : Option Addr) (t : List Int) (cap2 : Nat) (w : World) (hr : Reads w a l) (hr2 : Reads w a2 t) :
    Calls Try.prog 54 #[.int .i64 m, .slice a l.length cap, .slice a2 t.length cap2] w fun e w' => ∃ T, e = .returned (.tuple #[.agg (arr T), .bool (VT m l t)]) ∧ T.length = 10 ∧ (VT m l t = true → T = full t) ∧ Below w.heap.size w w' := by
  by_cases h : VH m l = true ∧ (t.length : Int) = m
  · exact readTable_any m a l cap a2 t cap2 w hr hr2 h.1 h.2
  · exact readTable_no m a l cap a2 t cap2 w hr h

set_option maxHeartbeats 2000000 in
theorem implLooksOf_yes (M : Nat) (a : Option Addr) (l : List Int) (cap : Nat) (a2 : Option Addr) (t : List Int) (cap2 : Nat) (w : World) (hr : Reads w a l) (hr2 : Reads w a2 t) (hv : VT M l t = true) :
    Calls Try.prog 24 #[.int .i64 M, .slice a l.length cap, .slice a2 t.length cap2] w fun e w' => ∃ v, e = .returned v ∧ Own w' w.heap.size v (lks M l t M) ∧ Below w.heap.size w w' := by
  obtain ⟨v1, v2, v3⟩ := VT_iff.1 hv
  have hH := Homes.of_VH (VH_iff.1 v1)
  rw [Int.toNat_natCast] at hH
  have hM := hH.le
  have hM1 := hH.pos
  have hll := hH.len
  obtain rfl : t.length = M := by omega
  obtain ⟨i0, hi, hz0, hz1, hz2⟩ := info_parts infoInt
  clear v2
  go_enter Try.func24, Try.ntmps24
  go_wp2_with fail
  refine (readTable_all _ _ _ _ _ _ _ _ hr hr2).mono ?_
  rintro e w1 ⟨T, rfl, hT, hTf, hb1⟩
  obtain rfl := hTf hv
  clear hTf
  have h7 : Arr (w1.alloc (.cells (arr (List.replicate 10 0)) 68)) 68 w1.heap.size (List.replicate 10 0) := Arr.new _ _ _
  rw [arr_zero10] at h7
  go_wp2_with (refine store_arr rfl _ _ _ rfl _ rfl _ _ rfl _ _ h7 inf_slot hT rfl ?_)
  intro w2 h72 hg2
  have B2 : Below w.heap.size w w2 := (hb1.alloc hb1.size _).grown hg2 (by simp; have := hb1.size; omega) (fun q hq => by cases hq; exact hb1.size)
  have z2 := h72.lt
  have z1 := hb1.size
  clear h7 hg2 hb1
  go_wp2_with (refine wpList_make_full _ rfl _ _ 23 rfl w.heap.size 3 i0 (.int .i64 0) 1 Try.underlying23 hi hz0 hz1 .i64 .i64 _ _ l.length rfl rfl rfl rfl (by rw [hz2]; omega) (by unfold maxLen; omega) B2.size ?_)
  intro w3 hown hgrow
  have B3 : Below w.heap.size w w3 := B2.grown hgrow B2.size (fun k h => by cases h)
  have h73 := h72.kept hgrow (by simp)
  obtain ⟨g, hg⟩ : ∃ g, g = w2.heap.size := ⟨_, rfl⟩
  have hown1 : Tab w3 w.heap.size g l.length l.length (lks t.length l t (min 0 t.length)) := by
    rw [Nat.zero_min, hg]; unfold Tab lks; rw [List.map_replicate, ← toList_madeCells_one]; exact hown
  rw [← hg] at z2 ⊢
  have zg : w.heap.size ≤ g := by rw [hg]; exact B2.size
  clear hown hgrow hi hz0 hz1 hz2 h72 hg B2
  go_wp2_with (refine load_arr rfl _ _ rfl _ rfl _ _ _ _ h73 und_slot inf_slot hT ?_)
  clear h73
  go_wp2
  go_loopw [25] (fun s wr => ∃ i : Nat, i ≤ 10 ∧ s = .int .i64 i ∧ Tab wr w.heap.size g l.length l.length (lks t.length l t (min i t.length)) ∧ Below w.heap.size w wr) (fun s _ => 10 - (intOf s).toNat)
  case atStart => exact ⟨0, Nat.zero_le _, rfl, hown1, B3⟩
  case round =>
    clear hown1 B3
    obtain ⟨i, hi, rfl, hTab, hb⟩ := hrel
    by_cases hlt : i < 10
    · obtain ⟨x, hx⟩ : ∃ x, (full t).getD i 0 = x := ⟨_, rfl⟩
      have hix := index_slot (full t) hT i hlt x hx
      have HX := Lib.hid hx
      clear hx
      by_cases g1 : x = -1
      · have hb1 : (x != -1) = false := by simp [g1]
        have hmin : lks t.length l t (min (i + 1) t.length) = lks t.length l t (min i t.length) := by
          by_cases hit : i < t.length
          · rw [Nat.min_eq_left (by omega), Nat.min_eq_left (by omega)]
            exact lks_no (by rw [← full_get hit, HX.out]; omega)
          · rw [Nat.min_eq_right (by omega), Nat.min_eq_right (by omega)]
        have HMIN := Lib.hid hmin
        clear hmin g1
        go_wp2
        go_roundw
        case rel => exact ⟨i + 1, by omega, by go_num, by rw [HMIN.out]; exact hTab, hb⟩
        case measure => simp [intOf]; omega
      · have hb1 : (x != -1) = true := by simpa using g1
        have hit : i < t.length := by
          apply Classical.byContradiction
          intro hn
          exact g1 (by rw [← HX.out]; exact full_ge (by omega) hlt)
        have hx' : t.getD i 0 = x := by rw [← full_get hit]; exact HX.out
        have hrg := v3.range i hit
        rw [hx'] at hrg
        obtain ⟨o, rfl⟩ := Int.eq_ofNat_of_zero_le (show 0 ≤ x by omega)
        have hol : o < l.length := by omega
        have HX2 := Lib.hid hx'
        clear hrg hx' g1
        obtain ⟨b', off', h0, rfl, hbb', hcell', hh0⟩ := hr.get hol
        have hcell1' : wr.cell? ⟨b', off' + o, none⟩ = some (.int .i64 h0) := (hb.cell (by exact hbb')).trans hcell'
        have f0 := hH.fit o hol
        rw [hh0.out] at f0
        obtain ⟨y, hcell3, hy⟩ := hTab.get hol
        have hfz := hTab.frozen o
        have hofd := offI_bd (m := (t.length : Int)) (h := h0) (p := i) (by omega)
        obtain ⟨A, hA⟩ : ∃ A, offI t.length h0 i = A := ⟨_, rfl⟩
        rw [hA] at hofd
        have HA := Lib.hid hA
        clear hA hcell' hy
        have hst := hTab.store o (A + 1)
        have hbs := hb.setCell (p := ⟨g, o, none⟩) zg (.int .i64 (A + 1))
        go_wp2_with fail
        refine (stepsTo_any _ _ _ (by omega) (by omega) f0.1 f0.2 (by omega) (by omega) _).mono ?_
        rintro e w' ⟨rfl, rfl⟩
        rw [HA.out]
        go_wp2
        go_roundw
        case rel =>
          refine ⟨i + 1, by omega, by go_num, ?_, hbs⟩
          rw [Nat.min_eq_left (by omega), lks_yes HX2.out, hh0.out, HA.out]
          rw [Nat.min_eq_left (by omega)] at hst
          exact hst
        case measure => simp [intOf]; omega
    · obtain rfl : i = 10 := by omega
      rw [Nat.min_eq_right (by omega)] at hTab
      go_wp2
      go_ret
      exact ⟨_, rfl, hTab.own, hb⟩

theorem implLooksOf_any (m : Int) (a : Option Addr) (l : List Int) (cap : Nat) (a2 : Option Addr) (t : List Int) (cap2 : Nat) (w : World) (_hm : In64 m) (hr : Reads w a l) (_hi : ∀ n ∈ l, In64 n) (_hl : l.length ≤ 1048586) (hr2 : Reads w a2 t) (_hi2 : ∀ n ∈ t, In64 n) (_ht : t.length ≤ 1048586) :
    Calls Try.prog 24 #[.int .i64 m, .slice a l.length cap, .slice a2 t.length cap2] w fun e w' => ∃ v, e = .returned v ∧ Own w' w.heap.size v (LK m l t) ∧ Below w.heap.size w w' := by
  by_cases hv : VT m l t = true
  · obtain ⟨M, rfl⟩ := Int.eq_ofNat_of_zero_le (show 0 ≤ m by have := (VH_iff.1 (VT_iff.1 hv).1).1; omega)
    have hF : LK M l t = lks M l t M := by unfold LK; rw [if_pos hv]; rfl
    rw [hF]
    exact implLooksOf_yes M a l cap a2 t cap2 w hr hr2 hv
  · have hv' : VT m l t = false := by simpa using hv
    have hF : LK m l t = [] := by unfold LK; rw [if_neg hv]
    rw [hF]
    clear hF hv
    go_enter Try.func24, Try.ntmps24
    go_wp2_with fail
    refine (readTable_all _ _ _ _ _ _ _ _ hr hr2).mono ?_
    rintro e w1 ⟨T, rfl, hT, _, hb1⟩
    have h7 : Arr (w1.alloc (.cells (arr (List.replicate 10 0)) 68)) 68 w1.heap.size (List.replicate 10 0) := Arr.new _ _ _
    rw [arr_zero10] at h7
    go_wp2_with (refine store_arr rfl _ _ _ rfl _ rfl _ _ rfl _ _ h7 inf_slot hT rfl ?_)
    intro w2 h72 hg2
    have B2 : Below w.heap.size w w2 := (hb1.alloc hb1.size _).grown hg2 (by simp; have := hb1.size; omega) (fun q hq => by cases hq; exact hb1.size)
    go_wp2
    go_ret
    exact ⟨_, rfl, Own.nil _ _, B2⟩

end Go.Proofs.Ytapkalpmnldhpab
