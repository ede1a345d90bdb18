/-
  impl.TakeOut.
-/
import Derived.Test.YtapkalpmnldhpabI5
namespace Go.Proofs.Ytapkalpmnldhpab
open Go.RowKit

theorem guard_slot : Try.prog.eqGuardType Try.prog.depth 68 = false := by kernel_rfl
theorem eqs_slot (A B : List Int) (hA : A.length = 10) (hB : B.length = 10) (w : World) : (Op.equalIn 10000 68 (.agg (arr A)) (.agg (arr B))).run Try.prog w = .ok (decide (A = B)) w :=
  run_equalIn_arr w 9998 _ 3 10 .i64 A B hA hB und_slot Try.underlying3 size_int2 agg_int
theorem full_inj {t t' : List Int} (hl : t.length = t'.length) (h : full t = full t') : t = t' := (List.append_inj h hl).1

set_option maxRecDepth 100000 in
set_option maxHeartbeats 4000000 in
theorem implTakeOut_yes (M : Nat) (a : Option Addr) (l : List Int) (cap : Nat) (a2 : Option Addr) (t : List Int) (cap2 : Nat) (key : Int) (w : World) (hr : Reads w a l) (hr2 : Reads w a2 t) (hF : FD M l t = true) (hk0 : 0 ≤ key) :
    Calls Try.prog 29 #[.int .i64 M, .slice a l.length cap, .slice a2 t.length cap2, .int .i64 key] w fun e w' => ∃ v, e = .returned (.tuple #[v, .bool (TO M l t key).2]) ∧ Own w' w.heap.size v (TO M l t key).1 ∧ Below w.heap.size w w' := by
  have hV := (FD_iff.1 hF).1
  obtain ⟨v1, v2, v3⟩ := VT_iff.1 hV
  have hH := Homes.of_VH (VH_iff.1 v1)
  rw [Int.toNat_natCast] at hH
  have hM := hH.le
  have hM1 := hH.pos
  have hll := hH.len
  obtain rfl : t.length = M := by omega
  have d0 : decide (key < 0) = false := by simp; omega
  have hgd := guard_slot
  clear v2
  go_enter Try.func29, Try.ntmps29
  go_wp2_with fail
  refine (readTable_all _ _ _ _ _ _ _ _ hr hr2).mono ?_
  rintro e w1 ⟨T, rfl, hT, hTf, hb1⟩
  obtain rfl := hTf hV
  clear hTf
  have h7 : Arr (w1.alloc (.cells (arr (List.replicate 10 0)) 68)) 68 w1.heap.size (List.replicate 10 0) := Arr.new _ _ _
  rw [arr_zero10] at h7
  go_wp2_with (refine store_arr rfl _ _ _ rfl _ rfl _ _ rfl _ _ h7 inf_slot hT rfl ?_)
  intro w2 h72 hg2
  have B2 : Below w.heap.size w w2 := (hb1.alloc hb1.size _).grown hg2 (by simp; have := hb1.size; omega) (fun q hq => by cases hq; exact hb1.size)
  have z2 := h72.lt
  have z1 := hb1.size
  obtain ⟨g, hg⟩ : ∃ g, g = w1.heap.size := ⟨_, rfl⟩
  rw [← hg] at h72 z1 z2 ⊢
  clear hg2 h7 hb1 hg
  have hrr := hr.below B2
  go_wp2_with (refine load_arr_g rfl _ _ rfl _ rfl _ _ _ _ h72 und_slot inf_slot hT ?_)
  go_wp2_with fail
  refine (isReached_any t.length a l _ t _ hrr hV).mono ?_
  rintro e w3 ⟨rfl, hb3⟩
  have h73 := h72.belowAll hb3
  have B3 := B2.trans (hb3.mono B2.size)
  have hsl := slice_slot g t.length hM
  have hrt : Reads w3 (some ⟨g, 0, none⟩) t := by
    refine .inr ⟨g, 0, rfl, h73.lt, fun i hi => ?_⟩
    obtain ⟨x, e1, e2⟩ := h73.get (k := i) (by rw [hT]; omega)
    rw [Nat.zero_add, e1, ← e2.out, full_get hi]
  clear h72 hb3 B2 hrr
  go_wp2_with fail
  refine (index_any _ t t.length 10 key _ hrt rfl (by omega) _ v3 hk0).mono ?_
  rintro e w' ⟨rfl, rfl⟩
  cases hp : posn t key with
  | none =>
    have HTO := Lib.hid (TO_none ⟨hF, hk0⟩ hp)
    rw [idx_none hp]
    clear hp
    go_wp2
    go_ret2
    rw [HTO.out]
    exact ⟨_, rfl, Own.nil _ _, B3⟩
  | some j =>
    obtain ⟨hj, he⟩ := posn_some hp
    have hto := TO_some ⟨hF, hk0⟩ hp
    rw [Int.toNat_natCast] at hto
    rw [idx_some hp]
    obtain ⟨R, hR⟩ : ∃ R, R = TK t.length l (t.set j (-1)) j 1 := ⟨_, rfl⟩
    rw [← hR] at hto
    have HTO := Lib.hid hto
    have hH0 := hole_first (l := l) rfl v3 hj
    have HR := Lib.hid hR
    obtain ⟨y, hcy, hyy⟩ := h73.get (k := j) (by rw [hT]; omega)
    have hfz := h73.frozen j
    have hst := h73.store j (-1)
    rw [full_set hj] at hst
    have hbs := B3.setCell (p := ⟨g, j, none⟩) z1 (.int .i64 (-1))
    clear hto hR hp he hyy h73 hrt
    go_wp2
    go_loopg [12] (phi t.length l (t.set j (-1)) t.length) (fun gn s wr => ∃ T : List Int, ∃ hole : Nat, s = .int .i64 hole ∧ Hole t.length l T hole ∧ Arr wr 68 g (full T) ∧ Hid (R = TK t.length l T hole 1) ∧ Below w.heap.size w wr ∧ phi t.length l T t.length ≤ gn)
    case atStart => exact ⟨_, j, rfl, hH0, hst, HR, hbs, Nat.le_refl _⟩
    case round =>
      clear hst hbs hH0 HR hcy hfz B3
      obtain ⟨T, hole, rfl, hHo, h10, hRR, hb, hphi⟩ := hrel
      have hTl : (full T).length = 10 := full_len (by rw [hHo.len]; exact hM)
      have hrr := hr.below hb
      have zg := h10.lt
      go_wp2_with (refine load_arr rfl _ _ rfl _ rfl _ _ _ _ h10 und_slot inf_slot hTl ?_)
      go_wp2_with fail
      refine (fillGap_any t.length a l _ T hole _ hrr hH hHo).mono ?_
      rintro e w4 ⟨T', g', rfl, hfill, hb4⟩
      replace h10 := h10.belowAll hb4
      have B4 := hb.trans (hb4.mono hb.size)
      have hT'l : (full T').length = 10 := by
        rcases hfill with ⟨e, _, _⟩ | ⟨hh, _⟩
        · rw [e]; exact hTl
        · exact full_len (by rw [hh.len]; exact hM)
      have h13 : Arr (w4.alloc (.cells (arr (List.replicate 10 0)) 68)) 68 w4.heap.size (List.replicate 10 0) := Arr.new _ _ _
      rw [arr_zero10] at h13
      have HFI := Lib.hid hfill
      clear hfill hb4 hb
      go_wp2_with (refine store_arr rfl _ _ _ rfl _ rfl _ _ rfl _ _ h13 inf_slot hT'l rfl ?_)
      intro w5 h135 g5
      have z4 := h10.lt
      replace h10 := (h10.alloc _).kept g5 (by simp; omega)
      have B5 : Below w.heap.size w w5 := (B4.alloc B4.size _).grown g5 (by simp; have := B4.size; omega) (fun q hq => by cases hq; exact B4.size)
      obtain ⟨c, hc⟩ : ∃ c, c = w4.heap.size := ⟨_, rfl⟩
      rw [← hc] at h135 z4 ⊢
      clear g5 h13 B4 hc
      have heq := eqs_slot (full T') (full T) hT'l hTl w5
      rcases HFI.out with ⟨e1, e2, e3⟩ | ⟨hh1, hh2, hh3, hh4⟩
      · subst e1
        have hd : decide (full T' = full T') = true := by simp
        rw [hd] at heq
        have hRT : R = T' := by rw [hRR.out]; exact e3
        have HRT := Lib.hid hRT
        have hTM : T'.length = t.length := hHo.len
        have HTM := Lib.hid hTM
        clear hRT hd hTM e2 e3
        go_wp2_with (first | (refine load_arr rfl _ (.tmp 13) rfl _ rfl _ _ _ _ h135 und_slot inf_slot hT'l ?_) | (refine load_arr rfl _ (.tmp 10) rfl _ rfl _ _ _ _ h10 und_slot inf_slot hTl ?_))
        refine (list_any t.length T' _ hM HTM.out).mono ?_
        rintro e w6 ⟨v, rfl, ho, hb6, _⟩
        go_wp2
        go_ret2
        rw [HTO.out, HRT.out]
        exact ⟨_, rfl, ho.mono B5.size, B5.trans (hb6.mono B5.size)⟩
      · have hd : decide (full T' = full T) = false := by
          rw [decide_eq_false_iff_not]
          intro e
          exact hh2 (full_inj (by rw [hh1.len, hHo.len]) e)
        rw [hd] at heq
        have HH3 := Lib.hid hh3
        clear hd hh2 hh3
        go_wp2_with (first | (refine load_arr rfl _ (.tmp 13) rfl _ rfl _ _ _ _ h135 und_slot inf_slot hT'l ?_) | (refine load_arr rfl _ (.tmp 10) rfl _ rfl _ _ _ _ h10 und_slot inf_slot hTl ?_) | (refine store_arr rfl _ (.tmp 10) _ rfl _ rfl _ _ rfl _ _ h10 inf_slot hT'l hTl ?_))
        intro w6 h106 g6
        have B6 := B5.grown g6 B5.size (fun q hq => by cases hq; exact z1)
        go_wp2
        go_roundg (gk - 1)
        case measure => omega
        case rel => exact ⟨T', g', rfl, hh1, h106, by unfold Hid; rw [hRR.out]; exact HH3.out, B6, by omega⟩

set_option maxHeartbeats 2000000 in
theorem implTakeOut_any (m : Int) (a : Option Addr) (l : List Int) (cap : Nat) (a2 : Option Addr) (t : List Int) (cap2 : Nat) (key : Int) (w : World) (_hm : In64 m) (hr : Reads w a l) (_hi : ∀ n ∈ l, In64 n) (_hl : l.length ≤ 1048586) (hr2 : Reads w a2 t) (_hi2 : ∀ n ∈ t, In64 n) (_ht : t.length ≤ 1048586) (_hk : In64 key) :
    Calls Try.prog 29 #[.int .i64 m, .slice a l.length cap, .slice a2 t.length cap2, .int .i64 key] w fun e w' => ∃ v, e = .returned (.tuple #[v, .bool (TO m l t key).2]) ∧ Own w' w.heap.size v (TO m l t key).1 ∧ Below w.heap.size w w' := by
  by_cases hV : VT m l t = true
  · by_cases hk : 0 ≤ key
    · obtain ⟨M, rfl⟩ := Int.eq_ofNat_of_zero_le (show 0 ≤ m by have := (VH_iff.1 (VT_iff.1 hV).1).1; omega)
      by_cases hF : FD M l t = true
      · exact implTakeOut_yes M a l cap a2 t cap2 key w hr hr2 hF hk
      · rw [TO_no (fun h => hF h.1)]
        have hF' : FD M l t = false := by simpa using hF
        have d0 : decide (key < 0) = false := by simp; omega
        clear hF
        go_enter Try.func29, Try.ntmps29
        go_wp2_with fail
        refine (readTable_all _ _ _ _ _ _ _ _ hr hr2).mono ?_
        rintro e w1 ⟨T, rfl, hT, hTf, hb1⟩
        obtain rfl := hTf hV
        clear hTf
        have h7 : Arr (w1.alloc (.cells (arr (List.replicate 10 0)) 68)) 68 w1.heap.size (List.replicate 10 0) := Arr.new _ _ _
        rw [arr_zero10] at h7
        go_wp2_with (refine store_arr rfl _ _ _ rfl _ rfl _ _ rfl _ _ h7 inf_slot hT rfl ?_)
        intro w2 h72 hg2
        have B2 : Below w.heap.size w w2 := (hb1.alloc hb1.size _).grown hg2 (by simp; have := hb1.size; omega) (fun q hq => by cases hq; exact hb1.size)
        have hrr := hr.below B2
        go_wp2_with (refine load_arr_g rfl _ _ rfl _ rfl _ _ _ _ h72 und_slot inf_slot hT ?_)
        go_wp2_with fail
        refine (isReached_any M a l _ t _ hrr hV).mono ?_
        rintro e w3 ⟨rfl, hb3⟩
        go_wp2
        go_ret2
        exact ⟨_, rfl, Own.nil _ _, B2.trans (hb3.mono B2.size)⟩
    · rw [TO_no (fun h => hk h.2)]
      have d0 : decide (key < 0) = true := by simp; omega
      go_enter Try.func29, Try.ntmps29
      go_wp2_with fail
      refine (readTable_all _ _ _ _ _ _ _ _ hr hr2).mono ?_
      rintro e w1 ⟨T, rfl, hT, hTf, hb1⟩
      obtain rfl := hTf hV
      clear hTf
      have h7 : Arr (w1.alloc (.cells (arr (List.replicate 10 0)) 68)) 68 w1.heap.size (List.replicate 10 0) := Arr.new _ _ _
      rw [arr_zero10] at h7
      go_wp2_with (refine store_arr rfl _ _ _ rfl _ rfl _ _ rfl _ _ h7 inf_slot hT rfl ?_)
      intro w2 h72 hg2
      have B2 : Below w.heap.size w w2 := (hb1.alloc hb1.size _).grown hg2 (by simp; have := hb1.size; omega) (fun q hq => by cases hq; exact hb1.size)
      go_wp2
      go_ret2
      exact ⟨_, rfl, Own.nil _ _, B2⟩
  · rw [TO_no (fun h => hV (FD_iff.1 h.1).1)]
    have hV' : VT m l t = false := by simpa using hV
    clear hV
    go_enter Try.func29, Try.ntmps29
    go_wp2_with fail
    refine (readTable_all _ _ _ _ _ _ _ _ hr hr2).mono ?_
    rintro e w1 ⟨T, rfl, hT, hTf, hb1⟩
    have h7 : Arr (w1.alloc (.cells (arr (List.replicate 10 0)) 68)) 68 w1.heap.size (List.replicate 10 0) := Arr.new _ _ _
    rw [arr_zero10] at h7
    go_wp2_with (refine store_arr rfl _ _ _ rfl _ rfl _ _ rfl _ _ h7 inf_slot hT rfl ?_)
    intro w2 h72 hg2
    have B2 : Below w.heap.size w w2 := (hb1.alloc hb1.size _).grown hg2 (by simp; have := hb1.size; omega) (fun q hq => by cases hq; exact hb1.size)
    go_wp2
    go_ret2
    exact ⟨_, rfl, Own.nil _ _, B2⟩
end Go.Proofs.Ytapkalpmnldhpab
