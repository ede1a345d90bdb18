/-
  ShiftsFor's draw.
-/
import Derived.Test.YtapkalpmnldhpaaD7
import Derived.Deep.RegionHeld3
import Derived.Deep.RegionLaw
namespace Go.Proofs.Ytapkalpmnldhpaa
open Go.RowKit

theorem drop_tr7 {ts : List (List Int)} {i : Nat} (h : i < ts.length) : ts.drop i = tr ts i :: ts.drop (i + 1) := by
  rw [List.drop_eq_getElem_cons h, tr_eq h]
/-- 'append(s, y)' of one int, as a step of a region that draws its order. -/
theorem step_int {wr : World} {ops : Array Oper} {o : Oper} {a : Act} {K : Act → World → Prop} {Q : Exit → Act → World → Prop} {E : Prop} (hgd : o.guard = none) (s x : Operand)
    (ho : o.op = .call { callee := .builtin .append, args := #[s, x], argTypes := #[24, 24] })
    (base : Nat) (v : Value) (l : List Int) (y : Int) (hs : a.eval s = v) (hown : Own wr base v l) (H : Nat) (hx : a.eval x = .slice (some ⟨H, 0, none⟩) 1 1) (hH : wr.heap.size = H)
    (hl : l.length < 1000000000000) (hbase : base ≤ wr.heap.size)
    (h : ∀ v' w', Own w' base v' (l ++ [y]) → wr.grownBy w' v.ownBlock → K (a.put o.dst v') w') :
    if Region.wanted o (yielded ops a.tmps) = true then Oper.wp Try.prog o a (wr.alloc (.cells #[.int .i64 y] 3)) K Q else E := by
  subst hH
  obtain ⟨i0, hi, hz0, hz1, hz2⟩ := info_parts infoInt
  refine step_append_lies _ hgd s x 24 ho base 3 i0 (.int .i64 0) 1 8 Try.underlying24 hi hz0 hz1 hz2 rfl (by decide) v l.length (l.map (Value.int .i64)) hs (World.ownsRow.alloc hown _) ⟨wr.heap.size, 0, none⟩ 1 1 [.int .i64 y] hx rfl (cell_one_new _ _ _) (fun u hu => by simp at hu; subst hu; rfl) (by omega) (by unfold maxLen; omega) (by omega) (by simp; omega) (wr.heap.size + 1) (World.size_alloc _ _) fun g cap w' h1 h2 _ _ => h _ w' ?_ ?_
  · unfold Own
    rw [List.length_append, List.map_append]
    exact h1
  · refine ⟨h2.os, h2.tape, h2.output, Nat.le_trans (by simp) h2.size, fun k hk hne => ?_⟩
    rw [h2.block k (by simp; omega) hne]; exact Below.heap_alloc _ _ _ hk

set_option maxHeartbeats 8000000 in
set_option maxRecDepth 20000 in
theorem drawShiftsFor_any (a : Option Addr) (n cap : Nat) (w : World) (hB : Bytes w w.heap.size a n) (hn : n ≤ 9223372036854775807) (hc : n ≤ cap) :
    Calls Try.prog 50 #[.slice a n cap] w fun e w' => ∃ (m : Int) (av : Option Addr) (ts : List (List Int)) (cv : Nat), e = .returned (.tuple #[.int .i64 m, .slice av ts.length cv]) ∧ (-1 ≤ m ∧ m ≤ 11) ∧ ReadsS w' av ts ∧ ts.length ≤ cv ∧ bulk ts ≤ 60 ∧ Below w.heap.size w w' := by
  go_enter Try.func50, Try.ntmps50
  go_wp2_with fail
  refine (newReader_any a n cap w hB hn hc).mono ?_
  rintro e w1 ⟨rfl, hR, hb1, hs1⟩
  have hgw : w.heap.size < w1.heap.size := hR.lt
  clear hB hc hn
  go_wp2_with fail
  refine (slots_any w.heap.size 0 w1 hR (by omega)).mono ?_
  rintro e w2 ⟨m, rfl, hm, hR2, hg2⟩
  have ho := OwnR.lit0' w2 w1.heap.size hg2.size
  have hR3 := hR2.below ((Below.refl w2.heap.size w2).alloc (Nat.le_refl _) (.cells #[] 24))
  have hg3 := grownBy_alloc' hg2 (.cells #[] 24)
  have hz2 : w2.heap.size + 1 = (w2.alloc (.cells #[] 24)).heap.size := by simp
  obtain ⟨w3, e3⟩ : ∃ w3, w3 = w2.alloc (.cells #[] 24) := ⟨_, rfl⟩
  rw [← e3] at ho hR3 hg3 hz2
  have E3 := Lib.hid e3
  have hone := one_lit7 w.heap.size 2 w3 [3, 2, 4, 1, 0, 5] 6 hR3 (by omega) (by simp) (by simp) rfl
  have HONE := Lib.hid hone
  clear e3 hR hR2 hone hR3 hg2
  go_upto_region 4 with fail
  rw [← E3.out]
  go_cut [7] (fun s7 wx => ∃ L : Int, s7 = .int .i64 L ∧ 1 ≤ L ∧ L ≤ 8 ∧ wx = w3)
  case first =>
    go_wp2_with fail
    all_goals go_meet
    all_goals exact ⟨_, rfl, by omega, by omega, rfl⟩
  case rest =>
    obtain ⟨L0, rfl, hL1, hL2, rfl⟩ := hcut
    go_wp2_with fail
    refine HONE.out.mono ?_
    rintro e w4 ⟨nn, rfl, hnn, hR4, hg4⟩
    have hnn2 : 0 ≤ nn ∧ nn ≤ 5 := by simp at hnn; omega
    have ho4 := ho.kept hg4 (fun k hk => by cases hk; exact .inl hgw)
    have hg5 := grownBy_trans hg3 hg4
    have hz4 := hg4.size
    clear hnn hg3 hg4 ho HONE E3 hz2
    obtain ⟨G, hG⟩ : ∃ G, G = w1.heap.size := ⟨_, rfl⟩
    rw [← hG] at ho4
    have hGw : w.heap.size < G := by omega
    have hGi : G ≤ wc.heap.size := by
      have := (World.ownsRow.lt ho4.own _ rfl)
      have := ho4.top _ rfl
      omega
    have HG := Lib.hid hG
    clear hG
    go_wp2_with fail
    go_loopg [6, 7] 6 (fun n v lv wr => ∃ (vs : List Value) (ts : List (List Int)) (q hi : Nat) (L : Int), ts.length + n = 6 ∧ lv = .int .i64 L ∧ (0 ≤ L ∧ L ≤ 8) ∧ OwnR wr G hi v vs ts ∧ (G ≤ hi ∧ hi ≤ wr.heap.size) ∧ bulk ts ≤ 4 * ts.length ∧ Rdr wr w.heap.size q ∧ q ≤ 3 + 5 * ts.length ∧ w1.grownBy wr (some w.heap.size))
    case atStart => exact ⟨[], [], 2 + 1, wc.heap.size, L0, rfl, rfl, by omega, ho4, ⟨hGi, hz4⟩, by simp [bulk], hR4, by simp, hg5⟩
    case round =>
      clear ho4 hR4 hg5 hz4 hGi hL1 hL2
      obtain ⟨vs, ts, q, hi, L, hln, rfl, hL, ho, hhi, hbu, hR, hq, hg⟩ := hrel
      obtain ⟨a6, c6, rfl, hac, _, hrd⟩ := ho.form
      have HLN := Lib.hid hln
      have HBU := Lib.hid hbu
      have hl6 : ts.length ≤ 6 := by omega
      have HRD := Lib.hid hrd
      clear hln hbu hrd
      by_cases hlt : (ts.length : Int) < nn
      · have hoA := ho.alloc (.cells #[] 3)
        have hlA := Own.lit0 wr wr.heap.size (Nat.le_refl _)
        have hRA := hR.below ((Below.refl wr.heap.size wr).alloc (Nat.le_refl _) (.cells #[] 3))
        have hgA := grownBy_alloc' hg (.cells #[] 3)
        obtain ⟨z, hz⟩ : ∃ z, z = wr.heap.size := ⟨_, rfl⟩
        have hzz : z + 1 = (wr.alloc (.cells #[] 3)).heap.size := by rw [hz]; simp
        obtain ⟨wA, eA⟩ : ∃ wA, wA = wr.alloc (.cells #[] 3) := ⟨_, rfl⟩
        rw [← eA] at hoA hlA hRA hgA hzz
        rw [← hz] at hlA hhi
        have EA := Lib.hid eA
        have HZ := Lib.hid hz
        have hgz : w.heap.size < z := by omega
        clear eA hz ho hR hg
        go_upto_region 8 with fail
        rw [← EA.out, ← HZ.out]
        go_cut [10] (fun s10 wx => ∃ (kk : Int), s10 = .int .i64 kk ∧ 0 ≤ kk ∧ kk ≤ L ∧ kk ≤ 3 ∧ Own wx z (.slice (some ⟨z, 0, none⟩) 0 0) [] ∧ OwnR wx G hi (.slice a6 ts.length c6) vs ts ∧ Rdr wx w.heap.size (q + 1) ∧ z ≤ wx.heap.size ∧ w1.grownBy wx (some w.heap.size))
        case first =>
          by_cases h3 : L ≤ 3
          · have hw : IntKind.i64.wrap (L + 1) = L + 1 := IntWalk.i64_in _ (by omega)
            go_wp2_with fail
            refine (pick_any w.heap.size q (L + 1) wA hRA (by omega) (by omega)).mono ?_
            rintro e wB ⟨y, rfl, hy, hRB, hgB⟩
            have hy2 := hy.1 (by omega)
            have hlB := hlA.kept hgB (hlA.ne_g hgz)
            have hoB := hoA.kept hgB (fun k hk => by cases hk; exact .inl hGw)
            have hgB2 := grownBy_trans hgA hgB
            go_wp2_with fail
            go_meet
            exact ⟨y, rfl, by omega, by omega, by omega, hlB, hoB, hRB, by have := hgB.size; omega, hgB2⟩
          · have h4 : 3 < L := by omega
            go_wp2_with fail
            refine (pick_any w.heap.size q 4 wA hRA (by omega) (by omega)).mono ?_
            rintro e wB ⟨y, rfl, hy, hRB, hgB⟩
            have hy2 := hy.1 (by omega)
            have hlB := hlA.kept hgB (hlA.ne_g hgz)
            have hoB := hoA.kept hgB (fun k hk => by cases hk; exact .inl hGw)
            have hgB2 := grownBy_trans hgA hgB
            go_wp2_with fail
            go_meet
            exact ⟨y, rfl, by omega, by omega, by omega, hlB, hoB, hRB, by have := hgB.size; omega, hgB2⟩
        case rest =>
          clear hoA hlA hRA hgA hzz EA HZ
          obtain ⟨k0, rfl, hk0, hk1, hk2, hlB, hoB, hRB, hzB, hgB⟩ := hcut
          obtain ⟨gko, hgko⟩ : ∃ y, y = gk := ⟨_, rfl⟩
          rw [← hgko] at HLN
          have hgk1 : 1 ≤ gk := by have := HLN.out; omega
          have HGK := Lib.hid hgko
          clear hgko
          go_wp2_with fail
          go_loopw [7, 9, 10] (fun s7 s9 s10 wk => ∃ (L kk : Int) (l : List Int) (q' : Nat), s7 = .int .i64 L ∧ s10 = .int .i64 kk ∧ 0 ≤ kk ∧ kk ≤ L ∧ L ≤ 8 ∧ (l.length : Int) + kk ≤ 3 ∧ Own wk z s9 l ∧ OwnR wk G hi (.slice a6 ts.length c6) vs ts ∧ Rdr wk w.heap.size q' ∧ q' ≤ q + 1 + l.length ∧ z ≤ wk.heap.size ∧ w1.grownBy wk (some w.heap.size)) (fun _ _ s10 _ => (intOf s10).toNat)
          case atStart => exact ⟨L, k0, [], q + 1, rfl, rfl, hk0, hk1, by omega, by simp; omega, hlB, hoB, hRB, by simp, hzB, hgB⟩
          case round =>
            clear hlB hoB hRB hgB hk0 hk1 hk2
            obtain ⟨L', kk, l, q', rfl, rfl, hkk0, hkL, hL8, hlk, hl, ho, hR, hq', hzk, hg⟩ := hrel
            have hl3 : l.length ≤ 3 := by omega
            obtain ⟨al, cl, rfl, _, _, _, _⟩ := hl.form
            have hLK := Lib.hid hlk
            clear hlk
            by_cases hpos : 0 < kk
            · go_wp2_with fail
              refine (pick_any w.heap.size q' m _ hR (by omega) (by omega)).mono ?_
              rintro e wa ⟨y, rfl, _, hRa, hga⟩
              replace hl := hl.kept hga (hl.ne_g hgz)
              replace ho := ho.kept hga (fun k hk => by cases hk; exact .inl hGw)
              replace hg := grownBy_trans hg hga
              have hza := hga.size
              have hzA : z ≤ wa.heap.size := by omega
              clear hga hR
              go_wp2_with (at_builtin; refine push_int rfl (.tmp 36) (.tmp 40) rfl z (.slice al l.length cl) l y rfl hl rfl (by omega) hzA ?_)
              intro v' wf hlf hnn hgf
              have hof := ho.kept hgf (fun k hk => .inr (Nat.le_trans hhi.2 (hl.lt k hk).1))
              have hRf := hRa.kept hgf (fun k hk => Nat.lt_of_lt_of_le hgz (hl.lt k hk).1)
              have hgf2 := grownBy_own hg hl (by have := HG.out; omega) hgf
              have hzf := hgf.size
              have hw1 : IntKind.i64.wrap (L' - 1) = L' - 1 := IntWalk.i64_in _ (by omega)
              have hw2 : IntKind.i64.wrap (kk - 1) = kk - 1 := IntWalk.i64_in _ (by omega)
              have hll : ((l ++ [y]).length : Int) + (kk - 1) ≤ 3 := by have := hLK.out; simp; omega
              have hql : q' + 1 ≤ q + 1 + (l ++ [y]).length := by simp; omega
              have HLL := Lib.hid hll
              have HQL := Lib.hid hql
              clear hl ho hRa hg hgf hll hql
              go_wp2
              go_roundw
              case rel => exact ⟨L' - 1, kk - 1, l ++ [y], q' + 1, rfl, rfl, by omega, by omega, by omega, HLL.out, hlf, hof, hRf, HQL.out, by omega, hgf2⟩
              case measure => simp [intOf]; omega
            · have hlm := hl.mono hhi.2
              have hhk : hi ≤ wr.heap.size := by omega
              have HLM := Lib.hid hlm
              clear hlm
              go_wp2_with (at_builtin; refine push_rowR rfl (.tmp 44) (.tmp 46) rfl G hi (.slice a6 ts.length c6) vs ts l (.slice al l.length cl) rfl ho HLM.out rfl (by omega) hhi.1 hhk ?_)
              intro v' wf hof hgf
              have hRf := hR.kept hgf (fun k hk => Nat.lt_of_lt_of_le hGw (World.ownsRow.lt ho.own k hk).1)
              have hgf2 := grownBy_ownR hg ho (by rw [HG.out]; exact Nat.le_refl _) hgf
              have hsf := hgf2.size
              have hb2 : bulk (ts ++ [l]) ≤ 4 * (ts ++ [l]).length := by have := HBU.out; rw [bulk_snoc]; simp; omega
              have hm2 : (ts ++ [l]).length + (gk - 1) = 6 := by have := HLN.out; have := HGK.out; simp; omega
              have hq2 : q' ≤ 3 + 5 * (ts ++ [l]).length := by simp; omega
              have HB2 := Lib.hid hb2
              have HM2 := Lib.hid hm2
              have HQ2 := Lib.hid hq2
              have hGf : G ≤ wf.heap.size := by rw [HG.out]; exact hsf
              clear hl ho hR hg hgf hb2 hm2 hq2
              go_wp2
              go_roundg (gk - 1)
              case measure => omega
              case rel => exact ⟨_, ts ++ [l], q', wf.heap.size, L', HM2.out, rfl, by omega, hof, ⟨hGf, Nat.le_refl _⟩, HB2.out, hRf, HQ2.out, hgf2⟩
      · have hBw := hb1.grown hg hb1.size (fun k hk => by cases hk; exact Nat.le_refl _)
        by_cases h0 : ts.length = 0
        · obtain rfl : ts = [] := List.eq_nil_of_length_eq_zero h0
          have hd2 : decide (0 < nn) = false := by simp at hlt; simp; omega
          clear h0
          go_wp2
          go_ret2
          exact ⟨m, a6, [], c6, rfl, hm, HRD.out, hac, by have := HBU.out; omega, hBw⟩
        · have hpos : (0 : Int) < (ts.length : Int) := by omega
          go_wp2_with fail
          refine (pick_any w.heap.size q 30 _ hR (by omega) (by omega)).mono ?_
          rintro e wa ⟨y, rfl, _, hRa, hga⟩
          replace ho := ho.kept hga (fun k hk => by cases hk; exact .inl hGw)
          replace hg := grownBy_trans hg hga
          have hBa := hb1.grown hg hb1.size (fun k hk => by cases hk; exact Nat.le_refl _)
          obtain ⟨a7, c7, e7, _, _, hrd7⟩ := ho.form
          cases e7
          have HRD7 := Lib.hid hrd7
          clear hga hR hBw HRD hrd7
          by_cases hy : y = 0
          · subst hy
            obtain ⟨x0, hx0, hO0, ht0⟩ := ho.row 0 (by omega)
            obtain ⟨A0, C0, rfl, _, _, _, hA0⟩ := hO0.form
            obtain ⟨g6, rfl⟩ : ∃ g6, a6 = some ⟨g6, 0, none⟩ := by
              rcases ho.own.2 with ⟨_, h⟩ | ⟨g6, c, cur, e, _⟩
              · exact absurd h h0
              · exact ⟨g6, by injection e⟩
            have hc6 : wa.cell? ⟨g6, 0, none⟩ = some (.slice A0 (tr ts 0).length C0) := by
              rw [World.ownsRow.cellAt ho.own 0 (by omega)]; exact hx0
            have hrl : (tr ts 0).length ≤ 60 := by
              have := bulk_row (show 0 < ts.length by omega)
              have := HBU.out
              omega
            have hg6 : g6 ≠ w.heap.size ∧ g6 < wa.heap.size := by
              have := (World.ownsRow.lt ho.own g6 rfl)
              omega
            have hty : some g6 ≠ (Value.slice A0 (tr ts 0).length C0).ownBlock := by
              rcases rows_ne ho.own hO0 with h | h
              · cases h
              · exact h
            have hf6 : wa.frozen? ⟨g6, 0, none⟩ = false := World.ownsRow.frozenAt ho.own 0
            have hn6 := World.new_ne wa _ hc6
            have hc6a : (wa.alloc (.cells #[.int .i64 (-1), .int .i64 m] 3)).cell? ⟨g6, 0, none⟩ = some (.slice A0 (tr ts 0).length C0) := (World.cell?_alloc_lt _ _ _ (World.block_lt_of_cell? wa _ hc6)).trans hc6
            have hone : Calls Try.prog 75 #[.pointer (some ⟨w.heap.size, 0, none⟩), .slice (some ⟨wa.heap.size, 0, none⟩) 2 2] (wa.alloc (.cells #[.int .i64 (-1), .int .i64 m] 3)).drew fun e w' => ∃ y1, e = .returned (.int .i64 y1) ∧ Hid (wa.grownBy w' (some w.heap.size)) ∧ w'.cell? ⟨g6, 0, none⟩ = some (.slice A0 (tr ts 0).length C0) ∧ w'.frozen? ⟨g6, 0, none⟩ = false ∧ Hid (Own w' G (.slice A0 (tr ts 0).length C0) (tr ts 0)) := by
              refine (one_lit7 w.heap.size (q + 1) wa.drew [-1, m] 2 (hRa.of_block fun _ _ => rfl) (by omega) (by simp) (by simp) rfl).mono ?_
              rintro e w' ⟨y1, rfl, _, _, hgd⟩
              have hgw' : wa.grownBy w' (some w.heap.size) := ⟨hgd.os, hgd.tape, hgd.output, hgd.size, hgd.block⟩
              exact ⟨y1, rfl, hgw', (World.grownBy.cell_far hgw' ⟨g6, 0, none⟩ hg6.2 (by simp; exact hg6.1)).trans hc6, (World.grownBy.frozen_far hgw' ⟨g6, 0, none⟩ hg6.2 (by simp; exact hg6.1)).trans hf6, hO0.kept hgw' (hO0.ne_g hGw)⟩
            have HONE := Lib.hid hone
            have HO := Lib.hid ho
            have HTY := Lib.hid hty
            have HX := Lib.hid hx0
            have HLT0 := Lib.hid hO0.lt
            have hgg : w.heap.size < g6 := by
              have := (World.ownsRow.lt ho.own g6 rfl)
              omega
            clear hone ho hO0 hx0 ht0 hRa hty
            go_upto_region 15 with fail
            go_region_law (first | (refine step_int rfl (.tmp 59) (.tmp 64) rfl G (.slice A0 (tr ts 0).length C0) (tr ts 0) y1 rfl hO5.out _ rfl rfl (by omega) (by have := hg5.out.size; have := hg.size; have := HG.out; omega) ?_; intro v' w6 ho6 hg6'; have c7 : w6.cell? ⟨g6, 0, none⟩ = some (.slice A0 (tr ts 0).length C0) := ((World.grownBy.cell_far hg6' ⟨g6, 0, none⟩ (by have := hg5.out.size; exact Nat.lt_of_lt_of_le hg6.2 this) HTY.out).trans c5); have f7 : w6.frozen? ⟨g6, 0, none⟩ = false := ((World.grownBy.frozen_far hg6' ⟨g6, 0, none⟩ (by have := hg5.out.size; exact Nat.lt_of_lt_of_le hg6.2 this) HTY.out).trans f5); obtain ⟨a8, c8, rfl, hrd8, hlc8, _, _⟩ := ho6.form) | (go_simp; go_at_call 75; refine HONE.out.mono ?_; rintro e w5 ⟨y1, rfl, hg5, c5, f5, hO5⟩; have n5 := World.new_ne w5 _ c5; have c5a : (w5.alloc (.cells #[.int .i64 y1] 3)).cell? ⟨g6, 0, none⟩ = some (.slice A0 (tr ts 0).length C0) := (World.cell?_alloc_lt _ _ _ (World.block_lt_of_cell? w5 _ c5)).trans c5; try dsimp only))
            all_goals
              have hrows := set_row0 (y := y1) HO.out (by omega) HX.out hg5.out hGw hg6' ho6
              have hbul : bulk ((tr ts 0 ++ [y1]) :: ts.drop 1) ≤ 60 := by
                have := HBU.out
                have h5 : ts = tr ts 0 :: ts.drop 1 := by
                  have := drop_tr7 (i := 0) (show 0 < ts.length by omega)
                  simpa using this
                rw [h5] at this
                unfold bulk at this ⊢
                simp at this ⊢
                omega
              have hlen2 : ((tr ts 0 ++ [y1]) :: ts.drop 1).length = ts.length := by simp; omega
              have hB5 := hBa.grown hg5.out hBa.size (fun k hk => by cases hk; exact Nat.le_refl _)
              have hBx : Below w.heap.size w w6 := hB5.grown hg6' hB5.size (fun k hk => by have := (HLT0.out k hk).1; omega)
              have hBy := hBx.setCell (p := ⟨g6, 0, none⟩) (by show w.heap.size ≤ g6; exact Nat.le_of_lt hgg) (.slice a8 (tr ts 0 ++ [y1]).length c8)
              have hl1 : (tr ts 0 ++ [y1]).length = (tr ts 0).length + 1 := by simp
              rw [hl1] at hrows hBy
              have HRW := Lib.hid hrows
              have HBL := Lib.hid hbul
              have HLE := Lib.hid hlen2
              clear hrows hbul hlen2 c5 c7 ho6 hrd8 hl1
              go_wp2
              go_ret2
              refine ⟨m, some ⟨g6, 0, none⟩, (tr ts 0 ++ [y1]) :: ts.drop 1, c6, ?_, hm, HRW.out, by rw [HLE.out]; exact hac, HBL.out, hBy⟩
              rw [HLE.out]
              rfl
          · have hy1 : (y == 0) = false := by simpa using hy
            go_wp2
            go_ret2
            exact ⟨m, a6, ts, c6, rfl, hm, HRD7.out, hac, by have := HBU.out; omega, hBa⟩
end Go.Proofs.Ytapkalpmnldhpaa
