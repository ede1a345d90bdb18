/-
  spec.DrawGuessOf.
-/
import Derived.Test.YtjkcahmbocjacaaDG
import Derived.Test.YtjkcahmbocjacaaECountKeys
import Derived.Deep.RegionLaw
namespace Go.Proofs.Ytjkcahmbocjacaa
open Go.RowKit

theorem Rdr.setD {w : World} {g p : Nat} (h : Rdr w g p) {g' : Nat} (hg : g < g') (k : Nat) (v : Value) : Rdr (w.setCell ⟨g', k, none⟩ v) g p :=
  h.of_block fun i hi => heap_setCell_other w ⟨g', k, none⟩ i v (by show i ≠ g'; omega)
theorem OwnT.readsAt {w : World} {base : Nat} {a : Option Addr} {n cap : Nat} {ts : List (List Int)} (h : OwnT w base (.slice a n cap) ts) : ReadsS w a ts := by
  obtain ⟨a8, c8, e8, _, _, r8⟩ := h.form
  cases e8; exact r8
/-- One cell of a row is turned: what stands there are rows as long as before. -/
theorem rows_set {w : World} {base : Nat} {v : Value} {G n : Nat} {ts : List (List Int)} (h : OwnT w base v ts) (hG : ∃ base' l, Tab w base' G n n l) (y : Int) :
    ∃ ts', ts'.length = ts.length ∧ bulk ts' = bulk ts ∧ OwnT (w.setCell ⟨G, 0, none⟩ (.int .i64 y)) base v ts' := by
  obtain ⟨base', l, hTG⟩ := hG
  have hne := h.ne_row hTG
  obtain ⟨vs, h1, h2⟩ := h
  have hg : w.grownBy (w.setCell ⟨G, 0, none⟩ (.int .i64 y)) (some G) := ⟨rfl, rfl, rfl, by simp, fun i _ hn => heap_setCell_other w ⟨G, 0, none⟩ i _ (fun e => hn (by rw [e]))⟩
  have hch : ∀ r, r < ts.length → ∃ q : Nat × List Int, vs[r]? = some (.slice (some ⟨q.1, 0, none⟩) (tr ts r).length (tr ts r).length) ∧ q.2.length = (tr ts r).length ∧ Tab (w.setCell ⟨G, 0, none⟩ (.int .i64 y)) base q.1 (tr ts r).length (tr ts r).length q.2 := by
    intro r hr
    obtain ⟨Gr, h3, h4⟩ := h2 r hr
    by_cases e : Gr = G
    · subst e
      exact ⟨(Gr, (tr ts r).set 0 y), h3, by simp, h4.store 0 y⟩
    · exact ⟨(Gr, tr ts r), h3, rfl, h4.other e 0 _⟩
  obtain ⟨q, hq⟩ := Deep.choose_lt hch
  refine ⟨(List.range ts.length).map fun r => (q r).2, by simp, ?_, vs, ?_, fun r hr => ?_⟩
  · have e : ((List.range ts.length).map fun r => (q r).2).map List.length = ts.map List.length := by
      apply List.ext_getElem
      · simp
      · intro i i1 i2
        have hi : i < ts.length := by simpa using i2
        have := (hq i hi).2.1
        simp only [List.getElem_map, List.getElem_range]
        rw [this, tr_eq hi]
    unfold bulk
    rw [e]; simp
  · rw [List.length_map, List.length_range]
    exact World.ownsRow.kept h1 hg (.inr hne)
  · have hr' : r < ts.length := by simpa using hr
    have e1 : tr ((List.range ts.length).map fun r => (q r).2) r = (q r).2 := by
      show ((List.range ts.length).map fun r => (q r).2).getD r [] = _
      simp [List.getD, hr']
    obtain ⟨h5, h6, h7⟩ := hq r hr'
    rw [e1]
    exact ⟨(q r).1, by rw [h6]; exact h5, by rw [h6]; exact h7⟩
theorem RowsT.own {w w' : World} {e : Ending} {ts : List (List Int)} (h : RowsT w w' e ts) : ∃ v, e = .returned v ∧ OwnT w' w.heap.size v ts := by
  rcases h with ⟨rfl, h⟩ | ⟨_, h⟩
  · exact ⟨_, h, [], ⟨rfl, .inl ⟨rfl, rfl⟩⟩, fun r hr => by simp at hr⟩
  · exact h
theorem OwnT.row0 {w : World} {base : Nat} {v : Value} {ts : List (List Int)} (h : OwnT w base v ts) (h0 : 0 < ts.length) : ∃ gv cap G, v = .slice (some ⟨gv, 0, none⟩) ts.length cap ∧ base ≤ gv ∧ gv < w.heap.size ∧ w.cell? ⟨gv, 0, none⟩ = some (.slice (some ⟨G, 0, none⟩) (tr ts 0).length (tr ts 0).length) ∧ Tab w base G (tr ts 0).length (tr ts 0).length (tr ts 0) := by
  obtain ⟨vs, h1, h2⟩ := h
  obtain ⟨G, h3, h4⟩ := h2 0 h0
  rcases h1.2 with ⟨e, h5⟩ | ⟨gv, cv, cur, rfl, hb, hg, _⟩
  · omega
  · exact ⟨gv, cv, G, rfl, hb, (Array.getElem?_eq_some_iff.1 hg).1, by rw [World.ownsRow.cellAt h1 0 (by omega), h3], h4⟩
set_option maxHeartbeats 8000000 in
theorem drawGuessOf_any (a : Option Addr) (n cap : Nat) (w : World) (hB : Bytes w w.heap.size a n) (hn : n ≤ 9223372036854775807) (hc : n ≤ cap) :
    Calls Try.prog 44 #[.slice a n cap] w fun e w' => ∃ (k : Int) (ar : Option Addr) (ts : List (List Int)) (cr : Nat), e = .returned (.tuple #[.slice ar ts.length cr, .int .i64 k]) ∧ (-1 ≤ k ∧ k ≤ 31) ∧ ReadsS w' ar ts ∧ bulk ts ≤ 100 ∧ Below w.heap.size w w' := by
  go_enter Try.func44, Try.ntmps44
  go_wp2_with fail
  refine (newReader_any a n cap w hB hn hc).mono ?_
  rintro e w1 ⟨rfl, R1, B1, s1⟩
  clear hB hn hc
  go_wp2_with fail
  refine (one_litR w.heap.size 0 w1 [2, 3, 1, 4] 4 R1 (by omega) (by simp) (by simp) rfl).mono ?_
  rintro e w2 ⟨ways, rfl, hw, R2, g2⟩
  have B2 := B1.grown g2 B1.size (fun k hk => by cases hk; exact Nat.le_refl _)
  clear hw g2 R1
  go_wp2_with fail
  refine (one_litR w.heap.size 1 w2 [5, 8, 3, 16, 1] 5 R2 (by omega) (by simp) (by simp) rfl).mono ?_
  rintro e w3 ⟨bits, rfl, hb, R3, g3⟩
  have hb1 : 1 ≤ bits := by simp at hb; omega
  have B3 := B2.grown g3 B2.size (fun k hk => by cases hk; exact Nat.le_refl _)
  clear hb g3 R2
  go_wp2_with fail
  refine (countedKeys_any w.heap.size 2 w3 R3 (by omega)).mono ?_
  rintro e w4 ⟨v, l, q, rfl, ho, hl, hs, R4, hq, g4⟩
  have B4 := B3.grown g4 B3.size (fun k hk => by cases hk; exact Nat.le_refl _)
  obtain ⟨al, cl, rfl, hr, _, _, _⟩ := ho.form
  clear R3 g4 B3 ho
  go_wp2_with fail
  refine (specCountKeys_any ways bits al l cl w4 hr (by omega)).mono ?_
  rintro e w5 ⟨hp, b5⟩
  have R5 := R4.below b5
  have B5 := B4.trans (b5.mono B4.size)
  have bk := CKs_bulk ways bits l
  have R4z := R4.lt
  obtain ⟨ts, hts⟩ : ∃ ts, ts = CKs ways bits l := ⟨_, rfl⟩
  have hrow : 0 < ts.length → 0 < (tr ts 0).length := fun h => by
    have hv : VCK ways bits l = true := by
      cases hv : VCK ways bits l with
      | true => rfl
      | false => rw [hts, CKs_false (by rw [hv]; simp)] at h; simp at h
    have h' := VCK_iff.1 hv
    have := (CKs_get hv).2 0 (by omega)
    show 0 < (ts.getD 0 []).length
    rw [hts, this, crow_len]; omega
  rw [← hts] at hp bk
  clear R4 b5 B4 hr hts
  obtain ⟨v5, rfl, ho5⟩ := hp.own
  have zr4 : w.heap.size < w4.heap.size := R4z
  obtain ⟨a5, c5, e5, _, _, _⟩ := ho5.form
  subst e5
  clear hp
  by_cases h0 : ts.length = 0
  · have ets : ts = [] := List.eq_nil_of_length_eq_zero h0
    subst ets
    clear h0 hrow
    have ez : ([] : List (List Int)).length = 0 := rfl
    rw [ez] at ho5 ⊢
    go_wp2_with fail
    refine (pick_any w.heap.size q 31 _ R5 (by omega) (by omega)).mono ?_
    rintro e w6 ⟨x1, rfl, hx1, R6, g6⟩
    have hx1' := hx1.1 (by omega)
    have ho6 := ho5.kept g6 (fun k hk => by cases hk; exact zr4)
    have B6 := B5.grown g6 B5.size (fun k hk => by cases hk; exact Nat.le_refl _)
    clear hx1 g6 R5 ho5
    go_wp2_with fail
    refine (pick_any w.heap.size (q + 1) 4 _ R6 (by omega) (by omega)).mono ?_
    rintro e w7 ⟨x2, rfl, hx2, R7, g7⟩
    have hx2' := hx2.1 (by omega)
    have ho7 := ho6.kept g7 (fun k hk => by cases hk; exact zr4)
    have B7 := B6.grown g7 B6.size (fun k hk => by cases hk; exact Nat.le_refl _)
    clear hx2 g7 R6 ho6
    go_wp2_with fail
    refine (one_litR w.heap.size (q + 2) w7 [x1, x2, 30, 31, -1] 5 R7 (by omega) (by simp) (by simp) rfl).mono ?_
    rintro e w8 ⟨y, rfl, hy, R8, g8⟩
    have hy' : -1 ≤ y ∧ y ≤ 31 := by simp at hy; omega
    have ho8 := ho7.kept g8 (fun k hk => by cases hk; exact zr4)
    have B8 := B7.grown g8 B7.size (fun k hk => by cases hk; exact Nat.le_refl _)
    have r8 := ho8.readsAt
    clear hy g8 R7 ho7
    go_wp2
    go_ret2
    exact ⟨y, a5, [], c5, by rfl, hy', r8, bk, B8⟩
  · obtain ⟨gv, cap5, G, ee, hgb, hgl, hc0, hT⟩ := ho5.row0 (by omega)
    injection ee with ea _ ec
    subst ea
    have hl0 : (ts.length : Int) > 0 := by omega
    have hr0 := hrow (by omega)
    go_wp2_with fail
    refine (pick_any w.heap.size q 12 _ R5 (by omega) (by omega)).mono ?_
    rintro e w5a ⟨x0, rfl, hx0, R5a, g5a⟩
    have ho5a := ho5.kept g5a (fun k hk => by cases hk; exact zr4)
    have B5a := B5.grown g5a B5.size (fun k hk => by cases hk; exact Nat.le_refl _)
    clear hx0 g5a R5 ho5 hc0 hT
    obtain ⟨gv2, cap52, G2, ee, hgb, hgl, hc0, hT⟩ := ho5a.row0 (by omega)
    injection ee with ea _ _
    injection ea with ea
    injection ea with ea _ _
    subst ea
    by_cases hx : x0 = 0
    · subst hx
      have zg5 := R5a.lt
      have hne : gv ≠ G2 := fun e => ho5a.ne_row hT (by rw [← e]; rfl)
      have hGb := hT.block.1
      have hGl := hT.block.2
      have hcG : ∃ z0, w5a.cell? ⟨G2, 0, none⟩ = some (.int .i64 z0) := by
        obtain ⟨z0, h, _⟩ := hT.get (k := 0) hr0
        exact ⟨z0, h⟩
      obtain ⟨z0, hcG⟩ := hcG
      have hfG : w5a.frozen? ⟨G2, 0, none⟩ = false := World.ownsRow.frozenAt hT 0
      have hgw : gv ≠ w.heap.size := by omega
      have hGw : G2 ≠ w.heap.size := by omega
      have hGi : (0 : Int) < ((tr ts 0).length : Int) := by omega
      have hc0a : (w5a.alloc (.cells #[.int .i64 100, .int .i64 101, .int .i64 (-1)] 3)).cell? ⟨gv, 0, none⟩ = some (.slice (some ⟨G2, 0, none⟩) (tr ts 0).length (tr ts 0).length) := (World.cell?_alloc_lt _ _ _ (World.block_lt_of_cell? w5a _ hc0)).trans hc0
      have hone : Calls Try.prog 72 #[.pointer (some ⟨w.heap.size, 0, none⟩), .slice (some ⟨w5a.heap.size, 0, none⟩) 3 3] (w5a.alloc (.cells #[.int .i64 100, .int .i64 101, .int .i64 (-1)] 3)).drew fun e w' => ∃ y1, e = .returned (.int .i64 y1) ∧ Hid (w5a.grownBy w' (some w.heap.size)) ∧ Hid (Rdr w' w.heap.size (q + 2)) ∧ w'.cell? ⟨gv, 0, none⟩ = some (.slice (some ⟨G2, 0, none⟩) (tr ts 0).length (tr ts 0).length) ∧ w'.cell? ⟨G2, 0, none⟩ = some (.int .i64 z0) ∧ w'.frozen? ⟨G2, 0, none⟩ = false := by
        refine (one_litR w.heap.size (q + 1) w5a.drew [100, 101, -1] 3 (R5a.of_block fun _ _ => rfl) (by omega) (by simp) (by simp) rfl).mono ?_
        rintro e w' ⟨y1, rfl, _, hRd, hgd⟩
        have hgw' : w5a.grownBy w' (some w.heap.size) := ⟨hgd.os, hgd.tape, hgd.output, hgd.size, hgd.block⟩
        exact ⟨y1, rfl, hgw', hRd, (World.grownBy.cell_far hgw' ⟨gv, 0, none⟩ hgl (by simp; exact hgw)).trans hc0, (World.grownBy.cell_far hgw' ⟨G2, 0, none⟩ hGl (by simp; exact hGw)).trans hcG, (World.grownBy.frozen_far hgw' ⟨G2, 0, none⟩ hGl (by simp; exact hGw)).trans hfG⟩
      have HONE := Lib.hid hone
      have HO := Lib.hid ho5a
      have HT := Lib.hid hT
      have HB := Lib.hid B5a
      have HK := Lib.hid bk
      clear hone ho5a hT R5a B5a bk hrow
      go_upto_region 4 with fail
      go_region_law (go_simp; go_at_call 72; refine HONE.out.mono ?_; rintro e w5b ⟨y1, rfl, hg5, hR5, c5, cG, fG⟩; try dsimp only)
      all_goals
        have ho5b := HO.out.kept hg5.out (fun k hk => by cases hk; exact zr4)
        have B5b := HB.out.grown hg5.out HB.out.size (fun k hk => by cases hk; exact Nat.le_refl _)
        have hT5 := World.ownsRow.kept HT.out hg5.out (.inr fun e => hGw (by simpa [Value.ownBlock] using e))
        obtain ⟨ts', el, eb, ho'⟩ := rows_set ho5b ⟨_, _, hT5⟩ y1
        have R' := Rdr.setD hR5.out (g' := G2) (by omega) 0 (.int .i64 y1)
        have B' : Below w.heap.size w (w5b.setCell ⟨G2, 0, none⟩ (.int .i64 y1)) := ⟨B5b.os, B5b.tape, B5b.output, by simpa using B5b.size, fun i hi => (heap_setCell_other w5b ⟨G2, 0, none⟩ i _ (by show i ≠ G2; omega)).trans (B5b.block i hi)⟩
        have bk := HK.out
        rw [← eb] at bk
        rw [← el] at ho'
        rw [← el]
        clear ho5b B5b hT5 hg5 hR5 c5 cG fG HO HT HB HK HONE hc0 hc0a hcG hfG
        obtain ⟨w5, e5⟩ : ∃ w5, w5 = w5b.setCell ⟨G2, 0, none⟩ (.int .i64 y1) := ⟨_, rfl⟩
        rw [← e5] at R' B' ho'
        have E5 := Lib.hid e5
        clear e5
        go_wp2_with fail
        rw [← E5.out]
        refine (pick_any w.heap.size (q + 2) 31 _ R' (by omega) (by omega)).mono ?_
        rintro e w6 ⟨x1, rfl, hx1, R6, g6⟩
        have hx1' := hx1.1 (by omega)
        have ho6 := ho'.kept g6 (fun k hk => by cases hk; exact zr4)
        have B6 := B'.grown g6 B'.size (fun k hk => by cases hk; exact Nat.le_refl _)
        clear hx1 g6 R' ho'
        go_wp2_with fail
        refine (pick_any w.heap.size ((q + 2) + 1) 4 _ R6 (by omega) (by omega)).mono ?_
        rintro e w7 ⟨x2, rfl, hx2, R7, g7⟩
        have hx2' := hx2.1 (by omega)
        have ho7 := ho6.kept g7 (fun k hk => by cases hk; exact zr4)
        have B7 := B6.grown g7 B6.size (fun k hk => by cases hk; exact Nat.le_refl _)
        clear hx2 g7 R6 ho6
        go_wp2_with fail
        refine (one_litR w.heap.size ((q + 2) + 2) w7 [x1, x2, 30, 31, -1] 5 R7 (by omega) (by simp) (by simp) rfl).mono ?_
        rintro e w8 ⟨y, rfl, hy, R8, g8⟩
        have hy' : -1 ≤ y ∧ y ≤ 31 := by simp at hy; omega
        have ho8 := ho7.kept g8 (fun k hk => by cases hk; exact zr4)
        have B8 := B7.grown g8 B7.size (fun k hk => by cases hk; exact Nat.le_refl _)
        have r8 := ho8.readsAt
        clear hy g8 R7 ho7
        go_wp2
        go_ret2
        exact ⟨y, some ⟨gv, 0, none⟩, ts', cap5, by rw [el]; rfl, hy', r8, bk, B8⟩
    · have hx' : (x0 == 0) = false := by simpa using hx
      clear hrow
      go_wp2_with fail
      refine (pick_any w.heap.size (q + 1) 31 _ R5a (by omega) (by omega)).mono ?_
      rintro e w6 ⟨x1, rfl, hx1, R6, g6⟩
      have hx1' := hx1.1 (by omega)
      have ho6 := ho5a.kept g6 (fun k hk => by cases hk; exact zr4)
      have B6 := B5a.grown g6 B5a.size (fun k hk => by cases hk; exact Nat.le_refl _)
      clear hx1 g6 R5a ho5a
      go_wp2_with fail
      refine (pick_any w.heap.size ((q + 1) + 1) 4 _ R6 (by omega) (by omega)).mono ?_
      rintro e w7 ⟨x2, rfl, hx2, R7, g7⟩
      have hx2' := hx2.1 (by omega)
      have ho7 := ho6.kept g7 (fun k hk => by cases hk; exact zr4)
      have B7 := B6.grown g7 B6.size (fun k hk => by cases hk; exact Nat.le_refl _)
      clear hx2 g7 R6 ho6
      go_wp2_with fail
      refine (one_litR w.heap.size ((q + 1) + 2) w7 [x1, x2, 30, 31, -1] 5 R7 (by omega) (by simp) (by simp) rfl).mono ?_
      rintro e w8 ⟨y, rfl, hy, R8, g8⟩
      have hy' : -1 ≤ y ∧ y ≤ 31 := by simp at hy; omega
      have ho8 := ho7.kept g8 (fun k hk => by cases hk; exact zr4)
      have B8 := B7.grown g8 B7.size (fun k hk => by cases hk; exact Nat.le_refl _)
      have r8 := ho8.readsAt
      clear hy g8 R7 ho7
      go_wp2
      go_ret2
      exact ⟨y, some ⟨gv, 0, none⟩, ts, cap5, by rfl, hy', r8, bk, B8⟩
end Go.Proofs.Ytjkcahmbocjacaa
