/-
  spec.DrawSketchOf.
-/
import Derived.Test.YtjkcahmbocjacaaDJ
import Derived.Test.YtjkcahmbocjacaaD9
import Derived.Test.YtjkcahmbocjacaaW5
import Derived.Test.YtjkcahmbocjacaaRw
namespace Go.Proofs.Ytjkcahmbocjacaa
open Go.RowKit

theorem Rdr.setK {w : World} {g p : Nat} (h : Rdr w g p) {g' : Nat} (hg : g < g') (k : Nat) (v : Value) : Rdr (w.setCell ⟨g', k, none⟩ v) g p :=
  h.of_block fun i hi => heap_setCell_other w ⟨g', k, none⟩ i v (by show i ≠ g'; omega)
theorem Below.setK {B : Nat} {a w : World} (h : Below B a w) {g : Nat} (hg : B ≤ g) (k : Nat) (v : Value) : Below B a (w.setCell ⟨g, k, none⟩ v) :=
  ⟨h.os, h.tape, h.output, by simpa using h.size, fun i hi => (heap_setCell_other w ⟨g, k, none⟩ i v (by show i ≠ g; omega)).trans (h.block i hi)⟩
theorem OwnR.readsAt {w : World} {base : Nat} {a : Option Addr} {n cap : Nat} {ts : List (List Int)} (h : OwnR w base (.slice a n cap) ts) : ReadsS w a ts := by
  obtain ⟨a8, c8, e8, _, _, r8⟩ := h.form
  cases e8; exact r8
theorem set_in {l : List Int} {y : Int} {P : Int → Prop} (h : ∀ x ∈ l, P x) (hy : P y) : ∀ x ∈ l.set 0 y, P x := by
  intro x hx
  rcases List.mem_or_eq_of_mem_set hx with h1 | h1
  · exact h x h1
  · rw [h1]; exact hy
/-- One cell of a row is turned: what stands there are rows as long as before. -/
theorem rows_setR {w : World} {base base' : Nat} {v : Value} {G n c : Nat} {lg : List Int} {ts : List (List Int)} (h : OwnR w base v ts) (hTG : Tab w base' G n c lg) (y : Int) (P : Int → Prop) (hy : P y) (hP : ∀ l ∈ ts, ∀ x ∈ l, P x) :
    ∃ ts', ts'.length = ts.length ∧ bulk ts' = bulk ts ∧ OwnR (w.setCell ⟨G, 0, none⟩ (.int .i64 y)) base v ts' ∧ (∀ l ∈ ts', ∀ x ∈ l, P x) := by
  have hne := h.ne_own hTG.own
  obtain ⟨vs, h1, h2⟩ := h
  have hg : w.grownBy (w.setCell ⟨G, 0, none⟩ (.int .i64 y)) (some G) := ⟨rfl, rfl, rfl, by simp, fun i _ hn => heap_setCell_other w ⟨G, 0, none⟩ i _ (fun e => hn (by rw [e]))⟩
  have hch : ∀ r, r < ts.length → ∃ q : Value × List Int, vs[r]? = some q.1 ∧ q.2.length = (tr ts r).length ∧ Own (w.setCell ⟨G, 0, none⟩ (.int .i64 y)) base q.1 q.2 ∧ ∀ x ∈ q.2, P x := by
    intro r hr
    obtain ⟨u, h3, h4⟩ := h2 r hr
    have hPr := hP _ (tr_mem hr)
    by_cases e : u.ownBlock = some G
    · rcases h4.2 with ⟨rfl, _⟩ | ⟨q, c2, cur2, rfl, hr4⟩
      · cases e
      · have : q = G := by simpa [Value.ownBlock] using e
        subst this
        have hT : Tab w base q (tr ts r).length c2 (tr ts r) := h4
        exact ⟨(_, (tr ts r).set 0 y), h3, by simp, by have := (hT.store 0 y).own; simpa using this, set_in hPr hy⟩
    · exact ⟨(u, tr ts r), h3, rfl, h4.kept hg (.inr e), hPr⟩
  obtain ⟨q, hq⟩ := Deep.choose_lt hch
  have hlen : ((List.range ts.length).map fun r => (q r).2).length = ts.length := by simp
  have htr : ∀ r, r < ts.length → tr ((List.range ts.length).map fun r => (q r).2) r = (q r).2 := fun r hr => by
    show ((List.range ts.length).map fun r => (q r).2).getD r [] = _
    simp [List.getD, hr]
  refine ⟨(List.range ts.length).map fun r => (q r).2, hlen, ?_, ⟨vs, ?_, fun r hr => ?_⟩, ?_⟩
  · have e : ((List.range ts.length).map fun r => (q r).2).map List.length = ts.map List.length := by
      apply List.ext_getElem
      · simp
      · intro i i1 i2
        have hi : i < ts.length := by simpa using i2
        have := (hq i hi).2.1
        simp only [List.getElem_map, List.getElem_range]
        rw [this, tr_eq hi]
    unfold bulk
    rw [e]; simp
  · rw [hlen]
    refine World.ownsRow.kept h1 hg ?_
    rcases hne with e | e
    · cases e
    · exact .inr fun e2 => e (e2.trans rfl).symm
  · rw [hlen] at hr
    obtain ⟨h5, h6, h7, _⟩ := hq r hr
    rw [htr r hr]
    exact ⟨_, h5, h7⟩
  · intro l hl
    obtain ⟨r, hr, rfl⟩ := List.mem_map.1 hl
    exact (hq r (List.mem_range.1 hr)).2.2.2
theorem OwnR.row0 {w : World} {base : Nat} {v : Value} {ts : List (List Int)} (h : OwnR w base v ts) (h0 : 0 < ts.length) (h1r : (tr ts 0).length ≠ 0) : ∃ gv cap G C, v = .slice (some ⟨gv, 0, none⟩) ts.length cap ∧ base ≤ gv ∧ gv < w.heap.size ∧ w.cell? ⟨gv, 0, none⟩ = some (.slice (some ⟨G, 0, none⟩) (tr ts 0).length C) ∧ Tab w base G (tr ts 0).length C (tr ts 0) ∧ gv ≠ G := by
  have hne := fun u (hu : Own w base u (tr ts 0)) => h.ne_own hu
  obtain ⟨vs, h1, h2⟩ := h
  obtain ⟨u, h3, h4⟩ := h2 0 h0
  obtain ⟨G, C, rfl, h5⟩ := h4.tab h1r
  have hn2 := hne _ h4
  rcases h1.2 with ⟨e, h6⟩ | ⟨gv, cv, cur, rfl, hb, hg, _⟩
  · omega
  · refine ⟨gv, cv, G, C, rfl, hb, (Array.getElem?_eq_some_iff.1 hg).1, by rw [World.ownsRow.cellAt h1 0 (by omega), h3], h5, ?_⟩
    rcases hn2 with e | e
    · cases e
    · exact fun e2 => e (by rw [e2]; rfl)

set_option maxHeartbeats 16000000 in
theorem drawSketchOf_any (a : Option Addr) (n cap : Nat) (w : World) (hB : Bytes w w.heap.size a n) (hn : n ≤ 9223372036854775807) (hc : n ≤ cap) :
    Calls Try.prog 47 #[.slice a n cap] w fun e w' => ∃ (ar : Option Addr) (ts : List (List Int)) (cr : Nat) (k : Int), e = .returned (.tuple #[.slice ar ts.length cr, .int .i64 k]) ∧ (0 ≤ k ∧ k ≤ 100) ∧ ReadsS w' ar ts ∧ bulk ts ≤ 100 ∧ (∀ l ∈ ts, ∀ x ∈ l, -1 ≤ x ∧ x ≤ 5) ∧ Below w.heap.size w w' := by
  go_enter Try.func47, Try.ntmps47
  go_wp2_with fail
  refine (newReader_any a n cap w hB hn hc).mono ?_
  rintro e w1 ⟨rfl, R1, B1, s1⟩
  clear hB hn hc
  go_wp2_with fail
  refine (one_litR w.heap.size 0 w1 [5, 4, 3, 2, 1] 5 R1 (by omega) (by simp) (by simp) rfl).mono ?_
  rintro e w2 ⟨NN, rfl, hN, R2, g2⟩
  have B2 := B1.grown g2 B1.size (fun k hk => by cases hk; exact Nat.le_refl _)
  obtain ⟨N, rfl⟩ : ∃ N : Nat, NN = N := ⟨NN.toNat, by simp at hN; omega⟩
  have hN1 : 1 ≤ N ∧ N ≤ 5 := by simp at hN; omega
  clear hN g2 R1
  have hp := pow_small (n := N) (by omega)
  have hp5 : (2 ^ N : Nat) ≤ 2 ^ 5 := Nat.pow_le_pow_right (by omega) hN1.2
  have hp0 := Nat.two_pow_pos N
  have cp := fun wx => power_any N wx (by omega)
  obtain ⟨P, hP⟩ : ∃ P, P = 2 ^ N := ⟨_, rfl⟩
  rw [← hP] at cp hp5 hp hp0
  have CP := Lib.hid cp
  clear hP cp hp
  have zb : w.heap.size < w2.heap.size := R2.lt
  have ho1 : OwnR (w2.alloc (.cells #[] 36)) w2.heap.size (.slice (some ⟨w2.heap.size, 0, none⟩) 0 0) [] := ⟨[], World.ownsRow_lit w2 #[] 0 (Nat.le_refl _) (by unfold maxLen; omega) rfl, fun r hr => by simp at hr⟩
  have R3 := R2.below ((Below.refl w2.heap.size w2).alloc (Nat.le_refl _) (.cells #[] 36))
  have B3 := B2.alloc B2.size (.cells #[] 36)
  clear R2 B2
  obtain ⟨w3, hw3⟩ : ∃ w3, w3 = w2.alloc (.cells #[] 36) := ⟨_, rfl⟩
  rw [← hw3] at ho1 R3 B3
  have zg3 := R3.lt
  have hc3 : CellsAt (w3.alloc (.cells #[.int .i64 3, .int .i64 4, .int .i64 2, .int .i64 6, .int .i64 1, .int .i64 0, .int .i64 7] 3)) w3.heap.size 0 [3, 4, 2, 6, 1, 0, 7] := CellsAt.lit w3 [3, 4, 2, 6, 1, 0, 7]
  have R4 := R3.below ((Below.refl w3.heap.size w3).alloc (Nat.le_refl _) (.cells #[.int .i64 3, .int .i64 4, .int .i64 2, .int .i64 6, .int .i64 1, .int .i64 0, .int .i64 7] 3))
  have ho4 := ho1.alloc (.cells #[.int .i64 3, .int .i64 4, .int .i64 2, .int .i64 6, .int .i64 1, .int .i64 0, .int .i64 7] 3)
  have B4 := B3.alloc B3.size (.cells #[.int .i64 3, .int .i64 4, .int .i64 2, .int .i64 6, .int .i64 1, .int .i64 0, .int .i64 7] 3)
  clear ho1 R3 B3
  subst hw3
  simp only [World.size_alloc] at hc3 zg3
  go_wp2_with fail
  refine (one_any w.heap.size 1 _ _ [3, 4, 2, 6, 1, 0, 7] _ R4 (by omega) hc3 zg3 (by simp) (by simp) 7 rfl).mono ?_
  rintro e w5 ⟨kk, rfl, hk, R5, g5⟩
  have hk2 : 0 ≤ kk ∧ kk ≤ 7 := by simp at hk; omega
  have ho5 := ho4.kept g5 (fun k hk => by cases hk; exact zb)
  have B5 := B4.grown g5 B4.size (fun k hk => by cases hk; exact Nat.le_refl _)
  have zb5 : w2.heap.size ≤ w5.heap.size := by have := g5.size; simp only [World.size_alloc] at this; omega
  clear hk g5 R4 ho4 B4 hc3 zg3
  obtain ⟨bs, hbs⟩ : ∃ bs, bs = w2.heap.size := ⟨_, rfl⟩
  rw [← hbs] at ho5 zb zb5
  have HBS := Lib.hid hbs
  clear hbs
  go_wp2_with fail
  go_loopg [6] 8 (fun n v wr => ∃ (ts : List (List Int)) (q : Nat), ts.length + n = 8 ∧ OwnR wr bs v ts ∧ Hid (∀ r, r < ts.length → (tr ts r).length = N) ∧ Hid (∀ l ∈ ts, ∀ x ∈ l, -1 ≤ x ∧ x ≤ 5) ∧ bulk ts ≤ 6 * ts.length ∧ Rdr wr w.heap.size q ∧ q ≤ 2 + 5 * ts.length ∧ bs ≤ wr.heap.size ∧ Below w.heap.size w wr)
  case atStart => exact ⟨[], 2, rfl, (by rw [← HBS.out]; exact ho5), (fun r hr => by simp at hr), (fun l hl => by simp at hl), by simp [bulk], R5, by simp, zb5, B5⟩
  case round =>
    clear ho5 R5 B5 zb5
    obtain ⟨ts, q, hln, ho, hrl, hel, hbu, R, hq, hzr, B⟩ := hrel
    obtain ⟨a5, c5, rfl, _, _, _⟩ := ho.form
    have HLN := Lib.hid hln
    have HBU := Lib.hid hbu
    have hl9 : ts.length ≤ 8 := by omega
    clear hln hbu
    by_cases hlt : (ts.length : Int) < kk
    · go_wp2_with fail
      refine (anOrder_any w.heap.size q N _ R (by omega) (by omega)).mono ?_
      rintro e wa ⟨u, l, rfl, hu, hll, hlm, Ra, ga⟩
      have hoa := ho.kept ga (fun k hk => by cases hk; exact zb)
      have Ba := B.grown ga B.size (fun k hk => by cases hk; exact Nat.le_refl _)
      have hua := hu.mono hzr
      have hza : bs ≤ wa.heap.size := Nat.le_trans hzr ga.size
      obtain ⟨A, C, rfl, _, _, _, _⟩ := hua.form
      clear ga ho B R hu hzr
      go_wp2_with (at_builtin; refine push_rowR rfl (.tmp 21) (.tmp 25) rfl bs _ ts l rfl hoa _ hua _ rfl (by simp) (by omega) hza ?_)
      intro v' wf of gf _
      have hRf := Ra.kept gf (fun k hk => by have := (hoa.lt k hk).1; omega)
      have hBf := Ba.grown gf Ba.size (fun k hk => by have := (hoa.lt k hk).1; omega)
      have hzf : bs ≤ wf.heap.size := Nat.le_trans hza gf.size
      have hmu := HLN.out
      have hbu := HBU.out
      have hl5 := hll.out
      have hrl' : Hid (∀ r, r < (ts ++ [l]).length → (tr (ts ++ [l]) r).length = N) := fun r hr => by
        by_cases e : r < ts.length
        · rw [tr_snoc_lt e]; exact hrl.out r e
        · obtain rfl : r = ts.length := by simp at hr; omega
          rw [tr_snoc_eq]; exact hl5
      have hel' : Hid (∀ t ∈ ts ++ [l], ∀ x ∈ t, -1 ≤ x ∧ x ≤ 5) := fun t ht x hx => by
        rcases List.mem_append.1 ht with h | h
        · exact hel.out t h x hx
        · rw [List.mem_singleton] at h; subst h; have := hlm.out x hx; omega
      have hbf : bulk (ts ++ [l]) ≤ 6 * (ts ++ [l]).length := by rw [bulk_snoc]; simp; omega
      clear gf hoa Ra Ba hua hrl hel
      go_wp2
      go_roundg (gk - 1)
      case measure => omega
      case rel => exact ⟨ts ++ [l], q + N, by simp; omega, of, hrl', hel', hbf, hRf, by simp; omega, hzf, hBf⟩
    · have hbu := HBU.out
      clear HBU
      have bk : bulk ts ≤ 100 := by omega
      by_cases h0 : ts.length = 0
      · have ets : ts = [] := List.eq_nil_of_length_eq_zero h0
        subst ets
        have ez : ([] : List (List Int)).length = 0 := rfl
        rw [ez] at ho ⊢
        clear h0 hrl
        have helo := hel.out
        have hel := Lib.hid helo
        clear helo
        go_wp2_with fail
        refine (CP.out _).mono ?_
        rintro e w6 ⟨rfl, rfl⟩
        go_wp2_with fail
        refine (pick_any w.heap.size q (P : Int) _ R (by omega) (by omega)).mono ?_
        rintro e w7 ⟨x1, rfl, hx1, R7, g7⟩
        have hx1' := hx1.1 (by omega)
        have ho7 := ho.kept g7 (fun k hk => by cases hk; exact zb)
        have B7 := B.grown g7 B.size (fun k hk => by cases hk; exact Nat.le_refl _)
        have ex1 : IntKind.i64.wrap (1 + x1) = 1 + x1 := IntWalk.i64_in _ (by omega)
        clear hx1 g7 R ho B
        go_wp2_with fail
        refine (CP.out _).mono ?_
        rintro e w8 ⟨rfl, rfl⟩
        go_wp2_with fail
        refine (pick_any w.heap.size (q + 1) (P : Int) _ R7 (by omega) (by omega)).mono ?_
        rintro e w9 ⟨x2, rfl, hx2, R9, g9⟩
        have hx2' := hx2.1 (by omega)
        have ho9 := ho7.kept g9 (fun k hk => by cases hk; exact zb)
        have B9 := B7.grown g9 B7.size (fun k hk => by cases hk; exact Nat.le_refl _)
        have ex2 : IntKind.i64.wrap (1 + x2) = 1 + x2 := IntWalk.i64_in _ (by omega)
        clear hx2 g9 R7 ho7 B7
        go_wp2_with fail
        refine (one_litR w.heap.size (q + 1 + 1) w9 [1 + x1, 1 + x2, 1, 0] 4 R9 (by omega) (by simp) (by simp) rfl).mono ?_
        rintro e wa ⟨y, rfl, hy, Ra, ga⟩
        have hy' : 0 ≤ y ∧ y ≤ 100 := by simp at hy; omega
        have hoa := ho9.kept ga (fun k hk => by cases hk; exact zb)
        have Ba := B9.grown ga B9.size (fun k hk => by cases hk; exact Nat.le_refl _)
        have ra := hoa.readsAt
        clear hy ga R9 ho9 B9
        go_wp2
        go_ret2
        exact ⟨a5, [], c5, y, by rfl, hy', ra, bk, hel.out, Ba⟩
      · have hl0 : (ts.length : Int) > 0 := by omega
        have hr0 : (tr ts 0).length = N := hrl.out 0 (by omega)
        obtain ⟨gv, cap5, G, C, ee, hgb, hgl, hc0, hT, hne⟩ := ho.row0 (by omega) (by omega)
        injection ee with ea _ ec
        subst ea
        go_wp2_with fail
        refine (pick_any w.heap.size q 24 _ R (by omega) (by omega)).mono ?_
        rintro e w6 ⟨x0, rfl, hx0, R6, g6⟩
        have ho6 := ho.kept g6 (fun k hk => by cases hk; exact zb)
        have B6 := B.grown g6 B.size (fun k hk => by cases hk; exact Nat.le_refl _)
        have zs6 : bs ≤ w6.heap.size := Nat.le_trans hzr g6.size
        clear hx0 g6 R ho hc0 hT hne B hgb hgl
        by_cases hx : x0 = 0
        · subst hx
          obtain ⟨gv2, cap52, G, C, ee, hgb, hgl, hc0, hT, hne⟩ := ho6.row0 (by omega) (by omega)
          injection ee with ea _ _
          injection ea with ea
          injection ea with ea _ _
          subst ea
          rw [hr0] at hT hc0
          have hmem : ∀ x ∈ tr ts 0, -1 ≤ x ∧ x ≤ 5 := hel.out _ (tr_mem (by omega))
          have hlen0 := hT.len
          obtain ⟨M, hM⟩ : ∃ M, N = M + 1 := ⟨N - 1, by omega⟩
          obtain ⟨z0, hcG, _⟩ := hT.get (k := 0) (by omega)
          obtain ⟨zl, hcL, hzl⟩ := hT.get (k := M) (by omega)
          have hzb : -1 ≤ zl ∧ zl ≤ 5 := by
            refine hmem zl ?_
            rw [← hzl.out]
            simp [List.getD, List.getElem?_eq_getElem (show M < (tr ts 0).length by omega)]
          have hfG : w6.frozen? ⟨G, 0, none⟩ = false := hT.frozen 0
          have hGb := hT.block.1
          have hGl := hT.block.2
          have hgw : gv ≠ w.heap.size := by omega
          have hGw : G ≠ w.heap.size := by omega
          have eM : IntKind.i64.wrap ((N : Int) - 1) = (M : Int) := by rw [IntWalk.i64_in _ (by omega)]; omega
          have hMN : (M : Int) < (N : Int) := by omega
          have hN0 : (0 : Int) < (N : Int) := by omega
          have hN0' : 0 < N := by omega
          have hone : Calls Try.prog 72 #[.pointer (some ⟨w.heap.size, 0, none⟩), .slice (some ⟨w6.heap.size, 0, none⟩) 3 3] (w6.alloc (.cells #[.int .i64 (-1), .int .i64 (N : Int), .int .i64 zl] 3)).drew fun e w' => ∃ y1, e = .returned (.int .i64 y1) ∧ Hid (w6.grownBy w' (some w.heap.size)) ∧ Hid (Rdr w' w.heap.size (q + 1 + 1)) ∧ Hid (-1 ≤ y1 ∧ y1 ≤ 5) ∧ w'.cell? ⟨gv, 0, none⟩ = some (.slice (some ⟨G, 0, none⟩) N C) ∧ w'.cell? ⟨G, 0, none⟩ = some (.int .i64 z0) ∧ w'.frozen? ⟨G, 0, none⟩ = false := by
            refine (one_litR w.heap.size (q + 1) w6.drew [-1, (N : Int), zl] 3 (R6.of_block fun _ _ => rfl) (by omega) (by simp) (by simp) rfl).mono ?_
            rintro e w' ⟨y1, rfl, hy1, hRd, hgd⟩
            have hgw' : w6.grownBy w' (some w.heap.size) := ⟨hgd.os, hgd.tape, hgd.output, hgd.size, hgd.block⟩
            exact ⟨y1, rfl, hgw', hRd, (by simp at hy1; show -1 ≤ y1 ∧ y1 ≤ 5; omega), (World.grownBy.cell_far hgw' ⟨gv, 0, none⟩ hgl (by simp; exact hgw)).trans hc0, (World.grownBy.cell_far hgw' ⟨G, 0, none⟩ hGl (by simp; exact hGw)).trans hcG, (World.grownBy.frozen_far hgw' ⟨G, 0, none⟩ hGl (by simp; exact hGw)).trans hfG⟩
          have HONE := Lib.hid hone
          have HO := Lib.hid ho6
          have HT := Lib.hid hT
          have HB := Lib.hid B6
          have HK := Lib.hid bk
          have HNE : Hid (some gv ≠ some G) := fun e => hne (by injection e)
          clear hone ho6 hT R6 B6 bk hrl hbu hmem hlen0 hM hzl hzb hne hr0
          go_upto_region 4 with fail
          go_region_law (go_simp; go_at_call 72; refine HONE.out.mono ?_; rintro e w6b ⟨y1, rfl, hg5, hR5, hyb, c5c, cG, fG⟩; try dsimp only)
          all_goals
            have ho6b := HO.out.kept hg5.out (fun k hk => by cases hk; exact zb)
            have B6b := HB.out.grown hg5.out HB.out.size (fun k hk => by cases hk; exact Nat.le_refl _)
            have hT5 := World.ownsRow.kept HT.out hg5.out (.inr fun e => hGw (by simpa [Value.ownBlock] using e))
            obtain ⟨ts', el, eb, ho8, hel'⟩ := rows_setR ho6b hT5 y1 (fun x => -1 ≤ x ∧ x ≤ 5) hyb.out hel.out
            have R8 := Rdr.setK hR5.out (g' := G) (by omega) 0 (.int .i64 y1)
            have B8 := Below.setK B6b (g := G) (by omega) 0 (.int .i64 y1)
            have bk := HK.out
            rw [← eb] at bk
            rw [← el] at ho8
            clear ho6b B6b hT5 hg5 hR5 c5c cG fG HO HT HB HK HONE hc0 hcG hfG hcL hel hyb
            obtain ⟨w5c, e5⟩ : ∃ w5c, w5c = w6b.setCell ⟨G, 0, none⟩ (.int .i64 y1) := ⟨_, rfl⟩
            rw [← e5] at R8 B8 ho8
            have E5 := Lib.hid e5
            have EL := Lib.hid el
            clear e5 el
            go_wp2_with fail
            refine (CP.out _).mono ?_
            rintro e w6 ⟨rfl, rfl⟩
            go_wp2_with fail
            rw [← E5.out]
            refine (pick_any w.heap.size (q + 1 + 1) (P : Int) _ R8 (by omega) (by omega)).mono ?_
            rintro e w7 ⟨x1, rfl, hx1, R7, g7⟩
            have hx1' := hx1.1 (by omega)
            have ho7 := ho8.kept g7 (fun k hk => by cases hk; exact zb)
            have B7 := B8.grown g7 B8.size (fun k hk => by cases hk; exact Nat.le_refl _)
            have ex1 : IntKind.i64.wrap (1 + x1) = 1 + x1 := IntWalk.i64_in _ (by omega)
            clear hx1 g7 R8 ho8 B8
            go_wp2_with fail
            refine (CP.out _).mono ?_
            rintro e w8 ⟨rfl, rfl⟩
            go_wp2_with fail
            refine (pick_any w.heap.size ((q + 1 + 1) + 1) (P : Int) _ R7 (by omega) (by omega)).mono ?_
            rintro e w9 ⟨x2, rfl, hx2, R9, g9⟩
            have hx2' := hx2.1 (by omega)
            have ho9 := ho7.kept g9 (fun k hk => by cases hk; exact zb)
            have B9 := B7.grown g9 B7.size (fun k hk => by cases hk; exact Nat.le_refl _)
            have ex2 : IntKind.i64.wrap (1 + x2) = 1 + x2 := IntWalk.i64_in _ (by omega)
            clear hx2 g9 R7 ho7 B7
            go_wp2_with fail
            refine (one_litR w.heap.size ((q + 1 + 1) + 1 + 1) w9 [1 + x1, 1 + x2, 1, 0] 4 R9 (by omega) (by simp) (by simp) rfl).mono ?_
            rintro e wa ⟨y, rfl, hy, Ra, ga⟩
            have hy' : 0 ≤ y ∧ y ≤ 100 := by simp at hy; omega
            have hoa := ho9.kept ga (fun k hk => by cases hk; exact zb)
            have Ba := B9.grown ga B9.size (fun k hk => by cases hk; exact Nat.le_refl _)
            have ra := hoa.readsAt
            clear hy ga R9 ho9 B9
            go_wp2
            go_ret2
            exact ⟨some ⟨gv, 0, none⟩, ts', cap5, y, by rw [EL.out]; rfl, hy', ra, bk, hel', Ba⟩
        · have hx' : (x0 == 0) = false := by simpa using hx
          clear hrl
          go_wp2_with fail
          refine (CP.out _).mono ?_
          rintro e w6 ⟨rfl, rfl⟩
          go_wp2_with fail
          refine (pick_any w.heap.size (q + 1) (P : Int) _ R6 (by omega) (by omega)).mono ?_
          rintro e w7 ⟨x1, rfl, hx1, R7, g7⟩
          have hx1' := hx1.1 (by omega)
          have ho7 := ho6.kept g7 (fun k hk => by cases hk; exact zb)
          have B7 := B6.grown g7 B6.size (fun k hk => by cases hk; exact Nat.le_refl _)
          have ex1 : IntKind.i64.wrap (1 + x1) = 1 + x1 := IntWalk.i64_in _ (by omega)
          clear hx1 g7 R6 ho6 B6
          go_wp2_with fail
          refine (CP.out _).mono ?_
          rintro e w8 ⟨rfl, rfl⟩
          go_wp2_with fail
          refine (pick_any w.heap.size ((q + 1) + 1) (P : Int) _ R7 (by omega) (by omega)).mono ?_
          rintro e w9 ⟨x2, rfl, hx2, R9, g9⟩
          have hx2' := hx2.1 (by omega)
          have ho9 := ho7.kept g9 (fun k hk => by cases hk; exact zb)
          have B9 := B7.grown g9 B7.size (fun k hk => by cases hk; exact Nat.le_refl _)
          have ex2 : IntKind.i64.wrap (1 + x2) = 1 + x2 := IntWalk.i64_in _ (by omega)
          clear hx2 g9 R7 ho7 B7
          go_wp2_with fail
          refine (one_litR w.heap.size ((q + 1) + 1 + 1) w9 [1 + x1, 1 + x2, 1, 0] 4 R9 (by omega) (by simp) (by simp) rfl).mono ?_
          rintro e wa ⟨y, rfl, hy, Ra, ga⟩
          have hy' : 0 ≤ y ∧ y ≤ 100 := by simp at hy; omega
          have hoa := ho9.kept ga (fun k hk => by cases hk; exact zb)
          have Ba := B9.grown ga B9.size (fun k hk => by cases hk; exact Nat.le_refl _)
          have ra := hoa.readsAt
          clear hy ga R9 ho9 B9
          go_wp2
          go_ret2
          exact ⟨some ⟨gv, 0, none⟩, ts, cap5, y, by rfl, hy', ra, bk, hel.out, Ba⟩
end Go.Proofs.Ytjkcahmbocjacaa
