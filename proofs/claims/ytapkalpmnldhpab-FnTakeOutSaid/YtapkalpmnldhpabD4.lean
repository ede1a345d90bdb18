/-
  spec.someTable: the draw of homes and a table.
-/
import Derived.Test.YtapkalpmnldhpabD2
import Derived.Test.YtapkalpmnldhpabS2
namespace Go.Proofs.Ytapkalpmnldhpab
open Go.RowKit

/-- What a drawn table's slots are. -/
def Mild (t : List Int) : Prop := ∀ x ∈ t, -2 ≤ x ∧ x ≤ 14
theorem Mild.set {t : List Int} (h : Mild t) {x : Int} (hx : -2 ≤ x ∧ x ≤ 14) (i : Nat) : Mild (t.set i x) := by
  intro y hy
  rcases List.mem_or_eq_of_mem_set hy with h1 | h1
  · exact h y h1
  · rw [h1]; exact hx
theorem Mild.of_keys {k : Nat} {t : List Int} (h : Keys k t) (hk : k ≤ 14) : Mild t := by
  intro y hy
  obtain ⟨i, hi, rfl⟩ := List.getElem_of_mem hy
  have := h i hi
  have e : t.getD i 0 = t[i] := by simp [List.getD, hi]
  rw [e] at this
  omega
theorem Mild.in64 {t : List Int} (h : Mild t) : ∀ x ∈ t, In64 x := fun x hx => by have := h x hx; unfold In64; omega
theorem Small.in64 {t : List Int} (h : Small t) : ∀ x ∈ t, In64 x := fun x hx => by have := h x hx; unfold In64; omega
theorem Mild.get {t : List Int} (h : Mild t) {i : Nat} (hi : i < t.length) : -2 ≤ t.getD i 0 ∧ t.getD i 0 ≤ 14 := by
  have e : t.getD i 0 = t[i] := by simp [List.getD, hi]
  rw [e]; exact h _ (List.getElem_mem hi)

theorem lin_keys (m : Nat) (l : List Int) : ∀ k, Keys k (lin m l k).1 := by
  intro k
  induction k with
  | zero => exact Keys.rep 0 m
  | succ k ih => exact (ih.mono (by omega)).set (by omega)

theorem LT_mild {m : Int} {l : List Int} (hl : l.length ≤ 14) : Mild (LT m l).1 ∧ (LT m l).1.length ≤ 10 := by
  unfold LT
  split
  · rename_i h
    rw [VH_iff] at h
    exact ⟨.of_keys (lin_keys _ _ _) hl, by simp only [lin_len]; omega⟩
  · exact ⟨by intro x hx; simp at hx, by simp⟩
theorem FT_mild {m : Int} {l : List Int} (hl : l.length ≤ 14) : Mild (FT m l) ∧ (FT m l).length ≤ 10 := by
  unfold FT
  split
  · rename_i h
    have hh := Homes.of_VH (VH_iff.1 h)
    obtain ⟨h1, h2, _⟩ := rob_inv hh l.length (Nat.le_refl _)
    rw [VH_iff] at h
    exact ⟨.of_keys h2 hl, by rw [h1]; omega⟩
  · exact ⟨by intro x hx; simp at hx, by simp⟩

theorem grownBy_setCell_any (w : World) (p : Addr) (x : Value) : w.grownBy (w.setCell p x) (some p.block) :=
  ⟨rfl, rfl, rfl, by simp [World.setCell], fun k _ hne => Below.heap_setCell _ _ _ _ (fun e => hne (by rw [e]))⟩

set_option maxHeartbeats 8000000 in
theorem someTable_any (g p : Nat) (w : World) (hR : Rdr w g p) (hp : p ≤ 700000) :
    Calls Try.prog 57 #[.pointer (some ⟨g, 0, none⟩)] w fun e w' => ∃ (m : Int) (ah : Option Addr) (ch : Nat) (l : List Int) (at_ : Option Addr) (ct : Nat) (t : List Int) (q : Nat), e = .returned (.tuple #[.int .i64 m, .slice ah l.length ch, .slice at_ t.length ct]) ∧ (-1 ≤ m ∧ m ≤ 11) ∧ Reads w' ah l ∧ Small l ∧ l.length ≤ 14 ∧ l.length ≤ ch ∧ Reads w' at_ t ∧ Mild t ∧ t.length ≤ 10 ∧ Rdr w' g q ∧ q ≤ p + 200 ∧ Below g w w' := by
  have zg := hR.lt
  have Bw := Below.refl g w
  go_enter Try.func57, Try.ntmps57
  go_wp2_with fail
  refine (someHomes_any g p w hR (by omega)).mono ?_
  rintro e w1 ⟨m, v, l, q, rfl, hm, ho, hl, hs, hv, hR1, hq, hg⟩
  have B1 := Bw.grown hg (by omega) (fun k hk => by cases hk; omega)
  obtain ⟨ah, ch, rfl, hr, hlc, hcm, hblk⟩ := ho.form
  have z1 := B1.size
  have hm64 : In64 m := by unfold In64; omega
  have HS := Lib.hid hs
  have hne1 : (Value.slice ah l.length ch).ownBlock = none ∨ ∀ k, w1.heap.size ≤ k → (Value.slice ah l.length ch).ownBlock ≠ some k := by
    right; intro k hk e; have := (ho.lt k e).2; omega
  have LM := Lib.hid (LT_mild (m := m) hl)
  have FM := Lib.hid (FT_mild (m := m) hl)
  have hl64 := hs.in64
  clear hR Bw hg hs hblk hcm hv
  go_wp2_with fail
  refine (specLinearTable_any m _ l _ _ hm64 hr hl64 (by omega)).mono ?_
  rintro e w2 ⟨vt, rfl, ht, b2⟩
  have B2 := B1.trans (b2.mono (by omega))
  have R2 := hR1.below b2
  have O2 := ho.below b2
  have z2 := B2.size
  have z2' := b2.size
  clear b2 hR1
  go_wp2_with fail
  refine (pick_any g q _ _ R2 (by omega) (by omega)).mono ?_
  rintro e w3 ⟨y, rfl, hy, R3, g3⟩
  have B3 := B2.grown g3 (by omega) (fun k hk => by cases hk; omega)
  have T3 := ht.kept g3 (ht.ne_g (by omega))
  have O3 := O2.kept g3 (O2.ne_g zg)
  have z3 := g3.size
  clear g3 ht O2 hy B2 R2
  by_cases hy0 : y = 0
  · have hd : (y == 0) = true := by simp [hy0]
    clear hy0 T3
    go_wp2_with fail
    refine (specFairTable_any m _ l _ _ hm64 O3.reads hl64 (by omega)).mono ?_
    rintro e w4 ⟨vf, rfl, ht, b4⟩
    have B4 := B3.trans (b4.mono (by omega))
    have R4 := R3.below b4
    have O4 := O3.below b4
    replace ht := ht.base (base' := w1.heap.size) (by omega)
    obtain ⟨T, hT⟩ : ∃ T, T = FT m l := ⟨_, rfl⟩
    rw [← hT] at ht FM
    clear hT b4 B3 R3 O3 LM
    have B3 := B4
    have R3 := R4
    have O3 := O4
    have T3 := ht
    have TM := FM
    clear B4 R4 O4 ht FM
    by_cases hT0 : T.length = 0
    · obtain ⟨at_, ct, rfl, hrt, _, _, _⟩ := T3.form
      have hT1 : (T.length : Int) = 0 := by omega
      go_wp2
      go_ret3
      exact ⟨m, ah, ch, l, at_, ct, T, _, by rw [hT0]; rfl, hm, O3.reads, HS.out, hl, hlc, hrt, TM.out.1, TM.out.2, R3, by omega, B3⟩
    obtain ⟨gt, ct, rfl, hT⟩ := T3.tab hT0
    have zt := hT.block
    have ngt : (Value.slice (some ⟨gt, 0, none⟩) T.length ct).ownBlock = none ∨ (Value.slice (some ⟨gt, 0, none⟩) T.length ct).ownBlock ≠ some g := .inr (by simp [Value.ownBlock]; omega)
    have nh : (Value.slice ah l.length ch).ownBlock = none ∨ (Value.slice ah l.length ch).ownBlock ≠ some gt := hne1.imp id (fun h => h gt zt.1)
    have hTlen := TM.out.2
    have z3b := B3.size
    clear T3
    go_wp2_with fail
    refine (pick_any g _ _ _ R3 (by omega) (by omega)).mono ?_
    rintro e w5 ⟨s, rfl, hs, R5, g5⟩
    have B5 := B3.grown g5 (by omega) (fun k hk => by cases hk; omega)
    have T5 : Tab w5 w1.heap.size gt T.length ct T := World.ownsRow.kept hT g5 ngt
    have O5 := O3.kept g5 (O3.ne_g zg)
    have hs8 := hs.1 (by omega)
    have z5 := B5.size
    clear g5 hT O3 hs B3 R3
    by_cases s0 : s = 0
    · have d0 : (s == 0) = true := by simp [s0]
      clear s0
      go_wp2_with fail
      refine (pick_any g _ _ _ R5 (by omega) (by omega)).mono ?_
      rintro e w6 ⟨y6, rfl, hy6, R6, g6⟩
      have B6 := B5.grown g6 (by omega) (fun k hk => by cases hk; omega)
      have T6 : Tab w6 w1.heap.size gt T.length ct T := World.ownsRow.kept T5 g6 ngt
      have O6 := O5.kept g6 (O5.ne_g zg)
      have hi6 := hy6.1 (by omega)
      clear g6 T5 O5 hy6 B5 R5
      obtain ⟨i, rfl⟩ := Int.eq_ofNat_of_zero_le hi6.1
      have hi : i < T.length := by omega
      obtain ⟨x0, hc0, _⟩ := T6.get hi
      have hf0 := T6.frozen i
      have T7 := T6.store i (-1)
      have O7 := O6.kept (grownBy_setCell_any w6 ⟨gt, i, none⟩ (.int .i64 (-1))) nh
      have R7 := R6.kept (grownBy_setCell_any w6 ⟨gt, i, none⟩ (.int .i64 (-1))) (fun k hk => by cases hk; show g < gt; omega)
      have B7 := B6.setCell (p := ⟨gt, i, none⟩) (by show g ≤ gt; omega) (.int .i64 (-1))
      clear T6 O6 R6 B6
      go_wp2
      go_ret3
      exact ⟨m, ah, ch, l, some ⟨gt, 0, none⟩, ct, T.set i (-1), _, by simp, hm, O7.reads, HS.out, hl, hlc, T7.reads, TM.out.1.set (by omega) i, by simpa using TM.out.2, R7, by omega, B7⟩
    by_cases s1 : s = 1
    · have d0 : (s == 0) = false := by simpa using s0
      have d1 : (s == 1) = true := by simp [s1]
      clear s0 s1
      go_wp2_with fail
      refine (pick_any g _ _ _ R5 (by omega) (by omega)).mono ?_
      rintro e w6 ⟨y6, rfl, hy6, R6, g6⟩
      have B6 := B5.grown g6 (by omega) (fun k hk => by cases hk; omega)
      have T6 : Tab w6 w1.heap.size gt T.length ct T := World.ownsRow.kept T5 g6 ngt
      have O6 := O5.kept g6 (O5.ne_g zg)
      have hi6 := hy6.1 (by omega)
      have z6 := B6.size
      clear g6 T5 O5 hy6 B5 R5
      obtain ⟨i, rfl⟩ := Int.eq_ofNat_of_zero_le hi6.1
      have hi : i < T.length := by omega
      go_wp2_with fail
      refine (pick_any g _ _ _ R6 (by omega) (by omega)).mono ?_
      rintro e w7 ⟨y7, rfl, hy7, R7, g7⟩
      have B7 := B6.grown g7 (by omega) (fun k hk => by cases hk; omega)
      have T7 : Tab w7 w1.heap.size gt T.length ct T := World.ownsRow.kept T6 g7 ngt
      have O7 := O6.kept g7 (O6.ne_g zg)
      have hi7 := hy7.1 (by omega)
      clear g7 T6 O6 hy7 B6 R6
      obtain ⟨j, rfl⟩ := Int.eq_ofNat_of_zero_le hi7.1
      have hj : j < T.length := by omega
      obtain ⟨xi, hci, ei⟩ := T7.get hi
      obtain ⟨xj, hcj, ej⟩ := T7.get hj
      have mi := TM.out.1.get hi
      have mj := TM.out.1.get hj
      rw [ei.out] at mi
      rw [ej.out] at mj
      have hfi := T7.frozen i
      have hfj := T7.frozen j
      have T8 := T7.store i xj
      have O8 := O7.kept (grownBy_setCell_any w7 ⟨gt, i, none⟩ (.int .i64 xj)) nh
      have R8 := R7.kept (grownBy_setCell_any w7 ⟨gt, i, none⟩ (.int .i64 xj)) (fun k hk => by cases hk; show g < gt; omega)
      have B8 := B7.setCell (p := ⟨gt, i, none⟩) (by show g ≤ gt; omega) (.int .i64 xj)
      have hj2 : j < (T.set i xj).length := by simpa using hj
      obtain ⟨xk, hck, _⟩ := T8.get hj
      have hfk := T8.frozen j
      have T9 := T8.store j xi
      have O9 := O8.kept (grownBy_setCell_any _ ⟨gt, j, none⟩ (.int .i64 xi)) nh
      have R9 := R8.kept (grownBy_setCell_any _ ⟨gt, j, none⟩ (.int .i64 xi)) (fun k hk => by cases hk; show g < gt; omega)
      have B9 := B8.setCell (p := ⟨gt, j, none⟩) (by show g ≤ gt; omega) (.int .i64 xi)
      clear T7 O7 R7 B7 T8 O8 R8 B8
      go_wp2
      go_ret3
      exact ⟨m, ah, ch, l, some ⟨gt, 0, none⟩, ct, (T.set i xj).set j xi, _, by simp, hm, O9.reads, HS.out, hl, hlc, T9.reads, (TM.out.1.set mj i).set mi j, by simpa using TM.out.2, R9, by omega, B9⟩
    by_cases s2 : s = 2
    · have d0 : (s == 0) = false := by simpa using s0
      have d1 : (s == 1) = false := by simpa using s1
      have d2 : (s == 2) = true := by simp [s2]
      clear s0 s1 s2
      go_wp2_with fail
      refine (pick_any g _ _ _ R5 (by omega) (by omega)).mono ?_
      rintro e w6 ⟨y6, rfl, hy6, R6, g6⟩
      have B6 := B5.grown g6 (by omega) (fun k hk => by cases hk; omega)
      have T6 : Tab w6 w1.heap.size gt T.length ct T := World.ownsRow.kept T5 g6 ngt
      have O6 := O5.kept g6 (O5.ne_g zg)
      have z6 := B6.size
      clear g6 T5 O5 hy6 B5 R5
      by_cases y60 : y6 = 0
      · have d6 : (y6 == 0) = true := by simp [y60]
        have g6lt := R6.lt
        have hcl : CellsAt (w6.alloc (.cells #[.int .i64 (-2), .int .i64 10, .int .i64 0] 3)) w6.heap.size 0 [-2, 10, 0] := CellsAt.lit w6 [-2, 10, 0]
        have ga := World.grownBy_alloc w6 (.cells #[.int .i64 (-2), .int .i64 10, .int .i64 0] 3) none
        have Ra := R6.kept ga (fun k hk => by cases hk)
        have Ta : Tab _ w1.heap.size gt T.length ct T := World.ownsRow.kept T6 ga (.inr (by simp [Value.ownBlock]))
        have Oa := O6.kept ga (by rcases nh with h | h; exact .inl h; rcases Option.eq_none_or_eq_some ((Value.slice ah l.length ch).ownBlock) with h2 | ⟨k, h2⟩; exact .inl h2; exact .inr (by rw [h2]; simp))
        have Ba := B6.grown ga (by omega) (fun k hk => by cases hk)
        have za := Ba.size
        clear y60 R6 T6 O6 B6 ga
        go_wp2_with fail
        refine (one_any g _ _ _ [-2, 10, 0] _ Ra (by omega) hcl g6lt (by simp) (by simp) 3 rfl).mono ?_
        rintro e w7 ⟨z7, rfl, hz7, R7, g7⟩
        have hz7' : -2 ≤ z7 ∧ z7 ≤ 14 := by simp at hz7; omega
        have B7 := Ba.grown g7 (by omega) (fun k hk => by cases hk; omega)
        have T7 : Tab w7 w1.heap.size gt T.length ct T := World.ownsRow.kept Ta g7 ngt
        have O7 := Oa.kept g7 (Oa.ne_g zg)
        clear g7 Ta Oa hz7 Ba Ra hcl
        have h00 : 0 < T.length := by omega
        obtain ⟨x0, hc0, _⟩ := T7.get h00
        have hf0 := T7.frozen 0
        have T8 := T7.store 0 z7
        have O8 := O7.kept (grownBy_setCell_any w7 ⟨gt, 0, none⟩ (.int .i64 z7)) nh
        have R8 := R7.kept (grownBy_setCell_any w7 ⟨gt, 0, none⟩ (.int .i64 z7)) (fun k hk => by cases hk; show g < gt; omega)
        have B8 := B7.setCell (p := ⟨gt, 0, none⟩) (by show g ≤ gt; omega) (.int .i64 z7)
        clear T7 O7 R7 B7
        go_wp2
        go_ret3
        exact ⟨m, ah, ch, l, some ⟨gt, 0, none⟩, ct, T.set 0 z7, _, by simp, hm, O8.reads, HS.out, hl, hlc, T8.reads, TM.out.1.set hz7' 0, by simpa using TM.out.2, R8, by omega, B8⟩
      · have d6 : (y6 == 0) = false := by simpa using y60
        clear y60
        go_wp2
        go_ret3
        exact ⟨m, ah, ch, l, some ⟨gt, 0, none⟩, ct, T, _, rfl, hm, O6.reads, HS.out, hl, hlc, T6.reads, TM.out.1, TM.out.2, R6, by omega, B6⟩
    · have d0 : (s == 0) = false := by simpa using s0
      have d1 : (s == 1) = false := by simpa using s1
      have d2 : (s == 2) = false := by simpa using s2
      clear s0 s1 s2
      go_wp2
      go_ret3
      exact ⟨m, ah, ch, l, some ⟨gt, 0, none⟩, ct, T, _, rfl, hm, O5.reads, HS.out, hl, hlc, T5.reads, TM.out.1, TM.out.2, R5, by omega, B5⟩
  · have hd : (y == 0) = false := by simpa using hy0
    obtain ⟨T, hT⟩ : ∃ T, T = (LT m l).1 := ⟨_, rfl⟩
    rw [← hT] at T3 LM
    have TM := LM
    clear hy0 hT FM LM
    by_cases hT0 : T.length = 0
    · obtain ⟨at_, ct, rfl, hrt, _, _, _⟩ := T3.form
      have hT1 : (T.length : Int) = 0 := by omega
      go_wp2
      go_ret3
      exact ⟨m, ah, ch, l, at_, ct, T, _, by rw [hT0]; rfl, hm, O3.reads, HS.out, hl, hlc, hrt, TM.out.1, TM.out.2, R3, by omega, B3⟩
    obtain ⟨gt, ct, rfl, hT⟩ := T3.tab hT0
    have zt := hT.block
    have ngt : (Value.slice (some ⟨gt, 0, none⟩) T.length ct).ownBlock = none ∨ (Value.slice (some ⟨gt, 0, none⟩) T.length ct).ownBlock ≠ some g := .inr (by simp [Value.ownBlock]; omega)
    have nh : (Value.slice ah l.length ch).ownBlock = none ∨ (Value.slice ah l.length ch).ownBlock ≠ some gt := hne1.imp id (fun h => h gt zt.1)
    have hTlen := TM.out.2
    have z3b := B3.size
    clear T3
    go_wp2_with fail
    refine (pick_any g _ _ _ R3 (by omega) (by omega)).mono ?_
    rintro e w5 ⟨s, rfl, hs, R5, g5⟩
    have B5 := B3.grown g5 (by omega) (fun k hk => by cases hk; omega)
    have T5 : Tab w5 w1.heap.size gt T.length ct T := World.ownsRow.kept hT g5 ngt
    have O5 := O3.kept g5 (O3.ne_g zg)
    have hs8 := hs.1 (by omega)
    have z5 := B5.size
    clear g5 hT O3 hs B3 R3
    by_cases s0 : s = 0
    · have d0 : (s == 0) = true := by simp [s0]
      clear s0
      go_wp2_with fail
      refine (pick_any g _ _ _ R5 (by omega) (by omega)).mono ?_
      rintro e w6 ⟨y6, rfl, hy6, R6, g6⟩
      have B6 := B5.grown g6 (by omega) (fun k hk => by cases hk; omega)
      have T6 : Tab w6 w1.heap.size gt T.length ct T := World.ownsRow.kept T5 g6 ngt
      have O6 := O5.kept g6 (O5.ne_g zg)
      have hi6 := hy6.1 (by omega)
      clear g6 T5 O5 hy6 B5 R5
      obtain ⟨i, rfl⟩ := Int.eq_ofNat_of_zero_le hi6.1
      have hi : i < T.length := by omega
      obtain ⟨x0, hc0, _⟩ := T6.get hi
      have hf0 := T6.frozen i
      have T7 := T6.store i (-1)
      have O7 := O6.kept (grownBy_setCell_any w6 ⟨gt, i, none⟩ (.int .i64 (-1))) nh
      have R7 := R6.kept (grownBy_setCell_any w6 ⟨gt, i, none⟩ (.int .i64 (-1))) (fun k hk => by cases hk; show g < gt; omega)
      have B7 := B6.setCell (p := ⟨gt, i, none⟩) (by show g ≤ gt; omega) (.int .i64 (-1))
      clear T6 O6 R6 B6
      go_wp2
      go_ret3
      exact ⟨m, ah, ch, l, some ⟨gt, 0, none⟩, ct, T.set i (-1), _, by simp, hm, O7.reads, HS.out, hl, hlc, T7.reads, TM.out.1.set (by omega) i, by simpa using TM.out.2, R7, by omega, B7⟩
    by_cases s1 : s = 1
    · have d0 : (s == 0) = false := by simpa using s0
      have d1 : (s == 1) = true := by simp [s1]
      clear s0 s1
      go_wp2_with fail
      refine (pick_any g _ _ _ R5 (by omega) (by omega)).mono ?_
      rintro e w6 ⟨y6, rfl, hy6, R6, g6⟩
      have B6 := B5.grown g6 (by omega) (fun k hk => by cases hk; omega)
      have T6 : Tab w6 w1.heap.size gt T.length ct T := World.ownsRow.kept T5 g6 ngt
      have O6 := O5.kept g6 (O5.ne_g zg)
      have hi6 := hy6.1 (by omega)
      have z6 := B6.size
      clear g6 T5 O5 hy6 B5 R5
      obtain ⟨i, rfl⟩ := Int.eq_ofNat_of_zero_le hi6.1
      have hi : i < T.length := by omega
      go_wp2_with fail
      refine (pick_any g _ _ _ R6 (by omega) (by omega)).mono ?_
      rintro e w7 ⟨y7, rfl, hy7, R7, g7⟩
      have B7 := B6.grown g7 (by omega) (fun k hk => by cases hk; omega)
      have T7 : Tab w7 w1.heap.size gt T.length ct T := World.ownsRow.kept T6 g7 ngt
      have O7 := O6.kept g7 (O6.ne_g zg)
      have hi7 := hy7.1 (by omega)
      clear g7 T6 O6 hy7 B6 R6
      obtain ⟨j, rfl⟩ := Int.eq_ofNat_of_zero_le hi7.1
      have hj : j < T.length := by omega
      obtain ⟨xi, hci, ei⟩ := T7.get hi
      obtain ⟨xj, hcj, ej⟩ := T7.get hj
      have mi := TM.out.1.get hi
      have mj := TM.out.1.get hj
      rw [ei.out] at mi
      rw [ej.out] at mj
      have hfi := T7.frozen i
      have hfj := T7.frozen j
      have T8 := T7.store i xj
      have O8 := O7.kept (grownBy_setCell_any w7 ⟨gt, i, none⟩ (.int .i64 xj)) nh
      have R8 := R7.kept (grownBy_setCell_any w7 ⟨gt, i, none⟩ (.int .i64 xj)) (fun k hk => by cases hk; show g < gt; omega)
      have B8 := B7.setCell (p := ⟨gt, i, none⟩) (by show g ≤ gt; omega) (.int .i64 xj)
      have hj2 : j < (T.set i xj).length := by simpa using hj
      obtain ⟨xk, hck, _⟩ := T8.get hj
      have hfk := T8.frozen j
      have T9 := T8.store j xi
      have O9 := O8.kept (grownBy_setCell_any _ ⟨gt, j, none⟩ (.int .i64 xi)) nh
      have R9 := R8.kept (grownBy_setCell_any _ ⟨gt, j, none⟩ (.int .i64 xi)) (fun k hk => by cases hk; show g < gt; omega)
      have B9 := B8.setCell (p := ⟨gt, j, none⟩) (by show g ≤ gt; omega) (.int .i64 xi)
      clear T7 O7 R7 B7 T8 O8 R8 B8
      go_wp2
      go_ret3
      exact ⟨m, ah, ch, l, some ⟨gt, 0, none⟩, ct, (T.set i xj).set j xi, _, by simp, hm, O9.reads, HS.out, hl, hlc, T9.reads, (TM.out.1.set mj i).set mi j, by simpa using TM.out.2, R9, by omega, B9⟩
    by_cases s2 : s = 2
    · have d0 : (s == 0) = false := by simpa using s0
      have d1 : (s == 1) = false := by simpa using s1
      have d2 : (s == 2) = true := by simp [s2]
      clear s0 s1 s2
      go_wp2_with fail
      refine (pick_any g _ _ _ R5 (by omega) (by omega)).mono ?_
      rintro e w6 ⟨y6, rfl, hy6, R6, g6⟩
      have B6 := B5.grown g6 (by omega) (fun k hk => by cases hk; omega)
      have T6 : Tab w6 w1.heap.size gt T.length ct T := World.ownsRow.kept T5 g6 ngt
      have O6 := O5.kept g6 (O5.ne_g zg)
      have z6 := B6.size
      clear g6 T5 O5 hy6 B5 R5
      by_cases y60 : y6 = 0
      · have d6 : (y6 == 0) = true := by simp [y60]
        have g6lt := R6.lt
        have hcl : CellsAt (w6.alloc (.cells #[.int .i64 (-2), .int .i64 10, .int .i64 0] 3)) w6.heap.size 0 [-2, 10, 0] := CellsAt.lit w6 [-2, 10, 0]
        have ga := World.grownBy_alloc w6 (.cells #[.int .i64 (-2), .int .i64 10, .int .i64 0] 3) none
        have Ra := R6.kept ga (fun k hk => by cases hk)
        have Ta : Tab _ w1.heap.size gt T.length ct T := World.ownsRow.kept T6 ga (.inr (by simp [Value.ownBlock]))
        have Oa := O6.kept ga (by rcases nh with h | h; exact .inl h; rcases Option.eq_none_or_eq_some ((Value.slice ah l.length ch).ownBlock) with h2 | ⟨k, h2⟩; exact .inl h2; exact .inr (by rw [h2]; simp))
        have Ba := B6.grown ga (by omega) (fun k hk => by cases hk)
        have za := Ba.size
        clear y60 R6 T6 O6 B6 ga
        go_wp2_with fail
        refine (one_any g _ _ _ [-2, 10, 0] _ Ra (by omega) hcl g6lt (by simp) (by simp) 3 rfl).mono ?_
        rintro e w7 ⟨z7, rfl, hz7, R7, g7⟩
        have hz7' : -2 ≤ z7 ∧ z7 ≤ 14 := by simp at hz7; omega
        have B7 := Ba.grown g7 (by omega) (fun k hk => by cases hk; omega)
        have T7 : Tab w7 w1.heap.size gt T.length ct T := World.ownsRow.kept Ta g7 ngt
        have O7 := Oa.kept g7 (Oa.ne_g zg)
        clear g7 Ta Oa hz7 Ba Ra hcl
        have h00 : 0 < T.length := by omega
        obtain ⟨x0, hc0, _⟩ := T7.get h00
        have hf0 := T7.frozen 0
        have T8 := T7.store 0 z7
        have O8 := O7.kept (grownBy_setCell_any w7 ⟨gt, 0, none⟩ (.int .i64 z7)) nh
        have R8 := R7.kept (grownBy_setCell_any w7 ⟨gt, 0, none⟩ (.int .i64 z7)) (fun k hk => by cases hk; show g < gt; omega)
        have B8 := B7.setCell (p := ⟨gt, 0, none⟩) (by show g ≤ gt; omega) (.int .i64 z7)
        clear T7 O7 R7 B7
        go_wp2
        go_ret3
        exact ⟨m, ah, ch, l, some ⟨gt, 0, none⟩, ct, T.set 0 z7, _, by simp, hm, O8.reads, HS.out, hl, hlc, T8.reads, TM.out.1.set hz7' 0, by simpa using TM.out.2, R8, by omega, B8⟩
      · have d6 : (y6 == 0) = false := by simpa using y60
        clear y60
        go_wp2
        go_ret3
        exact ⟨m, ah, ch, l, some ⟨gt, 0, none⟩, ct, T, _, rfl, hm, O6.reads, HS.out, hl, hlc, T6.reads, TM.out.1, TM.out.2, R6, by omega, B6⟩
    · have d0 : (s == 0) = false := by simpa using s0
      have d1 : (s == 1) = false := by simpa using s1
      have d2 : (s == 2) = false := by simpa using s2
      clear s0 s1 s2
      go_wp2
      go_ret3
      exact ⟨m, ah, ch, l, some ⟨gt, 0, none⟩, ct, T, _, rfl, hm, O5.reads, HS.out, hl, hlc, T5.reads, TM.out.1, TM.out.2, R5, by omega, B5⟩

end Go.Proofs.Ytapkalpmnldhpab
