/-
  spec.someTable again, with where its slices lie; TakeOut's draw.
-/
import Derived.Test.YtapkalpmnldhpabD4
namespace Go.Proofs.Ytapkalpmnldhpab
open Go.RowKit

set_option maxHeartbeats 8000000 in
theorem someTable2_any (g p : Nat) (w : World) (hR : Rdr w g p) (hp : p ≤ 700000) :
    Calls Try.prog 57 #[.pointer (some ⟨g, 0, none⟩)] w fun e w' => ∃ (m : Int) (ah : Option Addr) (ch : Nat) (l : List Int) (at_ : Option Addr) (ct : Nat) (t : List Int) (q : Nat), e = .returned (.tuple #[.int .i64 m, .slice ah l.length ch, .slice at_ t.length ct]) ∧ (-1 ≤ m ∧ m ≤ 11) ∧ Reads w' ah l ∧ Small l ∧ l.length ≤ 14 ∧ l.length ≤ ch ∧ Reads w' at_ t ∧ Mild t ∧ t.length ≤ 10 ∧ Rdr w' g q ∧ q ≤ p + 200 ∧ Below g w w' ∧ (∀ x, ah = some x → g < x.block) ∧ (∀ x, at_ = some x → g < x.block) := by
  have zg := hR.lt
  have Bw := Below.refl g w
  go_enter Try.func57, Try.ntmps57
  go_wp2_with fail
  refine (someHomes_any g p w hR (by omega)).mono ?_
  rintro e w1 ⟨m, v, l, q, rfl, hm, ho, hl, hs, hv, hR1, hq, hg⟩
  have B1 := Bw.grown hg (by omega) (fun k hk => by cases hk; omega)
  obtain ⟨ah, ch, rfl, hr, hlc, hcm, hblk⟩ := ho.form
  have z1 := B1.size
  have hm64 : In64 m := by unfold In64; omega
  have HS := Lib.hid hs
  have hne1 : (Value.slice ah l.length ch).ownBlock = none ∨ ∀ k, w1.heap.size ≤ k → (Value.slice ah l.length ch).ownBlock ≠ some k := by
    right; intro k hk e; have := (ho.lt k e).2; omega
  have LM := Lib.hid (LT_mild (m := m) hl)
  have FM := Lib.hid (FT_mild (m := m) hl)
  have hl64 := hs.in64
  clear hR Bw hg hs hblk hcm hv
  go_wp2_with fail
  refine (specLinearTable_any m _ l _ _ hm64 hr hl64 (by omega)).mono ?_
  rintro e w2 ⟨vt, rfl, ht, b2⟩
  have B2 := B1.trans (b2.mono (by omega))
  have R2 := hR1.below b2
  have O2 := ho.below b2
  have z2 := B2.size
  have z2' := b2.size
  clear b2 hR1
  go_wp2_with fail
  refine (pick_any g q _ _ R2 (by omega) (by omega)).mono ?_
  rintro e w3 ⟨y, rfl, hy, R3, g3⟩
  have B3 := B2.grown g3 (by omega) (fun k hk => by cases hk; omega)
  have T3 := ht.kept g3 (ht.ne_g (by omega))
  have O3 := O2.kept g3 (O2.ne_g zg)
  have z3 := g3.size
  clear g3 ht O2 hy B2 R2
  by_cases hy0 : y = 0
  · have hd : (y == 0) = true := by simp [hy0]
    clear hy0 T3
    go_wp2_with fail
    refine (specFairTable_any m _ l _ _ hm64 O3.reads hl64 (by omega)).mono ?_
    rintro e w4 ⟨vf, rfl, ht, b4⟩
    have B4 := B3.trans (b4.mono (by omega))
    have R4 := R3.below b4
    have O4 := O3.below b4
    replace ht := ht.base (base' := w1.heap.size) (by omega)
    obtain ⟨T, hT⟩ : ∃ T, T = FT m l := ⟨_, rfl⟩
    rw [← hT] at ht FM
    clear hT b4 B3 R3 O3 LM
    have B3 := B4
    have R3 := R4
    have O3 := O4
    have T3 := ht
    have TM := FM
    clear B4 R4 O4 ht FM
    by_cases hT0 : T.length = 0
    · obtain ⟨at_, ct, rfl, hrt, _, _, hbk⟩ := T3.form
      have hT1 : (T.length : Int) = 0 := by omega
      go_wp2
      go_ret3
      exact ⟨m, ah, ch, l, at_, ct, T, _, by rw [hT0]; rfl, hm, O3.reads, HS.out, hl, hlc, hrt, TM.out.1, TM.out.2, R3, by omega, B3, fun x hx => by obtain ⟨a', c', e', _, _, _, hb⟩ := O3.form; cases e'; have := (hb x hx).2.2.1; omega, fun x hx => by have := (hbk x hx).2.2.1; omega⟩
    obtain ⟨gt, ct, rfl, hT⟩ := T3.tab hT0
    have zt := hT.block
    have ngt : (Value.slice (some ⟨gt, 0, none⟩) T.length ct).ownBlock = none ∨ (Value.slice (some ⟨gt, 0, none⟩) T.length ct).ownBlock ≠ some g := .inr (by simp [Value.ownBlock]; omega)
    have nh : (Value.slice ah l.length ch).ownBlock = none ∨ (Value.slice ah l.length ch).ownBlock ≠ some gt := hne1.imp id (fun h => h gt zt.1)
    have hTlen := TM.out.2
    have z3b := B3.size
    clear T3
    go_wp2_with fail
    refine (pick_any g _ _ _ R3 (by omega) (by omega)).mono ?_
    rintro e w5 ⟨s, rfl, hs, R5, g5⟩
    have B5 := B3.grown g5 (by omega) (fun k hk => by cases hk; omega)
    have T5 : Tab w5 w1.heap.size gt T.length ct T := World.ownsRow.kept hT g5 ngt
    have O5 := O3.kept g5 (O3.ne_g zg)
    have hs8 := hs.1 (by omega)
    have z5 := B5.size
    clear g5 hT O3 hs B3 R3
    by_cases s0 : s = 0
    · have d0 : (s == 0) = true := by simp [s0]
      clear s0
      go_wp2_with fail
      refine (pick_any g _ _ _ R5 (by omega) (by omega)).mono ?_
      rintro e w6 ⟨y6, rfl, hy6, R6, g6⟩
      have B6 := B5.grown g6 (by omega) (fun k hk => by cases hk; omega)
      have T6 : Tab w6 w1.heap.size gt T.length ct T := World.ownsRow.kept T5 g6 ngt
      have O6 := O5.kept g6 (O5.ne_g zg)
      have hi6 := hy6.1 (by omega)
      clear g6 T5 O5 hy6 B5 R5
      obtain ⟨i, rfl⟩ := Int.eq_ofNat_of_zero_le hi6.1
      have hi : i < T.length := by omega
      obtain ⟨x0, hc0, _⟩ := T6.get hi
      have hf0 := T6.frozen i
      have T7 := T6.store i (-1)
      have O7 := O6.kept (grownBy_setCell_any w6 ⟨gt, i, none⟩ (.int .i64 (-1))) nh
      have R7 := R6.kept (grownBy_setCell_any w6 ⟨gt, i, none⟩ (.int .i64 (-1))) (fun k hk => by cases hk; show g < gt; omega)
      have B7 := B6.setCell (p := ⟨gt, i, none⟩) (by show g ≤ gt; omega) (.int .i64 (-1))
      clear T6 O6 R6 B6
      go_wp2
      go_ret3
      exact ⟨m, ah, ch, l, some ⟨gt, 0, none⟩, ct, T.set i (-1), _, by simp, hm, O7.reads, HS.out, hl, hlc, T7.reads, TM.out.1.set (by omega) i, by simpa using TM.out.2, R7, by omega, B7, fun x hx => by obtain ⟨a', c', e', _, _, _, hb⟩ := O7.form; cases e'; have := (hb x hx).2.2.1; omega, fun x hx => by cases hx; show g < gt; omega⟩
    by_cases s1 : s = 1
    · have d0 : (s == 0) = false := by simpa using s0
      have d1 : (s == 1) = true := by simp [s1]
      clear s0 s1
      go_wp2_with fail
      refine (pick_any g _ _ _ R5 (by omega) (by omega)).mono ?_
      rintro e w6 ⟨y6, rfl, hy6, R6, g6⟩
      have B6 := B5.grown g6 (by omega) (fun k hk => by cases hk; omega)
      have T6 : Tab w6 w1.heap.size gt T.length ct T := World.ownsRow.kept T5 g6 ngt
      have O6 := O5.kept g6 (O5.ne_g zg)
      have hi6 := hy6.1 (by omega)
      have z6 := B6.size
      clear g6 T5 O5 hy6 B5 R5
      obtain ⟨i, rfl⟩ := Int.eq_ofNat_of_zero_le hi6.1
      have hi : i < T.length := by omega
      go_wp2_with fail
      refine (pick_any g _ _ _ R6 (by omega) (by omega)).mono ?_
      rintro e w7 ⟨y7, rfl, hy7, R7, g7⟩
      have B7 := B6.grown g7 (by omega) (fun k hk => by cases hk; omega)
      have T7 : Tab w7 w1.heap.size gt T.length ct T := World.ownsRow.kept T6 g7 ngt
      have O7 := O6.kept g7 (O6.ne_g zg)
      have hi7 := hy7.1 (by omega)
      clear g7 T6 O6 hy7 B6 R6
      obtain ⟨j, rfl⟩ := Int.eq_ofNat_of_zero_le hi7.1
      have hj : j < T.length := by omega
      obtain ⟨xi, hci, ei⟩ := T7.get hi
      obtain ⟨xj, hcj, ej⟩ := T7.get hj
      have mi := TM.out.1.get hi
      have mj := TM.out.1.get hj
      rw [ei.out] at mi
      rw [ej.out] at mj
      have hfi := T7.frozen i
      have hfj := T7.frozen j
      have T8 := T7.store i xj
      have O8 := O7.kept (grownBy_setCell_any w7 ⟨gt, i, none⟩ (.int .i64 xj)) nh
      have R8 := R7.kept (grownBy_setCell_any w7 ⟨gt, i, none⟩ (.int .i64 xj)) (fun k hk => by cases hk; show g < gt; omega)
      have B8 := B7.setCell (p := ⟨gt, i, none⟩) (by show g ≤ gt; omega) (.int .i64 xj)
      have hj2 : j < (T.set i xj).length := by simpa using hj
      obtain ⟨xk, hck, _⟩ := T8.get hj
      have hfk := T8.frozen j
      have T9 := T8.store j xi
      have O9 := O8.kept (grownBy_setCell_any _ ⟨gt, j, none⟩ (.int .i64 xi)) nh
      have R9 := R8.kept (grownBy_setCell_any _ ⟨gt, j, none⟩ (.int .i64 xi)) (fun k hk => by cases hk; show g < gt; omega)
      have B9 := B8.setCell (p := ⟨gt, j, none⟩) (by show g ≤ gt; omega) (.int .i64 xi)
      clear T7 O7 R7 B7 T8 O8 R8 B8
      go_wp2
      go_ret3
      exact ⟨m, ah, ch, l, some ⟨gt, 0, none⟩, ct, (T.set i xj).set j xi, _, by simp, hm, O9.reads, HS.out, hl, hlc, T9.reads, (TM.out.1.set mj i).set mi j, by simpa using TM.out.2, R9, by omega, B9, fun x hx => by obtain ⟨a', c', e', _, _, _, hb⟩ := O9.form; cases e'; have := (hb x hx).2.2.1; omega, fun x hx => by cases hx; show g < gt; omega⟩
    by_cases s2 : s = 2
    · have d0 : (s == 0) = false := by simpa using s0
      have d1 : (s == 1) = false := by simpa using s1
      have d2 : (s == 2) = true := by simp [s2]
      clear s0 s1 s2
      go_wp2_with fail
      refine (pick_any g _ _ _ R5 (by omega) (by omega)).mono ?_
      rintro e w6 ⟨y6, rfl, hy6, R6, g6⟩
      have B6 := B5.grown g6 (by omega) (fun k hk => by cases hk; omega)
      have T6 : Tab w6 w1.heap.size gt T.length ct T := World.ownsRow.kept T5 g6 ngt
      have O6 := O5.kept g6 (O5.ne_g zg)
      have z6 := B6.size
      clear g6 T5 O5 hy6 B5 R5
      by_cases y60 : y6 = 0
      · have d6 : (y6 == 0) = true := by simp [y60]
        have g6lt := R6.lt
        have hcl : CellsAt (w6.alloc (.cells #[.int .i64 (-2), .int .i64 10, .int .i64 0] 3)) w6.heap.size 0 [-2, 10, 0] := CellsAt.lit w6 [-2, 10, 0]
        have ga := World.grownBy_alloc w6 (.cells #[.int .i64 (-2), .int .i64 10, .int .i64 0] 3) none
        have Ra := R6.kept ga (fun k hk => by cases hk)
        have Ta : Tab _ w1.heap.size gt T.length ct T := World.ownsRow.kept T6 ga (.inr (by simp [Value.ownBlock]))
        have Oa := O6.kept ga (by rcases nh with h | h; exact .inl h; rcases Option.eq_none_or_eq_some ((Value.slice ah l.length ch).ownBlock) with h2 | ⟨k, h2⟩; exact .inl h2; exact .inr (by rw [h2]; simp))
        have Ba := B6.grown ga (by omega) (fun k hk => by cases hk)
        have za := Ba.size
        clear y60 R6 T6 O6 B6 ga
        go_wp2_with fail
        refine (one_any g _ _ _ [-2, 10, 0] _ Ra (by omega) hcl g6lt (by simp) (by simp) 3 rfl).mono ?_
        rintro e w7 ⟨z7, rfl, hz7, R7, g7⟩
        have hz7' : -2 ≤ z7 ∧ z7 ≤ 14 := by simp at hz7; omega
        have B7 := Ba.grown g7 (by omega) (fun k hk => by cases hk; omega)
        have T7 : Tab w7 w1.heap.size gt T.length ct T := World.ownsRow.kept Ta g7 ngt
        have O7 := Oa.kept g7 (Oa.ne_g zg)
        clear g7 Ta Oa hz7 Ba Ra hcl
        have h00 : 0 < T.length := by omega
        obtain ⟨x0, hc0, _⟩ := T7.get h00
        have hf0 := T7.frozen 0
        have T8 := T7.store 0 z7
        have O8 := O7.kept (grownBy_setCell_any w7 ⟨gt, 0, none⟩ (.int .i64 z7)) nh
        have R8 := R7.kept (grownBy_setCell_any w7 ⟨gt, 0, none⟩ (.int .i64 z7)) (fun k hk => by cases hk; show g < gt; omega)
        have B8 := B7.setCell (p := ⟨gt, 0, none⟩) (by show g ≤ gt; omega) (.int .i64 z7)
        clear T7 O7 R7 B7
        go_wp2
        go_ret3
        exact ⟨m, ah, ch, l, some ⟨gt, 0, none⟩, ct, T.set 0 z7, _, by simp, hm, O8.reads, HS.out, hl, hlc, T8.reads, TM.out.1.set hz7' 0, by simpa using TM.out.2, R8, by omega, B8, fun x hx => by obtain ⟨a', c', e', _, _, _, hb⟩ := O8.form; cases e'; have := (hb x hx).2.2.1; omega, fun x hx => by cases hx; show g < gt; omega⟩
      · have d6 : (y6 == 0) = false := by simpa using y60
        clear y60
        go_wp2
        go_ret3
        exact ⟨m, ah, ch, l, some ⟨gt, 0, none⟩, ct, T, _, rfl, hm, O6.reads, HS.out, hl, hlc, T6.reads, TM.out.1, TM.out.2, R6, by omega, B6, fun x hx => by obtain ⟨a', c', e', _, _, _, hb⟩ := O6.form; cases e'; have := (hb x hx).2.2.1; omega, fun x hx => by cases hx; show g < gt; omega⟩
    · have d0 : (s == 0) = false := by simpa using s0
      have d1 : (s == 1) = false := by simpa using s1
      have d2 : (s == 2) = false := by simpa using s2
      clear s0 s1 s2
      go_wp2
      go_ret3
      exact ⟨m, ah, ch, l, some ⟨gt, 0, none⟩, ct, T, _, rfl, hm, O5.reads, HS.out, hl, hlc, T5.reads, TM.out.1, TM.out.2, R5, by omega, B5, fun x hx => by obtain ⟨a', c', e', _, _, _, hb⟩ := O5.form; cases e'; have := (hb x hx).2.2.1; omega, fun x hx => by cases hx; show g < gt; omega⟩
  · have hd : (y == 0) = false := by simpa using hy0
    obtain ⟨T, hT⟩ : ∃ T, T = (LT m l).1 := ⟨_, rfl⟩
    rw [← hT] at T3 LM
    have TM := LM
    clear hy0 hT FM LM
    by_cases hT0 : T.length = 0
    · obtain ⟨at_, ct, rfl, hrt, _, _, hbk⟩ := T3.form
      have hT1 : (T.length : Int) = 0 := by omega
      go_wp2
      go_ret3
      exact ⟨m, ah, ch, l, at_, ct, T, _, by rw [hT0]; rfl, hm, O3.reads, HS.out, hl, hlc, hrt, TM.out.1, TM.out.2, R3, by omega, B3, fun x hx => by obtain ⟨a', c', e', _, _, _, hb⟩ := O3.form; cases e'; have := (hb x hx).2.2.1; omega, fun x hx => by have := (hbk x hx).2.2.1; omega⟩
    obtain ⟨gt, ct, rfl, hT⟩ := T3.tab hT0
    have zt := hT.block
    have ngt : (Value.slice (some ⟨gt, 0, none⟩) T.length ct).ownBlock = none ∨ (Value.slice (some ⟨gt, 0, none⟩) T.length ct).ownBlock ≠ some g := .inr (by simp [Value.ownBlock]; omega)
    have nh : (Value.slice ah l.length ch).ownBlock = none ∨ (Value.slice ah l.length ch).ownBlock ≠ some gt := hne1.imp id (fun h => h gt zt.1)
    have hTlen := TM.out.2
    have z3b := B3.size
    clear T3
    go_wp2_with fail
    refine (pick_any g _ _ _ R3 (by omega) (by omega)).mono ?_
    rintro e w5 ⟨s, rfl, hs, R5, g5⟩
    have B5 := B3.grown g5 (by omega) (fun k hk => by cases hk; omega)
    have T5 : Tab w5 w1.heap.size gt T.length ct T := World.ownsRow.kept hT g5 ngt
    have O5 := O3.kept g5 (O3.ne_g zg)
    have hs8 := hs.1 (by omega)
    have z5 := B5.size
    clear g5 hT O3 hs B3 R3
    by_cases s0 : s = 0
    · have d0 : (s == 0) = true := by simp [s0]
      clear s0
      go_wp2_with fail
      refine (pick_any g _ _ _ R5 (by omega) (by omega)).mono ?_
      rintro e w6 ⟨y6, rfl, hy6, R6, g6⟩
      have B6 := B5.grown g6 (by omega) (fun k hk => by cases hk; omega)
      have T6 : Tab w6 w1.heap.size gt T.length ct T := World.ownsRow.kept T5 g6 ngt
      have O6 := O5.kept g6 (O5.ne_g zg)
      have hi6 := hy6.1 (by omega)
      clear g6 T5 O5 hy6 B5 R5
      obtain ⟨i, rfl⟩ := Int.eq_ofNat_of_zero_le hi6.1
      have hi : i < T.length := by omega
      obtain ⟨x0, hc0, _⟩ := T6.get hi
      have hf0 := T6.frozen i
      have T7 := T6.store i (-1)
      have O7 := O6.kept (grownBy_setCell_any w6 ⟨gt, i, none⟩ (.int .i64 (-1))) nh
      have R7 := R6.kept (grownBy_setCell_any w6 ⟨gt, i, none⟩ (.int .i64 (-1))) (fun k hk => by cases hk; show g < gt; omega)
      have B7 := B6.setCell (p := ⟨gt, i, none⟩) (by show g ≤ gt; omega) (.int .i64 (-1))
      clear T6 O6 R6 B6
      go_wp2
      go_ret3
      exact ⟨m, ah, ch, l, some ⟨gt, 0, none⟩, ct, T.set i (-1), _, by simp, hm, O7.reads, HS.out, hl, hlc, T7.reads, TM.out.1.set (by omega) i, by simpa using TM.out.2, R7, by omega, B7, fun x hx => by obtain ⟨a', c', e', _, _, _, hb⟩ := O7.form; cases e'; have := (hb x hx).2.2.1; omega, fun x hx => by cases hx; show g < gt; omega⟩
    by_cases s1 : s = 1
    · have d0 : (s == 0) = false := by simpa using s0
      have d1 : (s == 1) = true := by simp [s1]
      clear s0 s1
      go_wp2_with fail
      refine (pick_any g _ _ _ R5 (by omega) (by omega)).mono ?_
      rintro e w6 ⟨y6, rfl, hy6, R6, g6⟩
      have B6 := B5.grown g6 (by omega) (fun k hk => by cases hk; omega)
      have T6 : Tab w6 w1.heap.size gt T.length ct T := World.ownsRow.kept T5 g6 ngt
      have O6 := O5.kept g6 (O5.ne_g zg)
      have hi6 := hy6.1 (by omega)
      have z6 := B6.size
      clear g6 T5 O5 hy6 B5 R5
      obtain ⟨i, rfl⟩ := Int.eq_ofNat_of_zero_le hi6.1
      have hi : i < T.length := by omega
      go_wp2_with fail
      refine (pick_any g _ _ _ R6 (by omega) (by omega)).mono ?_
      rintro e w7 ⟨y7, rfl, hy7, R7, g7⟩
      have B7 := B6.grown g7 (by omega) (fun k hk => by cases hk; omega)
      have T7 : Tab w7 w1.heap.size gt T.length ct T := World.ownsRow.kept T6 g7 ngt
      have O7 := O6.kept g7 (O6.ne_g zg)
      have hi7 := hy7.1 (by omega)
      clear g7 T6 O6 hy7 B6 R6
      obtain ⟨j, rfl⟩ := Int.eq_ofNat_of_zero_le hi7.1
      have hj : j < T.length := by omega
      obtain ⟨xi, hci, ei⟩ := T7.get hi
      obtain ⟨xj, hcj, ej⟩ := T7.get hj
      have mi := TM.out.1.get hi
      have mj := TM.out.1.get hj
      rw [ei.out] at mi
      rw [ej.out] at mj
      have hfi := T7.frozen i
      have hfj := T7.frozen j
      have T8 := T7.store i xj
      have O8 := O7.kept (grownBy_setCell_any w7 ⟨gt, i, none⟩ (.int .i64 xj)) nh
      have R8 := R7.kept (grownBy_setCell_any w7 ⟨gt, i, none⟩ (.int .i64 xj)) (fun k hk => by cases hk; show g < gt; omega)
      have B8 := B7.setCell (p := ⟨gt, i, none⟩) (by show g ≤ gt; omega) (.int .i64 xj)
      have hj2 : j < (T.set i xj).length := by simpa using hj
      obtain ⟨xk, hck, _⟩ := T8.get hj
      have hfk := T8.frozen j
      have T9 := T8.store j xi
      have O9 := O8.kept (grownBy_setCell_any _ ⟨gt, j, none⟩ (.int .i64 xi)) nh
      have R9 := R8.kept (grownBy_setCell_any _ ⟨gt, j, none⟩ (.int .i64 xi)) (fun k hk => by cases hk; show g < gt; omega)
      have B9 := B8.setCell (p := ⟨gt, j, none⟩) (by show g ≤ gt; omega) (.int .i64 xi)
      clear T7 O7 R7 B7 T8 O8 R8 B8
      go_wp2
      go_ret3
      exact ⟨m, ah, ch, l, some ⟨gt, 0, none⟩, ct, (T.set i xj).set j xi, _, by simp, hm, O9.reads, HS.out, hl, hlc, T9.reads, (TM.out.1.set mj i).set mi j, by simpa using TM.out.2, R9, by omega, B9, fun x hx => by obtain ⟨a', c', e', _, _, _, hb⟩ := O9.form; cases e'; have := (hb x hx).2.2.1; omega, fun x hx => by cases hx; show g < gt; omega⟩
    by_cases s2 : s = 2
    · have d0 : (s == 0) = false := by simpa using s0
      have d1 : (s == 1) = false := by simpa using s1
      have d2 : (s == 2) = true := by simp [s2]
      clear s0 s1 s2
      go_wp2_with fail
      refine (pick_any g _ _ _ R5 (by omega) (by omega)).mono ?_
      rintro e w6 ⟨y6, rfl, hy6, R6, g6⟩
      have B6 := B5.grown g6 (by omega) (fun k hk => by cases hk; omega)
      have T6 : Tab w6 w1.heap.size gt T.length ct T := World.ownsRow.kept T5 g6 ngt
      have O6 := O5.kept g6 (O5.ne_g zg)
      have z6 := B6.size
      clear g6 T5 O5 hy6 B5 R5
      by_cases y60 : y6 = 0
      · have d6 : (y6 == 0) = true := by simp [y60]
        have g6lt := R6.lt
        have hcl : CellsAt (w6.alloc (.cells #[.int .i64 (-2), .int .i64 10, .int .i64 0] 3)) w6.heap.size 0 [-2, 10, 0] := CellsAt.lit w6 [-2, 10, 0]
        have ga := World.grownBy_alloc w6 (.cells #[.int .i64 (-2), .int .i64 10, .int .i64 0] 3) none
        have Ra := R6.kept ga (fun k hk => by cases hk)
        have Ta : Tab _ w1.heap.size gt T.length ct T := World.ownsRow.kept T6 ga (.inr (by simp [Value.ownBlock]))
        have Oa := O6.kept ga (by rcases nh with h | h; exact .inl h; rcases Option.eq_none_or_eq_some ((Value.slice ah l.length ch).ownBlock) with h2 | ⟨k, h2⟩; exact .inl h2; exact .inr (by rw [h2]; simp))
        have Ba := B6.grown ga (by omega) (fun k hk => by cases hk)
        have za := Ba.size
        clear y60 R6 T6 O6 B6 ga
        go_wp2_with fail
        refine (one_any g _ _ _ [-2, 10, 0] _ Ra (by omega) hcl g6lt (by simp) (by simp) 3 rfl).mono ?_
        rintro e w7 ⟨z7, rfl, hz7, R7, g7⟩
        have hz7' : -2 ≤ z7 ∧ z7 ≤ 14 := by simp at hz7; omega
        have B7 := Ba.grown g7 (by omega) (fun k hk => by cases hk; omega)
        have T7 : Tab w7 w1.heap.size gt T.length ct T := World.ownsRow.kept Ta g7 ngt
        have O7 := Oa.kept g7 (Oa.ne_g zg)
        clear g7 Ta Oa hz7 Ba Ra hcl
        have h00 : 0 < T.length := by omega
        obtain ⟨x0, hc0, _⟩ := T7.get h00
        have hf0 := T7.frozen 0
        have T8 := T7.store 0 z7
        have O8 := O7.kept (grownBy_setCell_any w7 ⟨gt, 0, none⟩ (.int .i64 z7)) nh
        have R8 := R7.kept (grownBy_setCell_any w7 ⟨gt, 0, none⟩ (.int .i64 z7)) (fun k hk => by cases hk; show g < gt; omega)
        have B8 := B7.setCell (p := ⟨gt, 0, none⟩) (by show g ≤ gt; omega) (.int .i64 z7)
        clear T7 O7 R7 B7
        go_wp2
        go_ret3
        exact ⟨m, ah, ch, l, some ⟨gt, 0, none⟩, ct, T.set 0 z7, _, by simp, hm, O8.reads, HS.out, hl, hlc, T8.reads, TM.out.1.set hz7' 0, by simpa using TM.out.2, R8, by omega, B8, fun x hx => by obtain ⟨a', c', e', _, _, _, hb⟩ := O8.form; cases e'; have := (hb x hx).2.2.1; omega, fun x hx => by cases hx; show g < gt; omega⟩
      · have d6 : (y6 == 0) = false := by simpa using y60
        clear y60
        go_wp2
        go_ret3
        exact ⟨m, ah, ch, l, some ⟨gt, 0, none⟩, ct, T, _, rfl, hm, O6.reads, HS.out, hl, hlc, T6.reads, TM.out.1, TM.out.2, R6, by omega, B6, fun x hx => by obtain ⟨a', c', e', _, _, _, hb⟩ := O6.form; cases e'; have := (hb x hx).2.2.1; omega, fun x hx => by cases hx; show g < gt; omega⟩
    · have d0 : (s == 0) = false := by simpa using s0
      have d1 : (s == 1) = false := by simpa using s1
      have d2 : (s == 2) = false := by simpa using s2
      clear s0 s1 s2
      go_wp2
      go_ret3
      exact ⟨m, ah, ch, l, some ⟨gt, 0, none⟩, ct, T, _, rfl, hm, O5.reads, HS.out, hl, hlc, T5.reads, TM.out.1, TM.out.2, R5, by omega, B5, fun x hx => by obtain ⟨a', c', e', _, _, _, hb⟩ := O5.form; cases e'; have := (hb x hx).2.2.1; omega, fun x hx => by cases hx; show g < gt; omega⟩


theorem Reads.grown {w w' : World} {a : Option Addr} {l : List Int} {g : Nat} (h : Reads w a l) (hg : w.grownBy w' (some g)) (ha : ∀ x, a = some x → g < x.block) : Reads w' a l := by
  rcases h with h0 | ⟨b, off, rfl, hb, hc⟩
  · exact .inl h0
  · have hlt : g < b := ha _ rfl
    refine .inr ⟨b, off, rfl, Nat.lt_of_lt_of_le hb hg.size, fun i hi => ?_⟩
    have e := hg.block b hb (fun e => by cases e; omega)
    exact (World.cell?_of_block (w := w) e).trans (hc i hi)

theorem one_lit' (g p : Nat) (w : World) (l : List Int) (n : Nat) (hR : Rdr w g p) (hp : p ≤ 1000000) (h0 : 0 < l.length) (hl : l.length ≤ 1000000) (hn : l.length = n) :
    Calls Try.prog 44 #[.pointer (some ⟨g, 0, none⟩), .slice (some ⟨w.heap.size, 0, none⟩) n n] (w.alloc (.cells (l.map (Value.int .i64)).toArray 3)) fun e w' => ∃ y, e = .returned (.int .i64 y) ∧ y ∈ l ∧ Rdr w' g (p + 1) ∧ w.grownBy w' (some g) := by
  have hlt := hR.lt
  refine (one_any g p w.heap.size n l _ (hR.below ((Below.refl _ _).alloc (Nat.le_refl _) _)) hp (CellsAt.lit w l) hlt h0 hl n hn).mono ?_
  rintro e w' ⟨y, rfl, hy, hR', hg⟩
  exact ⟨y, rfl, hy, hR', grownBy_trans (World.grownBy_alloc w _ _) hg⟩

set_option maxHeartbeats 4000000 in
theorem drawTakeOut_any (a : Option Addr) (n cap : Nat) (w : World) (hB : Bytes w w.heap.size a n) (hn : n ≤ 9223372036854775807) (hc : n ≤ cap) :
    Calls Try.prog 28 #[.slice a n cap] w fun e w' => ∃ (m : Int) (ah : Option Addr) (ch : Nat) (l : List Int) (at_ : Option Addr) (ct : Nat) (t : List Int) (k : Int), e = .returned (.tuple #[.int .i64 m, .slice ah l.length ch, .slice at_ t.length ct, .int .i64 k]) ∧ (-1 ≤ m ∧ m ≤ 11) ∧ Reads w' ah l ∧ Small l ∧ l.length ≤ 14 ∧ l.length ≤ ch ∧ Reads w' at_ t ∧ Mild t ∧ t.length ≤ 10 ∧ (-1 ≤ k ∧ k ≤ 14) ∧ Below w.heap.size w w' := by
  go_enter Try.func28, Try.ntmps28
  go_wp2_with fail
  refine (newReader_any a n cap w hB hn hc).mono ?_
  rintro e w1 ⟨rfl, hR0, hb1, hs1⟩
  have hz1 := hb1.size
  clear hB hn hc
  go_wp2_with fail
  refine (someTable2_any w.heap.size 0 w1 hR0 (by omega)).mono ?_
  rintro e w2 ⟨m, ah, ch, l, at_, ct, t, q, rfl, hm, rh, hs, hl, hlc, rt, hmi, htl, hR2, hq, hb2, nh, nt⟩
  have hb3 := hb1.trans hb2
  have HN := Lib.hid (And.intro nh nt)
  have HS := Lib.hid (And.intro hs hmi)
  clear hR0 hb1 hb2 nh nt hs hmi
  have hlen : (l.length : Int) ≤ 14 := by omega
  go_wp2_with fail
  refine (pick_any w.heap.size q _ _ hR2 (by omega) (by omega)).mono ?_
  rintro e w3 ⟨y1, rfl, hy1, hR3, hg3⟩
  have hy1' : -1 ≤ y1 ∧ y1 ≤ 14 := by
    by_cases h : 1 ≤ (l.length : Int)
    · have := hy1.1 h; omega
    · have := hy1.2 (by omega); omega
  have rh3 := rh.grown hg3 HN.out.1
  have rt3 := rt.grown hg3 HN.out.2
  have hb4 := hb3.grown hg3 hb3.size (fun k hk => by cases hk; omega)
  clear hR2 rh rt hb3 hg3 hy1
  go_wp2_with fail
  refine (pick_any w.heap.size (q + 1) _ _ hR3 (by omega) (by omega)).mono ?_
  rintro e w4 ⟨y2, rfl, hy2, hR4, hg4⟩
  have hy2' : -1 ≤ y2 ∧ y2 ≤ 14 := by
    by_cases h : 1 ≤ (l.length : Int)
    · have := hy2.1 h; omega
    · have := hy2.2 (by omega); omega
  have rh4 := rh3.grown hg4 HN.out.1
  have rt4 := rt3.grown hg4 HN.out.2
  have hb5 := hb4.grown hg4 hb4.size (fun k hk => by cases hk; omega)
  clear hR3 rh3 rt3 hb4 hg4 hy2
  go_wp2_with fail
  refine (one_lit' w.heap.size (q + 2) w4 [y1, y2, (l.length : Int) - 1, l.length, -1] 5 hR4 (by omega) (by simp) (by simp) rfl).mono ?_
  rintro e w5 ⟨k, rfl, hk, hR5, hg5⟩
  have hk' : -1 ≤ k ∧ k ≤ 14 := by simp at hk; omega
  have rh5 := rh4.grown hg5 HN.out.1
  have rt5 := rt4.grown hg5 HN.out.2
  have hb6 := hb5.grown hg5 hb5.size (fun k hk => by cases hk; omega)
  clear hR4 rh4 rt4 hb5 hg5 hk
  go_wp2
  exact bodyPost_ret (v := .tuple #[.int .i64 m, .slice ah l.length ch, .slice at_ t.length ct, .int .i64 k]) (by simp [results, Try.results28, go_sem]) rfl ⟨m, ah, ch, l, at_, ct, t, k, rfl, hm, rh5, HS.out.1, hl, hlc, rt5, HS.out.2, htl, hk', hb6⟩
end Go.Proofs.Ytapkalpmnldhpab
