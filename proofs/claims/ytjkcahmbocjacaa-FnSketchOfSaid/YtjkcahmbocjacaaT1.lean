/-
  impl.thingsOf, impl.tally's row.
-/
import Derived.Test.YtjkcahmbocjacaaT0
import Derived.Test.YtjkcahmbocjacaaTc
namespace Go.Proofs.Ytjkcahmbocjacaa
open Go.RowKit Go.Maps

/-- The things below n, each once. -/
def ind (n : Nat) : Int → Nat := fun x => if 0 ≤ x ∧ x < (n : Int) then 1 else 0
set_option maxRecDepth 100000 in
set_option maxHeartbeats 2000000 in
theorem thingsOf_any (n : Nat) (w : World) (hn : n ≤ 100) :
    Calls Try.prog 94 #[.int .i64 (n : Int)] w fun e w' => e = .returned (.map (some w.heap.size)) ∧ Tal w' w.heap.size (ind n) n ∧ Below w.heap.size w w' := by
  have hmm := @run_makeMap Try.prog
  have hT0 : Tal (w.alloc (.map #[] 0)) w.heap.size (ind 0) 0 := (Tal.made w).congr fun x => by unfold ind; rw [if_neg (by omega)]
  have hB0 := (Below.refl w.heap.size w).alloc (Nat.le_refl _) (.map #[] 0)
  go_enter Try.func94, Try.ntmps94
  go_wp2
  go_loopw [7] (fun kv wr => ∃ k : Nat, k ≤ n ∧ kv = .int .i64 (k : Int) ∧ Tal wr w.heap.size (ind k) k ∧ Below w.heap.size w wr) (fun kv _ => n - (intOf kv).toNat)
  case atStart => exact ⟨0, by omega, rfl, hT0, hB0⟩
  case round =>
    clear hT0 hB0
    obtain ⟨k, hk, rfl, hT, hB⟩ := hrel
    by_cases hlt : k < n
    · have hk1 : (k : Int) < (n : Int) := by omega
      have hik : ind k (k : Int) = 0 := by unfold ind; rw [if_neg (by omega)]
      have ca := add_any w.heap.size (ind k) k (k : Int) wr hT (by unfold In64; omega) (by omega) (by omega)
      rw [hik, if_neg (by omega)] at ca
      have CA := Lib.hid ca
      clear ca hik hT
      go_wp2_with fail
      refine CA.out.mono ?_
      rintro e w2 ⟨⟨v, rfl⟩, hT2, hg2⟩
      have hB2 := hB.grown hg2 hB.size (fun j hj => by cases hj; exact Nat.le_refl _)
      have hT3 : Tal w2 w.heap.size (ind (k + 1)) (k + 1) := hT2.congr fun x => by
        unfold upd ind
        by_cases e : x = (k : Int)
        · rw [if_pos e, if_pos (by omega)]
        · rw [if_neg e]
          by_cases e2 : 0 ≤ x ∧ x < (k : Int)
          · rw [if_pos e2, if_pos (by omega)]
          · rw [if_neg e2, if_neg (by omega)]
      clear hT2 hg2 hB
      go_wp2
      go_roundw
      case rel => exact ⟨k + 1, by omega, by go_num, hT3, hB2⟩
      case measure => simp [intOf]; omega
    · obtain rfl : k = n := by omega
      go_wp2
      go_ret
      exact ⟨rfl, hT, hB⟩

theorem sameInt (x y : Int) : (Lit.int .i64 x).sameKey (Lit.int .i64 y) = decide (x = y) := by
  simp [Lit.sameKey]
theorem set_getD {l : List Int} {p q : Nat} {v : Int} (h : p < l.length) : (l.set p v).getD q 0 = if p = q then v else l.getD q 0 := by
  by_cases e : p = q
  · subst e; simp [List.getD, h]
  · simp [List.getD, e]
set_option maxRecDepth 100000 in
set_option maxHeartbeats 4000000 in
theorem row_any (b : Nat) (c : Int → Nat) (m B : Nat) (w : World) (hT : Tal w b c m) (hB : B ≤ 16) (hc : ∀ x, 0 < c x → (0 ≤ x ∧ x < (B : Int)) ∧ c x ≤ 1000) :
    Calls Try.prog 80 #[.map (some b), .int .i64 (B : Int)] w fun e w' => e = .returned (.slice (some ⟨w.heap.size, 0, none⟩) B B) ∧ Tab w' w.heap.size w.heap.size B B ((List.range B).map fun p : Nat => ((c (p : Int) : Nat) : Int)) ∧ Below w.heap.size w w' := by
  have hbl := hT.lt
  obtain ⟨D, h0, h1, h2, h3⟩ := hT
  obtain ⟨i0, hi, hz0, hz1, hz2⟩ := info_parts infoInt
  have H2 := Lib.hid h2
  have H3 := Lib.hid h3
  have HC := Lib.hid hc
  clear h2 h3 hc
  go_enter Try.func80, Try.ntmps80
  go_wp2_with (refine wpList_make_full _ rfl _ _ 36 rfl w.heap.size 3 i0 (.int .i64 0) 1 Try.underlying36 hi hz0 hz1 .i64 .i64 _ _ B rfl rfl rfl rfl ?c1 ?c2 ?c3 ?_)
  case c1 => rw [hz2]; omega
  case c2 => unfold maxLen; omega
  case c3 => exact Nat.le_refl _
  intro wA hown hgrow
  have hbA : Below w.heap.size w wA := (Below.refl _ _).grown hgrow (Nat.le_refl _) (fun k h => by cases h)
  have hTab : Tab wA w.heap.size w.heap.size B B (List.replicate B 0) := by
    unfold Tab; rw [List.map_replicate, ← toList_madeCells_one]; exact hown
  have hDA := h0.kept hgrow (by simp)
  have hgA := hTab.block.2
  clear hown hgrow hi hz0 hz1 hz2 h0
  go_wp2_with (first
    | (at_range; refine wpList_range_own _ rfl _ 74 rfl 3 3 lawI Try.underlying74 _ b m _ rfl hDA ?_; intro w0 hrg0 hg0 hs0)
    | go_in)
  go_frame
  have hT1 : Tab w0 w.heap.size w.heap.size B B (List.replicate B 0) := by unfold Tab at hTab ⊢; exact World.ownsRow.kept hTab hg0 (.inr (by simp [Value.ownBlock]))
  have hB1 := hbA.grown hg0 hbA.size (fun k h => by cases h)
  clear hs0 hg0 hTab hbA
  go_loopw [6] (fun _ wr => ∃ (left : Lit → Bool) (cnt : Nat) (l : List Int), wr.ranges Try.prog 3 (plainElem Try.prog 3) b wA.heap.size m D left cnt ∧ Tab wr w.heap.size w.heap.size B B l ∧ Hid (∀ p : Nat, p < B → l.getD p 0 = if left (.int .i64 (p : Int)) = true then 0 else ((c (p : Int) : Nat) : Int)) ∧ Below w.heap.size w wr)
    (fun _ wr => wr.rangeLeft b wA.heap.size)
  case atStart =>
    refine ⟨_, _, _, hrg0, hT1, ?_, hB1⟩
    show ∀ p : Nat, p < B → _
    intro p hp
    rw [H2.out]
    by_cases e : 0 < c (p : Int)
    · rw [decide_eq_true e, if_pos rfl]; simp [List.getD, hp]
    · rw [decide_eq_false e, if_neg (by simp)]
      have : c (p : Int) = 0 := by omega
      rw [this]; simp [List.getD, hp]
  case round =>
    clear hrg0 hT1 hB1 hDA
    obtain ⟨left, cnt, l, hrg, hTb, hl, hBw⟩ := hrel
    have hll := hTb.len
    go_wp2_with (first
      | (at_next; refine wpList_next_ranges_ii _ rfl _ rfl 3 3 .i64 .i64 lawI Try.underlying3 Try.underlying3 b wA.heap.size m _ _ _ rfl hrg ?_ ?_)
      | go_in)
    · intro hc0 hl0
      have hfin : l = (List.range B).map fun p : Nat => ((c (p : Int) : Nat) : Int) := by
        apply List.ext_getElem
        · simp [hll]
        · intro i i1 i2
          have := hl.out i (by omega)
          rw [hl0, if_neg (by simp)] at this
          simp only [List.getD, List.getElem?_eq_getElem i1, Option.getD_some] at this
          simp [this]
      rw [hfin] at hTb
      clear hl hfin hll hrg hl0
      go_wp2
      go_ret
      exact ⟨rfl, hTb, hBw⟩
    · intro x cv w1 cnt1 hwx hwc hlx hat hrg1 hlt hg1 hs1 hen
      have hcv : cv = ((c x : Nat) : Int) := by
        have := H3.out x
        rw [hat] at this
        injection this with e; injection e
      have hpos : 0 < c x := by
        have := has_true_of_atKey hat
        rw [H2.out x] at this
        simpa using this
      obtain ⟨hxr, hcx⟩ := HC.out x hpos
      obtain ⟨p, rfl⟩ : ∃ p : Nat, x = p := ⟨x.toNat, by omega⟩
      subst hcv
      have hp : p < B := by omega
      have hp1 : (p : Int) < (B : Int) := by omega
      have hgne : w.heap.size ≠ wA.heap.size := by omega
      have hT1 := hTb.kept' hg1 (by omega)
      have hB1 := hBw.grown hg1 hBw.size (fun k hk => by cases hk; omega)
      obtain ⟨y, hcy, _⟩ := hT1.get hp
      have hfy := hT1.frozen p
      have hT2 := hT1.store p ((c (p : Int) : Nat) : Int)
      obtain ⟨_, hg2⟩ := World.ownsRow.stored hT1 p (.int .i64 ((c (p : Int) : Nat) : Int))
      have hB2 := hB1.setCell (p := ⟨w.heap.size, p, none⟩) (Nat.le_refl _) (.int .i64 ((c (p : Int) : Nat) : Int))
      have hrg2 := hrg1.kept hg2 (fun e => by have := Option.some.inj e; omega) (fun e => by have := Option.some.inj e; omega)
      have hl2 : Hid (∀ q : Nat, q < B → (l.set p ((c (p : Int) : Nat) : Int)).getD q 0 = if (left (.int .i64 (q : Int)) && !(Lit.int .i64 (q : Int)).sameKey (.int .i64 (p : Int))) = true then 0 else ((c (q : Int) : Nat) : Int)) := by
        show ∀ q : Nat, q < B → _
        intro q hq
        rw [set_getD (by omega), sameInt]
        by_cases e : p = q
        · subst e; simp
        · rw [if_neg e, hl.out q hq]
          have : ¬ ((q : Int) = (p : Int)) := by omega
          simp [this]
      clear hs1 hl hTb hT1 hg1 hg2 hrg1 hlx hat hBw hB1
      go_wp2
      go_roundw
      case rel => exact ⟨_, cnt1, _, hrg2, hT2, hl2, hB2⟩
      case measure => rw [hrg2.left_eq, hrg.left_eq]; exact hlt
end Go.Proofs.Ytjkcahmbocjacaa
