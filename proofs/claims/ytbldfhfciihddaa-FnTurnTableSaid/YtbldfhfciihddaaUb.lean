/-
  Slices of pairs (structs of two ints) that read as a list; laws.toTurn, toTurnS, szTurnS, eqTurn, eqTurnS, markTurnS.
-/
import Derived.Test.YtbldfhfciihddaaBase
import Derived.Test.YtbldfhfciihddaaLib
import Derived.Test.YtbldfhfciihddaaG1
import Derived.Deep.MidRow
namespace Go.Proofs.Ytbldfhfciihddaa
open Go.RowKit

/-- The cells from an address on hold the pairs of a list. -/
def PCells (w : World) (b off : Nat) (l : List (Int × Int)) : Prop :=
  ∀ i, i < l.length → w.cell? ⟨b, off + i * 2, none⟩ = some (.int .i64 (pA l i)) ∧ w.cell? ⟨b, off + i * 2 + 1, none⟩ = some (.int .i64 (pB l i))
/-- The slice (its address, its length) reads as the list. -/
def ReadsP (w : World) (a : Option Addr) (l : List (Int × Int)) : Prop := l = [] ∨ ∃ b off, a = some ⟨b, off, none⟩ ∧ b < w.heap.size ∧ PCells w b off l
theorem ReadsP.below {w w' : World} (h : Below w.heap.size w w') {a : Option Addr} {l : List (Int × Int)} (hc : ReadsP w a l) : ReadsP w' a l := by
  rcases hc with h0 | ⟨b, off, ha, hb, hc⟩
  · exact .inl h0
  · exact .inr ⟨b, off, ha, Nat.lt_of_lt_of_le hb h.size, fun i hi => ⟨(h.cell (p := ⟨b, off + i * 2, none⟩) hb).trans (hc i hi).1, (h.cell (p := ⟨b, off + i * 2 + 1, none⟩) hb).trans (hc i hi).2⟩⟩
/-- An element, by names of its own. -/
theorem ReadsP.get {w : World} {a : Option Addr} {l : List (Int × Int)} (h : ReadsP w a l) {k : Nat} (hk : k < l.length) :
    ∃ b off x y, a = some ⟨b, off, none⟩ ∧ b < w.heap.size ∧ w.cell? ⟨b, off + k * 2, none⟩ = some (.int .i64 x) ∧ w.cell? ⟨b, off + k * 2 + 1, none⟩ = some (.int .i64 y) ∧ Hid (pA l k = x) ∧ Hid (pB l k = y) := by
  rcases h with rfl | ⟨b, off, ha, hb, hc⟩
  · simp at hk
  · exact ⟨b, off, _, _, ha, hb, (hc k hk).1, (hc k hk).2, rfl, rfl⟩
theorem ReadsP.nil (w : World) (a : Option Addr) : ReadsP w a [] := .inl rfl

/-- The pairs' cells. -/
def flat (l : List (Int × Int)) : List Value := l.flatMap fun p => [.int .i64 p.1, .int .i64 p.2]
theorem flat_len (l : List (Int × Int)) : (flat l).length = l.length * 2 := by
  induction l with
  | nil => rfl
  | cons p l ih => simp [flat] at ih ⊢; omega
theorem flat_cons (p : Int × Int) (l : List (Int × Int)) : flat (p :: l) = .int .i64 p.1 :: .int .i64 p.2 :: flat l := rfl
theorem flat_append (l l' : List (Int × Int)) : flat (l ++ l') = flat l ++ flat l' := by simp [flat]
theorem flat_get {l : List (Int × Int)} : ∀ {i : Nat}, i < l.length → (flat l)[i * 2]? = some (.int .i64 (pA l i)) ∧ (flat l)[i * 2 + 1]? = some (.int .i64 (pB l i)) := by
  induction l with
  | nil => intro i h; simp at h
  | cons p l ih =>
    intro i h
    cases i with
    | zero => simp [flat_cons, pA, pB]
    | succ i =>
      have := ih (i := i) (by simpa using h)
      rw [flat_cons, show (i + 1) * 2 = i * 2 + 1 + 1 by omega]
      simpa [pA, pB] using this
theorem flat_set {l : List (Int × Int)} : ∀ {i : Nat} {p : Int × Int}, i < l.length → ((flat l).set (i * 2) (.int .i64 p.1)).set (i * 2 + 1) (.int .i64 p.2) = flat (l.set i p) := by
  induction l with
  | nil => intro i p h; simp at h
  | cons q l ih =>
    intro i p h
    cases i with
    | zero => rfl
    | succ i =>
      have := ih (i := i) (p := p) (by simpa using h)
      rw [flat_cons, show (i + 1) * 2 = i * 2 + 1 + 1 by omega]
      simp only [List.set_cons_succ, flat_cons]
      rw [this]

/-- The slice value is the call's own (its block lies from base on) and reads as the pairs. -/
def OwnP (w : World) (base : Nat) (v : Value) (l : List (Int × Int)) : Prop := w.ownsRow base 65 2 v l.length (flat l)
theorem OwnP.nil (w : World) (base : Nat) : OwnP w base (.slice none 0 0) [] := World.ownsRow_nil _ _ _ _
theorem OwnP.form {w : World} {base : Nat} {v : Value} {l : List (Int × Int)} (h : OwnP w base v l) :
    ∃ a cap, v = .slice a l.length cap ∧ ReadsP w a l ∧ l.length ≤ cap ∧ cap ≤ maxLen ∧ (∀ x, a = some x → x.off = 0 ∧ x.spot = none ∧ base ≤ x.block ∧ x.block < w.heap.size) := by
  rcases h.2 with ⟨rfl, h0⟩ | ⟨g, cap, cur, rfl, hb, hg, hn, hm, hs, ht⟩
  · refine ⟨none, 0, by rw [h0], .inl (List.eq_nil_of_length_eq_zero h0), by omega, by unfold maxLen; omega, fun x hx => by cases hx⟩
  · refine ⟨some ⟨g, 0, none⟩, cap, rfl, .inr ⟨g, 0, rfl, (Array.getElem?_eq_some_iff.1 hg).1, fun i hi => ?_⟩, hn, hm, fun x hx => by cases hx; exact ⟨rfl, rfl, hb, (Array.getElem?_eq_some_iff.1 hg).1⟩⟩
    rw [World.ownsRow.cellAt h (0 + i * 2) (by omega), World.ownsRow.cellAt h (0 + i * 2 + 1) (by omega), Nat.zero_add]
    exact flat_get hi
theorem OwnP.reads {w : World} {base : Nat} {a : Option Addr} {n cap : Nat} {l : List (Int × Int)} (h : OwnP w base (.slice a n cap) l) : ReadsP w a l := by
  obtain ⟨a', cap', hv, hr, _⟩ := h.form
  cases hv; exact hr
theorem OwnP.below {w w' : World} {base : Nat} {v : Value} {l : List (Int × Int)} (hb : Below w.heap.size w w') (h : OwnP w base v l) : OwnP w' base v l := by
  refine ⟨h.1, ?_⟩
  rcases h.2 with hn | ⟨g, cap, cur, hv, hbg, hg, r⟩
  · exact .inl hn
  · exact .inr ⟨g, cap, cur, hv, hbg, (hb.block g (Array.getElem?_eq_some_iff.1 hg).1).trans hg, r⟩
theorem OwnP.kept {w w' : World} {base : Nat} {v : Value} {l : List (Int × Int)} {row : Option Nat} (h : OwnP w base v l) (hg : w.grownBy w' row) (hne : v.ownBlock = none ∨ v.ownBlock ≠ row) : OwnP w' base v l :=
  World.ownsRow.kept h hg hne
theorem OwnP.lt {w : World} {base : Nat} {v : Value} {l : List (Int × Int)} (h : OwnP w base v l) : ∀ k, v.ownBlock = some k → base ≤ k ∧ k < w.heap.size := World.ownsRow.lt h
theorem Below.grownP {B : Nat} {a w w' : World} {base : Nat} {v : Value} {l : List (Int × Int)} (h : Below B a w) (ho : OwnP w base v l) (hg : w.grownBy w' v.ownBlock) (hB : B ≤ w.heap.size) (hb : B ≤ base) : Below B a w' :=
  h.grown hg hB fun k hk => Nat.le_trans hb (ho.lt k hk).1

theorem infoTurn : (Try.prog.info? 65).map (fun i => (i.zero, i.size, i.bytes)) = some (some (.agg #[.int .i64 0, .int .i64 0]), 2, 16) := by kernel_rfl

/-- What toTurnS has copied. -/
def copP (l : List (Int × Int)) (k : Nat) : List (Int × Int) := l.take k ++ List.replicate (l.length - k) (0, 0)
theorem copP_len (l : List (Int × Int)) (k : Nat) (h : k ≤ l.length) : (copP l k).length = l.length := by simp [copP]; omega
theorem copP_all (l : List (Int × Int)) : copP l l.length = l := by simp [copP]
theorem copP_succ (l : List (Int × Int)) (k : Nat) (h : k < l.length) : (copP l k).set k (pA l k, pB l k) = copP l (k + 1) := by
  have e : (l.take k).length = k := by simp; omega
  unfold copP
  rw [List.set_append_right _ _ (by omega), e, Nat.sub_self, show l.length - k = (l.length - (k + 1)) + 1 by omega, List.replicate_succ, List.set_cons_zero, List.take_succ_eq_append_getElem h, List.append_assoc]
  rw [pA_eq h, pB_eq h]
  rfl
theorem flat_zero (n : Nat) : flat (List.replicate n (0, 0)) = (madeCells #[.int .i64 0, .int .i64 0] (n * 2)).toList := by
  refine List.ext_getElem? fun i => ?_
  have hl := flat_len (List.replicate n ((0 : Int), (0 : Int)))
  rw [List.length_replicate] at hl
  by_cases hi : i < n * 2
  · obtain ⟨j, hj, h⟩ : ∃ j, j < n ∧ (i = j * 2 ∨ i = j * 2 + 1) := ⟨i / 2, by omega, by omega⟩
    have g := flat_get (l := List.replicate n ((0 : Int), (0 : Int))) (i := j) (by simpa using hj)
    have eA : pA (List.replicate n ((0 : Int), (0 : Int))) j = 0 := by simp [pA, List.getD, List.getElem?_replicate, hj]
    have eB : pB (List.replicate n ((0 : Int), (0 : Int))) j = 0 := by simp [pB, List.getD, List.getElem?_replicate, hj]
    rw [eA, eB] at g
    have hm : ∀ q, (madeCells #[.int .i64 0, .int .i64 0] (n * 2)).toList[q]? = if q < n * 2 then some (.int .i64 0) else none := by
      intro q
      by_cases hq : q < n * 2
      · rw [if_pos hq]
        have : q % 2 = 0 ∨ q % 2 = 1 := by omega
        rcases this with h | h <;> simp [madeCells, hq, h]
      · rw [if_neg hq]; simp [madeCells]; omega
    rw [hm i, if_pos hi]
    rcases h with rfl | rfl
    · exact g.1
    · exact g.2
  · rw [List.getElem?_eq_none (by omega), List.getElem?_eq_none (by simp [madeCells]; omega)]

set_option maxHeartbeats 400000 in
theorem toTurn_any (x y : Int) (w : World) :
    Calls Try.prog 80 #[.agg #[.int .i64 x, .int .i64 y]] w fun e w' => e = .returned (.agg #[.int .i64 x, .int .i64 y]) ∧ Below w.heap.size w w' := by
  go_enter Try.func80, Try.ntmps80
  go_wp2
  exact bodyPost_ret (v := .agg #[.int .i64 x, .int .i64 y]) (by simp [results, Try.results80, go_sem]) rfl ⟨rfl, (((Below.refl _ _).alloc (Nat.le_refl _) _).alloc (by simp) _).alloc (by simp; omega) _⟩

set_option maxHeartbeats 1000000 in
theorem toTurnS_any (a : Option Addr) (l : List (Int × Int)) (cap : Nat) (w : World) (hr : ReadsP w a l) (hl : l.length ≤ 1048586) :
    Calls Try.prog 53 #[.slice a l.length cap] w fun e w' => e = .returned (.slice (some ⟨w.heap.size, 0, none⟩) l.length l.length) ∧ OwnP w' w.heap.size (.slice (some ⟨w.heap.size, 0, none⟩) l.length l.length) l ∧ Below w.heap.size w w' ∧ w.heap.size < w'.heap.size := by
  obtain ⟨i0, hi, hz0, hz1, hz2⟩ := info_parts infoTurn
  go_enter Try.func53, Try.ntmps53
  go_wp2_with (refine wpList_make_full _ rfl _ _ 38 rfl w.heap.size 65 i0 (.agg #[.int .i64 0, .int .i64 0]) 2 Try.underlying38 hi hz0 hz1 .i64 .i64 _ _ l.length rfl rfl rfl rfl ?c1 ?c2 ?c3 ?_)
  case c1 => rw [hz2]; omega
  case c2 => unfold maxLen; omega
  case c3 => exact Nat.le_refl _
  intro w1 hown hgrow
  have hb1 : Below w.heap.size w w1 := (Below.refl _ _).grown hgrow (Nat.le_refl _) (fun k h => by cases h)
  have hown1 : w1.ownsRow w.heap.size 65 2 (.slice (some ⟨w.heap.size, 0, none⟩) l.length l.length) l.length (flat (copP l 0)) := by
    have e : copP l 0 = List.replicate l.length (0, 0) := by simp [copP]
    rw [e, flat_zero]; exact hown
  clear hown hgrow hi hz0 hz1 hz2
  go_wp2
  go_loopw [4] (fun i wr => ∃ k : Nat, k ≤ l.length ∧ i = .int .i64 k ∧ wr.ownsRow w.heap.size 65 2 (.slice (some ⟨w.heap.size, 0, none⟩) l.length l.length) l.length (flat (copP l k)) ∧ Below w.heap.size w wr) (fun i _ => l.length - (intOf i).toNat)
  case atStart => exact ⟨0, Nat.zero_le _, rfl, hown1, hb1⟩
  case round =>
    clear hown1 hb1
    obtain ⟨k, hk, rfl, hown, hb⟩ := hrel
    have hsz := (hown.lt w.heap.size rfl).2
    by_cases hlt : k < l.length
    · obtain ⟨b, off, x, y, rfl, hbb, hcx, hcy, hx, hy⟩ := hr.get hlt
      have hc1 : wr.cell? ⟨b, off + k * 2, none⟩ = some (.int .i64 x) := (hb.cell (by exact hbb)).trans hcx
      have hc1' : wr.cell? ⟨b, off + k * 2 + 1, none⟩ = some (.int .i64 y) := (hb.cell (by exact hbb)).trans hcy
      go_wp2_with fail
      refine (toTurn_any x y _).mono ?_
      rintro e w2 ⟨rfl, hb2⟩
      have hz2 := hb2.size
      have hown2 : w2.ownsRow w.heap.size 65 2 (.slice (some ⟨w.heap.size, 0, none⟩) l.length l.length) l.length (flat (copP l k)) := by
        have e := copP_len l k hk
        have := OwnP.below (l := copP l k) hb2 (by unfold OwnP; rw [e]; exact hown)
        unfold OwnP at this; rw [e] at this; exact this
      have hb3 := hb.trans (hb2.mono hb.size)
      have g1 : w2.cell? ⟨w.heap.size, k * 2, none⟩ = some (.int .i64 (pA (copP l k) k)) := by
        rw [hown2.cellAt (k * 2) (by omega)]; exact (flat_get (by rw [copP_len _ _ hk]; exact hlt)).1
      have g2 : w2.cell? ⟨w.heap.size, k * 2 + 1, none⟩ = some (.int .i64 (pB (copP l k) k)) := by
        rw [hown2.cellAt (k * 2 + 1) (by omega)]; exact (flat_get (by rw [copP_len _ _ hk]; exact hlt)).2
      have hf1 := hown2.frozenAt (k * 2)
      have hf2 := hown2.frozenAt (k * 2 + 1)
      obtain ⟨st1, _⟩ := hown2.stored (k * 2) (.int .i64 x)
      obtain ⟨st2, _⟩ := st1.stored (k * 2 + 1) (.int .i64 y)
      rw [flat_set (p := (x, y)) (by rw [copP_len _ _ hk]; exact hlt), ← hx.out, ← hy.out, copP_succ _ _ hlt, hx.out, hy.out] at st2
      have hb4 := (hb3.setCell (p := ⟨w.heap.size, k * 2, none⟩) (Nat.le_refl _) (.int .i64 x)).setCell (p := ⟨w.heap.size, k * 2 + 1, none⟩) (Nat.le_refl _) (.int .i64 y)
      clear st1 hown hown2 hb hb3 hb2 hc1 hc1' hcx hcy
      go_wp2
      go_roundw
      case rel => exact ⟨k + 1, by omega, by go_num, st2, hb4⟩
      case measure => simp [intOf]; omega
    · obtain rfl : k = l.length := by omega
      rw [copP_all] at hown
      go_wp2
      go_ret
      exact ⟨rfl, hown, hb, hsz⟩
end Go.Proofs.Ytbldfhfciihddaa
