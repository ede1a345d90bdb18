/-
  impl.freeTable, lookFrom, list; slices.Clone.
-/
import Derived.Test.YtapkalpmnldhpabBase
import Derived.Test.YtapkalpmnldhpabArr
namespace Go.Proofs.Ytapkalpmnldhpab
open Go.RowKit

theorem und_slot : Try.prog.underlying 68 = some (.array 10 3) := by kernel_rfl
theorem inf_slot : (Try.prog.info? 68).map (·.size) = some 10 := by kernel_rfl

/-- The table of an impl.slotTable: the first m slots, the rest free. -/
def full (t : List Int) : List Int := t ++ List.replicate (10 - t.length) (-1)
theorem full_len {t : List Int} (h : t.length ≤ 10) : (full t).length = 10 := by simp [full]; omega
theorem full_get {t : List Int} {k : Nat} (h : k < t.length) : (full t).getD k 0 = t.getD k 0 := by simp [full, List.getD, List.getElem?_append, h]
theorem full_set {t : List Int} {k : Nat} {x : Int} (h : k < t.length) : (full t).set k x = full (t.set k x) := by
  unfold full; rw [List.set_append_left _ _ h, List.length_set]
theorem full_rep (m : Nat) (h : m ≤ 10) : full (List.replicate m (-1)) = List.replicate 10 (-1) := by
  unfold full; rw [List.length_replicate, List.replicate_append_replicate]; congr 1; omega

/-- The table without keys. -/
def free10 : List Int := List.replicate 10 (-1)
theorem free10_len : free10.length = 10 := rfl
theorem full_free (m : Nat) (h : m ≤ 10) : free10 = full (List.replicate m (-1)) := (full_rep m h).symm

/-- freeTable's array while it is filled. -/
def filled (k : Nat) : List Int := List.replicate k (-1) ++ List.replicate (10 - k) 0
theorem filled_len {k : Nat} (h : k ≤ 10) : (filled k).length = 10 := by simp [filled]; omega
theorem filled_set {k : Nat} (h : k < 10) : (filled k).set k (-1) = filled (k + 1) := by
  unfold filled
  rw [List.set_append_right _ _ (by simp), List.length_replicate, Nat.sub_self, show 10 - k = (10 - (k + 1)) + 1 by omega, List.replicate_succ, List.set_cons_zero, List.replicate_succ', List.append_assoc]
  rfl

set_option maxHeartbeats 1000000 in
theorem freeTable_any (w : World) :
    Calls Try.prog 48 #[] w fun e w' => e = .returned (.agg (arr free10)) ∧ Below w.heap.size w w' := by
  go_enter Try.func48, Try.ntmps48
  go_wp2
  go_loopw [3] (fun i wr => ∃ k : Nat, k ≤ 10 ∧ i = .int .i64 k ∧ Arr wr 68 w.heap.size (List.replicate 10 0) ∧ Arr wr 68 (w.heap.size + 1) (filled k) ∧ Below w.heap.size w wr) (fun i _ => 10 - (intOf i).toNat)
  case atStart =>
    rw [← arr_zero10]
    refine ⟨0, by omega, rfl, (Arr.new w _ _).alloc _, ?_, ((Below.refl _ _).alloc (Nat.le_refl _) _).alloc (by simp) _⟩
    have := Arr.new (w.alloc (.cells (arr (List.replicate 10 0)) 68)) 68 (List.replicate 10 0)
    rw [World.size_alloc] at this
    exact this
  case round =>
    obtain ⟨k, hk, rfl, h0, h1, hb⟩ := hrel
    by_cases hlt : k < 10
    · obtain ⟨x, hcell, _⟩ := h1.get (k := k) (by rw [filled_len hk]; exact hlt)
      have hfz := h1.frozen k
      have hst := h1.store k (-1)
      rw [filled_set hlt] at hst
      have h0' := h0.other (g' := w.heap.size + 1) (by omega) k (.int .i64 (-1))
      have hb' := hb.setCell (p := ⟨w.heap.size + 1, k, none⟩) (by exact Nat.le_succ _) (.int .i64 (-1))
      go_wp2
      go_roundw
      case rel => exact ⟨k + 1, by omega, by go_num, h0', hst, hb'⟩
      case measure => simp [intOf]; omega
    · obtain rfl : k = 10 := by omega
      go_wp2_with (first | (refine load_arr rfl _ _ rfl _ rfl _ _ _ _ h1 und_slot inf_slot rfl ?_) | (refine store_arr rfl _ _ _ rfl _ rfl _ _ rfl _ _ h0 inf_slot rfl rfl ?_))
      intro w2 h2 hg2
      have hb2 := hb.grown hg2 hb.size (fun q hq => by cases hq; exact Nat.le_refl _)
      go_wp2
      exact ret_arr rfl rfl _ rfl _ _ 10 _ h2 und_slot inf_slot rfl ⟨rfl, hb2⟩

set_option maxHeartbeats 400000 in
theorem lookFrom_any (m s : Int) (w : World) :
    Calls Try.prog 49 #[.int .i64 m, .int .i64 s] w fun e w' => e = .returned (.func (.func 67) #[] #[.pointer (some ⟨w.heap.size + 1, 0, none⟩), .pointer (some ⟨w.heap.size, 0, none⟩)]) ∧
      w'.cell? ⟨w.heap.size, 0, none⟩ = some (.int .i64 m) ∧ w'.cell? ⟨w.heap.size + 1, 0, none⟩ = some (.int .i64 s) ∧ Below w.heap.size w w' ∧ w'.heap.size = w.heap.size + 2 := by
  go_enter Try.func49, Try.ntmps49
  go_wp2
  go_ret
  exact ⟨rfl, by simp [go_sem, World.cell?_alloc_past], by simp [go_sem, World.cell?_alloc_past], ((Below.refl _ _).alloc (Nat.le_refl _) _).alloc (by simp) _, by simp⟩

set_option maxHeartbeats 400000 in
theorem lookFrom1_any (m s d : Nat) (hm0 : 0 < m) (hm : m ≤ 100000) (hs : s ≤ 100000) (hd : d ≤ 100000) (b1 b2 : Nat) (w : World) (h1 : w.cell? ⟨b1, 0, none⟩ = some (.int .i64 m)) (h2 : w.cell? ⟨b2, 0, none⟩ = some (.int .i64 s)) :
    Calls Try.prog 67 #[.int .i64 d, .pointer (some ⟨b2, 0, none⟩), .pointer (some ⟨b1, 0, none⟩)] w fun e w' => e = .returned (.int .i64 (((s + d) % m : Nat) : Int)) ∧ w = w' := by
  have hne : ((m : Int) == 0) = false := by simp; omega
  go_enter Try.func67, Try.ntmps67
  go_wp2
  go_ret
  exact ⟨ret_int (by rw [Int.natCast_emod]; rfl), rfl⟩

set_option maxHeartbeats 1000000 in
theorem clone_any (b off cap : Nat) (l : List Int) (w : World) (hc : CellsAt w b off l) (hb : b < w.heap.size) (hl : l.length < 1000000) :
    Calls Try.prog 68 #[.slice (some ⟨b, off, none⟩) l.length cap] w fun e w' => ∃ v, e = .returned v ∧ Own w' w.heap.size v l ∧ Below w.heap.size w w' ∧ v ≠ .slice none 0 0 := by
  have hnil := fun wx => Lib.run_eql_slice_nil (P := Try.prog) wx 23 3 (some ⟨b, off, none⟩) l.length cap 0 0 Try.underlying23
  obtain ⟨i0, hi, hz0, hz1, hz2⟩ := info_parts infoInt
  have ho := Own.lit0 w w.heap.size (Nat.le_refl _)
  go_enter Try.func68, Try.ntmps68
  go_wp2_with (at_builtin; refine wpList_append_own _ rfl _ _ 23 rfl w.heap.size 3 i0 (.int .i64 0) 1 8 Try.underlying23 hi hz0 hz1 hz2 rfl (by decide) _ _ _ rfl ho ⟨b, off, none⟩ l.length cap (l.map (Value.int .i64)) rfl (by simp) ?c1 (ints_oneCell _ _) ?c3 ?c4 ?c5 ?_)
  case c1 =>
    intro j u hu
    have hj : j < l.length := by simpa using (List.getElem?_eq_some_iff.1 hu).1
    rw [getD_map hj] at hu
    obtain rfl := Option.some.inj hu
    rw [Addr.add_lit, World.cell?_alloc_past _ _ _ hb]
    exact hc j hj
  case c3 => unfold maxLen; simp; omega
  case c4 => simp; omega
  case c5 => simp
  intro v' w1 h1 h2 h3
  have hb1 : Below w.heap.size w w1 := ((Below.refl _ _).alloc (Nat.le_refl _) _).grown h2 (by simp) (fun q hq => by simp [Value.ownBlock] at hq; omega)
  go_wp2
  go_ret
  exact ⟨_, rfl, h1, hb1, h3⟩

theorem len_slot : Try.prog.arrayLen 68 = 10 := by kernel_rfl
theorem und_slot' : Try.prog.underlying 68 = some (.array (Try.prog.arrayLen 68) (Try.prog.elem 68)) := by kernel_rfl
theorem size_int (w : World) : (sizeOf (Try.prog.elem 68)).run Try.prog w = .ok 1 w := by kernel_rfl
/-- 'table[:m]' of an array of ten slots. -/
theorem slice_slot (B M : Nat) (h : M ≤ 10) (w : World) :
    (Instr.sliceAt 68 (.pointer (some ⟨B, 0, none⟩)) none (some (.int .i64 (M : Int))) none).run Try.prog w = .ok (.slice (some ⟨B, 0, none⟩) M 10) w := by
  rw [run_sliceAt_array_h w 68 ⟨B, 0, none⟩ und_slot' .i64 (M : Int) (by omega) (by rw [len_slot]; omega), size_int, len_slot]
  simp [slicedAt, Result.andThen, Addr.add]

set_option maxHeartbeats 1000000 in
theorem list_any (M : Nat) (t : List Int) (w : World) (hM : M ≤ 10) (ht : t.length = M) :
    Calls Try.prog 51 #[.agg (arr (full t)), .int .i64 M] w fun e w' => ∃ v, e = .returned v ∧ Own w' w.heap.size v t ∧ Below w.heap.size w w' ∧ v ≠ .slice none 0 0 := by
  have ha := Arr.new w 68 (full t)
  have hc : CellsAt (w.alloc (.cells (arr (full t)) 68)) w.heap.size 0 t := by
    intro i hi
    obtain ⟨x, h1, h2⟩ := ha.get (k := i) (by rw [full_len (by omega)]; omega)
    rw [Nat.zero_add, h1, ← h2.out, full_get hi]
  have hsl := slice_slot w.heap.size t.length (by omega)
  subst ht
  go_enter Try.func51, Try.ntmps51
  go_wp2_with fail
  refine (clone_any _ _ _ _ _ hc (by simp) (by omega)).mono ?_
  rintro e w1 ⟨v, rfl, ho, hb, hn⟩
  go_wp2
  go_ret
  refine ⟨_, rfl, ho.mono (by simp), ?_, hn⟩
  exact ((Below.refl _ _).alloc (Nat.le_refl _) _).trans (hb.mono (by simp))

theorem agg_int (w : World) : (isAgg 3).run Try.prog w = .ok false w := by kernel_rfl
theorem size_int2 (w : World) : (sizeOf 3).run Try.prog w = .ok 1 w := by kernel_rfl
/-- 'arr[i]' of an array of ten slots that is a value. -/
theorem index_slot (l : List Int) (hl : l.length = 10) (i : Nat) (hi : i < 10) (x : Int) (hx : l.getD i 0 = x) (w : World) :
    (Instr.index 68 (.agg (arr l)) (.int .i64 (i : Int))).run Try.prog w = .ok (.int .i64 x) w := by
  have e : (arr l)[i]? = some (.int .i64 x) := by rw [← hx]; simp [arr, List.getD, hl, hi]
  have h1 : (0 : Int) ≤ i ∧ (i : Int) < (10 : Nat) := ⟨by omega, by omega⟩
  simp [Instr.index, run_underlying und_slot, asIntOf, h1, part, Sem.run_bind, size_int2, agg_int, e]
  exact fun h => absurd h (by omega)
end Go.Proofs.Ytapkalpmnldhpab
