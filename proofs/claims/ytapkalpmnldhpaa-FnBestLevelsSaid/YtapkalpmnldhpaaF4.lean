/-
  impl.validKeys, countsOf, meetings, levels, MeetingsOf, TwoLevels.
-/
import Derived.Test.YtapkalpmnldhpaaF3
import Derived.Test.YtapkalpmnldhpaaF2
namespace Go.Proofs.Ytapkalpmnldhpaa
open Go.RowKit

theorem arr_zero31 : arr (List.replicate 31 0) = #[.int .i64 0, .int .i64 0, .int .i64 0, .int .i64 0, .int .i64 0, .int .i64 0, .int .i64 0, .int .i64 0, .int .i64 0, .int .i64 0, .int .i64 0, .int .i64 0, .int .i64 0, .int .i64 0, .int .i64 0, .int .i64 0, .int .i64 0, .int .i64 0, .int .i64 0, .int .i64 0, .int .i64 0, .int .i64 0, .int .i64 0, .int .i64 0, .int .i64 0, .int .i64 0, .int .i64 0, .int .i64 0, .int .i64 0, .int .i64 0, .int .i64 0] := rfl
theorem barr_zero31 : ((List.replicate 31 false).map Value.bool).toArray = #[.bool false, .bool false, .bool false, .bool false, .bool false, .bool false, .bool false, .bool false, .bool false, .bool false, .bool false, .bool false, .bool false, .bool false, .bool false, .bool false, .bool false, .bool false, .bool false, .bool false, .bool false, .bool false, .bool false, .bool false, .bool false, .bool false, .bool false, .bool false, .bool false, .bool false, .bool false] := rfl
theorem und_31 : Try.prog.underlying 82 = some (.array 31 3) := by kernel_rfl
theorem inf_31 : (Try.prog.info? 82).map (·.size) = some 31 := by kernel_rfl
theorem agg_int' (w : World) : (isAgg 3).run Try.prog w = .ok false w := by kernel_rfl
theorem size_int' (w : World) : (sizeOf 3).run Try.prog w = .ok 1 w := by kernel_rfl
/-- 'arr[i]' of an array of 31 that is a value. -/
theorem index_31 (l : List Int) (hl : l.length = 31) (i : Nat) (hi : i < 31) (x : Int) (hx : l.getD i 0 = x) (w : World) :
    (Instr.index 82 (.agg (arr l)) (.int .i64 (i : Int))).run Try.prog w = .ok (.int .i64 x) w := by
  have e : (arr l)[i]? = some (.int .i64 x) := by rw [← hx]; simp [arr, List.getD, hl, hi]
  have h1 : (0 : Int) ≤ i ∧ (i : Int) < (31 : Nat) := ⟨by omega, by omega⟩
  simp [Instr.index, run_underlying und_31, asIntOf, h1, part, Sem.run_bind, size_int', agg_int', e]
  exact fun h => absurd h (by omega)

/-- Which numbers have been seen. -/
def sk (l : List Int) (k : Nat) : List Bool := (List.range 31).map fun s : Nat => decide ((s : Int) ∈ l.take k)
theorem sk_len (l : List Int) (k : Nat) : (sk l k).length = 31 := by simp [sk]
theorem sk_zero (l : List Int) : sk l 0 = List.replicate 31 false := by simp [sk]; decide
theorem sk_get (l : List Int) (k : Nat) {s : Nat} (h : s < 31) : (sk l k).getD s false = decide ((s : Int) ∈ l.take k) := by simp [sk, List.getD, h]
theorem sk_succ {l : List Int} {k X : Nat} (hk : k < l.length) (hX : l.getD k 0 = X) (h31 : X < 31) : (sk l k).set X true = sk l (k + 1) := by
  refine List.ext_getElem (by simp [sk]) fun i h1 h2 => ?_
  have hi : i < 31 := by simpa [sk] using h2
  rw [List.getElem_set]
  simp only [sk, List.getElem_map, List.getElem_range, take_snoc hk, hX]
  by_cases e : X = i
  · subst e; simp
  · have : ¬ (i : Int) = (X : Int) := by omega
    simp [e, this]

set_option maxHeartbeats 4000000 in
theorem implvalidKeys_any (a : Option Addr) (l : List Int) (cap : Nat) (w : World) (hr : Reads w a l) (hl : l.length ≤ 1048586) :
    Calls Try.prog 60 #[.slice a l.length cap] w fun e w' => e = .returned (.bool (VK l)) ∧ Below w.heap.size w w' := by
  by_cases h8 : 8 < l.length
  · have hv : VK l = false := by rw [← Bool.not_eq_true, VK_iff]; omega
    go_enter Try.func60, Try.ntmps60
    go_wp2
    go_ret
    exact ⟨ret_bool (by first | exact hv.symm | rfl), Below.refl _ _⟩
  · have h0 : BArr (w.alloc (.cells ((List.replicate 31 false).map Value.bool).toArray 81)) 81 w.heap.size (List.replicate 31 false) := BArr.new w _ _
    rw [barr_zero31, ← sk_zero l] at h0
    have B0 := (Below.refl w.heap.size w).alloc (Nat.le_refl _) (.cells #[.bool false, .bool false, .bool false, .bool false, .bool false, .bool false, .bool false, .bool false, .bool false, .bool false, .bool false, .bool false, .bool false, .bool false, .bool false, .bool false, .bool false, .bool false, .bool false, .bool false, .bool false, .bool false, .bool false, .bool false, .bool false, .bool false, .bool false, .bool false, .bool false, .bool false, .bool false] 81)
    go_enter Try.func60, Try.ntmps60
    go_wp2
    go_loopw [11] (fun i wr => ∃ k : Nat, k ≤ l.length ∧ i = .int .i64 k ∧ Hid (VKp l k) ∧ BArr wr 81 w.heap.size (sk l k) ∧ Below w.heap.size w wr) (fun i _ => l.length - (intOf i).toNat)
    case atStart => exact ⟨0, Nat.zero_le _, rfl, fun j hj => by omega, h0, B0⟩
    case round =>
      clear h0 B0
      obtain ⟨k, hk, rfl, hf, hS, hB⟩ := hrel
      by_cases hlt : k < l.length
      · obtain ⟨b, off, y, rfl, hbb, hcell, hy⟩ := hr.get hlt
        have hc1 : wr.cell? ⟨b, off + k, none⟩ = some (.int .i64 y) := (hB.cell (by exact hbb)).trans hcell
        have hk1 : (k : Int) < (l.length : Int) := by omega
        by_cases g1 : KR y = true
        · obtain ⟨y0, y1⟩ := KR_iff.1 g1
          obtain ⟨Y, rfl⟩ := Int.eq_ofNat_of_zero_le y0
          obtain ⟨s, hcs, hs⟩ := hS.get (k := Y) (by rw [sk_len]; omega)
          have hs2 := hs.out
          rw [sk_get _ _ (by omega)] at hs2
          have hfz := hS.frozen Y
          by_cases g2 : (Y : Int) ∈ l.take k
          · have : s = true := by rw [← hs2]; exact decide_eq_true g2
            subst this
            have HB := Lib.hid (VK_bad2 hlt (by rw [hy.out]; exact g2))
            clear g2 hs2
            go_wp2_with (first | (go_at_call 56; refine (isRest_any _ _).mono ?_; rintro e w' ⟨rfl, rfl⟩))
            go_ret
            exact ⟨ret_bool HB.out.symm, hB⟩
          · have : s = false := by rw [← hs2]; exact decide_eq_false g2
            subst this
            have HB := Lib.hid (hf.out.succ (by rw [hy.out]; omega) (by rw [hy.out]; exact g2))
            have hst := hS.store Y true
            rw [sk_succ hlt hy.out (by omega)] at hst
            have hB2 := hB.setCell (p := ⟨w.heap.size, Y, none⟩) (Nat.le_refl _) (.bool true)
            clear g2 hs2
            go_wp2_with (first | (go_at_call 56; refine (isRest_any _ _).mono ?_; rintro e w' ⟨rfl, rfl⟩))
            go_roundw
            case rel => exact ⟨k + 1, by omega, by go_num, HB, hst, hB2⟩
            case measure => simp [intOf]; omega
        · have g1' : KR y = false := by simpa using g1
          have HB := Lib.hid (VK_bad1 hlt (by rw [hy.out]; exact fun h => g1 (KR_iff.2 h)))
          go_wp2_with (first | (go_at_call 56; refine (isRest_any _ _).mono ?_; rintro e w' ⟨rfl, rfl⟩))
          go_ret
          exact ⟨ret_bool HB.out.symm, hB⟩
      · obtain rfl : k = l.length := by omega
        have HB := Lib.hid (VK_end hf.out)
        go_wp2
        go_ret
        exact ⟨ret_bool (by rw [HB.out]; simp; omega), hB⟩

/-- A function's struct in a variable. -/
def FBox (w : World) (g : Nat) (a b : Int) (v : Value) : Prop := w.heap[g]? = some (.cells #[.int .i64 a, .int .i64 b, v] 65 (0, 0))
section
variable {w : World} {g : Nat} {a b : Int} {v : Value}
theorem FBox.lt (h : FBox w g a b v) : g < w.heap.size := (Array.getElem?_eq_some_iff.1 h).1
theorem FBox.c0 (h : FBox w g a b v) : w.cell? ⟨g, 0, none⟩ = some (.int .i64 a) := by rw [cell_of_row w g 0 _ _ _ h]; rfl
theorem FBox.c1 (h : FBox w g a b v) : w.cell? ⟨g, 1, none⟩ = some (.int .i64 b) := by rw [cell_of_row w g 1 _ _ _ h]; rfl
theorem FBox.c2 (h : FBox w g a b v) : w.cell? ⟨g, 2, none⟩ = some v := by rw [cell_of_row w g 2 _ _ _ h]; rfl
theorem FBox.other {g' : Nat} (h : FBox w g a b v) (hne : g ≠ g') (k : Nat) (x : Value) : FBox (w.setCell ⟨g', k, none⟩ x) g a b v := by
  unfold FBox
  rw [heap_setCell_other w ⟨g', k, none⟩ g x hne]; exact h
theorem FBox.alloc (h : FBox w g a b v) (o : Obj) : FBox (w.alloc o) g a b v := (Below.heap_alloc w o g h.lt).trans h
theorem FBox.belowAll {w' : World} (hb : Below w.heap.size w w') (h : FBox w g a b v) : FBox w' g a b v := (hb.block g h.lt).trans h
theorem FBox.kept {w' : World} {row : Option Nat} (h : FBox w g a b v) (hg : w.grownBy w' row) (hne : some g ≠ row) : FBox w' g a b v := (hg.block g h.lt hne).trans h
end
theorem FBox.new (w : World) (a b : Int) (v : Value) : FBox (w.alloc (.cells #[.int .i64 a, .int .i64 b, v] 65)) w.heap.size a b v := heap_alloc_new w _

set_option maxHeartbeats 4000000 in
theorem countsOf_any (A B M : Nat) (a b m : Int) (al : Option Addr) (l : List Int) (cap : Nat) (w : World) (hF : FunAt w A B M a b m) (hr : Reads w al l) (ha : 1 ≤ a) (ha' : a ≤ 30) (hb : 0 ≤ b) (hb' : b ≤ 30) (hm : 1 ≤ m) (hm' : m ≤ 31) (hv : VK l = true) :
    Calls Try.prog 81 #[.agg #[.int .i64 a, .int .i64 b, FnV A B M], .slice al l.length cap] w fun e w' => e = .returned (.agg (arr (cs (l.map (hs a b m))))) ∧ Below w.heap.size w w' := by
  obtain ⟨hl, hfit, _⟩ := VK_iff.1 hv
  obtain ⟨H, hH⟩ : ∃ H, H = l.map (hs a b m) := ⟨_, rfl⟩
  have hHl : H.length = l.length := by rw [hH, List.length_map]
  have hHg : ∀ i, i < l.length → H.getD i 0 = hs a b m (l.getD i 0) := fun i hi => by rw [hH]; exact map_getD hi
  rw [← hH]
  have HG := Lib.hid hHg
  have HL := Lib.hid hHl
  have HF := Lib.hid hfit
  clear hH hHg hHl hfit hv
  have x0 := FBox.new w a b (FnV A B M)
  obtain ⟨w1, e1⟩ : ∃ w1, w1 = w.alloc (.cells #[.int .i64 a, .int .i64 b, FnV A B M] 65) := ⟨_, rfl⟩
  have z1 : w1.heap.size = w.heap.size + 1 := by rw [e1]; simp
  have b1 : Below w.heap.size w w1 := by rw [e1]; exact (Below.refl _ _).alloc (Nat.le_refl _) _
  rw [← e1] at x0
  have x1 : Arr (w1.alloc (.cells (arr (List.replicate 31 0)) 82)) 82 w1.heap.size (List.replicate 31 0) := Arr.new _ _ _
  rw [z1] at x1
  have x0' := x0.alloc (.cells (arr (List.replicate 31 0)) 82)
  have b2 := b1.alloc (by omega) (.cells (arr (List.replicate 31 0)) 82)
  obtain ⟨w2, e2⟩ : ∃ w2, w2 = w1.alloc (.cells (arr (List.replicate 31 0)) 82) := ⟨_, rfl⟩
  have z2 : w2.heap.size = w.heap.size + 2 := by rw [e2]; simp; omega
  rw [← e2] at x1 x0' b2
  have x2 : Arr (w2.alloc (.cells (arr (List.replicate 31 0)) 82)) 82 w2.heap.size (List.replicate 31 0) := Arr.new _ _ _
  rw [z2] at x2
  have x1' := x1.alloc (.cells (arr (List.replicate 31 0)) 82)
  have x0'' := x0'.alloc (.cells (arr (List.replicate 31 0)) 82)
  have b3 := b2.alloc (by omega) (.cells (arr (List.replicate 31 0)) 82)
  obtain ⟨w3, e3⟩ : ∃ w3, w3 = w2.alloc (.cells (arr (List.replicate 31 0)) 82) := ⟨_, rfl⟩
  rw [← e3] at x1' x0'' b3 x2
  have E3 : Hid (w3 = ((w.alloc (.cells #[.int .i64 a, .int .i64 b, FnV A B M] 65)).alloc (.cells #[.int .i64 0, .int .i64 0, .int .i64 0, .int .i64 0, .int .i64 0, .int .i64 0, .int .i64 0, .int .i64 0, .int .i64 0, .int .i64 0, .int .i64 0, .int .i64 0, .int .i64 0, .int .i64 0, .int .i64 0, .int .i64 0, .int .i64 0, .int .i64 0, .int .i64 0, .int .i64 0, .int .i64 0, .int .i64 0, .int .i64 0, .int .i64 0, .int .i64 0, .int .i64 0, .int .i64 0, .int .i64 0, .int .i64 0, .int .i64 0, .int .i64 0] 82)).alloc (.cells #[.int .i64 0, .int .i64 0, .int .i64 0, .int .i64 0, .int .i64 0, .int .i64 0, .int .i64 0, .int .i64 0, .int .i64 0, .int .i64 0, .int .i64 0, .int .i64 0, .int .i64 0, .int .i64 0, .int .i64 0, .int .i64 0, .int .i64 0, .int .i64 0, .int .i64 0, .int .i64 0, .int .i64 0, .int .i64 0, .int .i64 0, .int .i64 0, .int .i64 0, .int .i64 0, .int .i64 0, .int .i64 0, .int .i64 0, .int .i64 0, .int .i64 0] 82)) := by
    show w3 = _; rw [e3, e2, e1, arr_zero31]
  clear e1 e2 e3 z1 z2 x0 x0' x1 b1 b2
  go_enter Try.func81, Try.ntmps81
  go_wp2_with fail
  rw [← E3.out]
  go_loopw [10] (fun i wr => ∃ k : Nat, k ≤ l.length ∧ i = .int .i64 k ∧ FBox wr w.heap.size a b (FnV A B M) ∧ Arr wr 82 (w.heap.size + 1) (List.replicate 31 0) ∧ Arr wr 82 (w.heap.size + 2) (cs (H.take k)) ∧ Below w.heap.size w wr) (fun i _ => l.length - (intOf i).toNat)
  case atStart => exact ⟨0, Nat.zero_le _, rfl, x0'', x1', by rw [List.take_zero, cs_nil]; exact x2, b3⟩
  case round =>
    clear x0'' x1' x2 b3 E3
    obtain ⟨k, hk, rfl, hX, hR, hC, hB⟩ := hrel
    by_cases hlt : k < l.length
    · obtain ⟨bb, off, y, rfl, hbb, hcell, hy⟩ := hr.get hlt
      have hc1 : wr.cell? ⟨bb, off + k, none⟩ = some (.int .i64 y) := (hB.cell (by exact hbb)).trans hcell
      have hyf := HF.out y (by rw [← hy.out]; exact getD_mem hlt)
      have hk1 : (k : Int) < (l.length : Int) := by omega
      have hF2 := hF.below hB
      obtain ⟨s0, s1⟩ := hs_range (a := a) (b := b) (m := m) (k := y) hm
      have s31 := hs_31 (a := a) (b := b) (m := m) (k := y) hm
      have hcall := slot_any A B M a b m y wr hF2 (by omega) ha' hb hb' hm hm' hyf.1 hyf.2
      obtain ⟨S, hS⟩ := Int.eq_ofNat_of_zero_le s0
      rw [hS] at hcall s31
      have hSl : H.getD k 0 = (S : Int) := by rw [HG.out k hlt, hy.out, hS]
      obtain ⟨c, hcc, hce⟩ := hC.get (k := S) (by rw [cs_len]; omega)
      have hce2 := hce.out
      rw [cs_get _ (by omega)] at hce2
      have hcl : (H.take k).count (S : Int) ≤ (H.take k).length := List.count_le_length
      rw [List.length_take] at hcl
      have c0 : 0 ≤ c ∧ c ≤ 8 := by omega
      have hfz := hC.frozen S
      have hst := hC.store S (c + 1)
      rw [← hce2, cs_snoc (by omega), ← hSl, ← take_snoc (by rw [HL.out]; exact hlt), hSl, hce2] at hst
      have hX2 := hX.other (g' := w.heap.size + 2) (by omega) S (.int .i64 (c + 1))
      have hR2 := hR.other (g' := w.heap.size + 2) (by omega) S (.int .i64 (c + 1))
      have hB2 := hB.setCell (p := ⟨w.heap.size + 2, S, none⟩) (by show w.heap.size ≤ w.heap.size + 2; omega) (.int .i64 (c + 1))
      have hx2 := hX.c2
      have HC := Lib.hid hcall
      clear hcall hcell hS s0 s1 hSl hce2 hcl hF2 hX hR hC hB
      go_wp2_with fail
      refine HC.out.mono ?_
      rintro e w' ⟨rfl, rfl⟩
      go_wp2
      go_roundw
      case rel => exact ⟨k + 1, by omega, by go_num, hX2, hR2, hst, hB2⟩
      case measure => simp [intOf]; omega
    · obtain rfl : k = l.length := by omega
      rw [← HL.out, List.take_length] at hC
      go_wp2_with (first | (refine load_arr rfl _ _ rfl _ rfl _ _ _ _ hC und_31 inf_31 (cs_len _) ?_) | (refine store_arr rfl _ _ _ rfl _ rfl _ _ rfl _ _ hR inf_31 (cs_len _) rfl ?_))
      intro w4 h4 hg4
      have hB4 := hB.grown hg4 hB.size (fun q hq => by cases hq; exact Nat.le_succ _)
      go_wp2
      exact ret_arr rfl rfl _ rfl _ _ 31 _ h4 und_31 inf_31 (cs_len _) ⟨rfl, hB4⟩

theorem eight {c : Nat} (h : c ≤ 8) : c = 0 ∨ c = 1 ∨ c = 2 ∨ c = 3 ∨ c = 4 ∨ c = 5 ∨ c = 6 ∨ c = 7 ∨ c = 8 := by omega
theorem tri_bound {c : Nat} (h : c ≤ 8) : 0 ≤ (c : Int) * ((c : Int) - 1) ∧ (c : Int) * ((c : Int) - 1) ≤ 64 ∧ ((c : Int) * ((c : Int) - 1)).tdiv 2 = (tri c : Nat) ∧ ((c : Int) * ((c : Int) - 1)) / 2 = (tri c : Nat) ∧ tri c ≤ 32 := by
  rcases eight h with rfl | rfl | rfl | rfl | rfl | rfl | rfl | rfl | rfl <;> decide
theorem sq_bound {c : Nat} (h : c ≤ 8) : 0 ≤ (c : Int) * (c : Int) ∧ (c : Int) * (c : Int) ≤ 64 := by
  rcases eight h with rfl | rfl | rfl | rfl | rfl | rfl | rfl | rfl | rfl <;> decide
theorem sumR_bound {f : Nat → Nat} {n c : Nat} (h : ∀ i, i < n → f i ≤ c) : sumR f n ≤ n * c := by
  induction n with
  | zero => simp [sumR]
  | succ n ih =>
    have h1 := ih (fun i hi => h i (by omega))
    have h2 := h n (by omega)
    rw [sumR, Nat.add_mul, Nat.one_mul]; omega
theorem map_range {l : List Int} {a b m : Int} (hm : 1 ≤ m) : ∀ x ∈ l.map (hs a b m), 0 ≤ x ∧ x < 31 := by
  intro x hx
  obtain ⟨y, _, rfl⟩ := List.mem_map.1 hx
  exact ⟨(hs_range hm).1, hs_31 hm⟩

set_option maxHeartbeats 4000000 in
theorem funMeetings_any (A B M : Nat) (a b m : Int) (al : Option Addr) (l : List Int) (cap : Nat) (w : World) (hF : FunAt w A B M a b m) (hr : Reads w al l) (ha : 1 ≤ a) (ha' : a ≤ 30) (hb : 0 ≤ b) (hb' : b ≤ 30) (hm : 1 ≤ m) (hm' : m ≤ 31) (hv : VK l = true) :
    Calls Try.prog 61 #[.agg #[.int .i64 a, .int .i64 b, FnV A B M], .slice al l.length cap] w fun e w' => e = .returned (.int .i64 (mt a b m l : Nat)) ∧ Below w.heap.size w w' := by
  have hl := (VK_iff.1 hv).1
  have b1 : Below w.heap.size w (w.alloc (.cells #[.int .i64 a, .int .i64 b, FnV A B M] 65)) := (Below.refl _ _).alloc (Nat.le_refl _) _
  have hcall := countsOf_any A B M a b m al l cap _ (hF.below b1) (hr.below b1) ha ha' hb hb' hm hm' hv
  have hmr := map_range (l := l) (a := a) (b := b) hm
  obtain ⟨H, hH⟩ : ∃ H, H = l.map (hs a b m) := ⟨_, rfl⟩
  have hmt : mt a b m l = pr H := by rw [hH]; rfl
  have hHl : H.length ≤ 8 := by rw [hH, List.length_map]; exact hl
  rw [← hH] at hcall hmr
  have hsum := sum_tri hmr
  have HC := Lib.hid hcall
  have HM := Lib.hid hmt
  have HS := Lib.hid hsum
  clear hcall hmt hsum hH hmr hv
  go_enter Try.func61, Try.ntmps61
  go_wp2_with fail
  refine HC.out.mono ?_
  rintro e w2 ⟨rfl, b2⟩
  have b3 := b1.trans (b2.mono b1.size)
  clear HC b2 b1 hF hr
  go_wp2
  go_loopw [5, 11] (fun p i wr => ∃ s : Nat, s ≤ 31 ∧ i = .int .i64 s ∧ p = .int .i64 (sumR (fun s => tri (H.count (s : Int))) s : Nat) ∧ wr = w2) (fun _ i _ => 31 - (intOf i).toNat)
  case atStart => exact ⟨0, by omega, rfl, rfl, rfl⟩
  case round =>
    obtain ⟨s, hs', rfl, rfl, rfl⟩ := hrel
    by_cases hlt : s < 31
    · have hc8 : H.count (s : Int) ≤ 8 := Nat.le_trans List.count_le_length hHl
      have hb31 := sumR_bound (f := fun s : Nat => tri (H.count (s : Int))) (n := s) (c := 32) (fun i _ => (tri_bound (Nat.le_trans List.count_le_length hHl)).2.2.2.2)
      have hidx := index_31 (cs H) (cs_len H) s hlt (H.count (s : Int) : Nat) (cs_get H hlt) wr
      have hsu : sumR (fun s : Nat => tri (H.count (s : Int))) (s + 1) = sumR (fun s : Nat => tri (H.count (s : Int))) s + tri (H.count (s : Int)) := rfl
      obtain ⟨c, hc⟩ : ∃ c, c = H.count (s : Int) := ⟨_, rfl⟩
      rw [← hc] at hc8 hidx hsu
      obtain ⟨t0, t1, t2, t3, t4⟩ := tri_bound hc8
      obtain ⟨Z, hZ⟩ : ∃ Z, Z = sumR (fun s : Nat => tri (H.count (s : Int))) s := ⟨_, rfl⟩
      rw [← hZ] at hsu hb31 ⊢
      have HSU := Lib.hid hsu
      have T3 := Lib.hid t3
      have T2 := Lib.hid t2
      clear hsu hZ hc t2 t3
      go_wp2
      go_roundw
      case rel =>
        refine ⟨s + 1, by omega, by go_num, ?_, (by first | rfl | trivial)⟩
        rw [HSU.out]
        have := T2.out
        have := T3.out
        go_num
      case measure => simp [intOf]; omega
    · obtain rfl : s = 31 := by omega
      go_wp2
      go_ret
      exact ⟨ret_int (by rw [HS.out, ← HM.out]), b3⟩

set_option maxHeartbeats 4000000 in
theorem funLevels_any (A B M : Nat) (a b m : Int) (al : Option Addr) (l : List Int) (cap : Nat) (w : World) (hF : FunAt w A B M a b m) (hr : Reads w al l) (ha : 1 ≤ a) (ha' : a ≤ 30) (hb : 0 ≤ b) (hb' : b ≤ 30) (hm : 1 ≤ m) (hm' : m ≤ 31) (hv : VK l = true) :
    Calls Try.prog 67 #[.agg #[.int .i64 a, .int .i64 b, FnV A B M], .slice al l.length cap] w fun e w' => e = .returned (.int .i64 (2 * l.length + 2 * mt a b m l : Nat)) ∧ Below w.heap.size w w' := by
  have hl := (VK_iff.1 hv).1
  have b1 : Below w.heap.size w (w.alloc (.cells #[.int .i64 a, .int .i64 b, FnV A B M] 65)) := (Below.refl _ _).alloc (Nat.le_refl _) _
  have hcall := countsOf_any A B M a b m al l cap _ (hF.below b1) (hr.below b1) ha ha' hb hb' hm hm' hv
  have hmr := map_range (l := l) (a := a) (b := b) hm
  obtain ⟨H, hH⟩ : ∃ H, H = l.map (hs a b m) := ⟨_, rfl⟩
  have hmt : mt a b m l = pr H := by rw [hH]; rfl
  have hHl : H.length = l.length := by rw [hH, List.length_map]
  rw [← hH] at hcall hmr
  have hsum := sum_sq hmr
  rw [hHl] at hsum
  have HC := Lib.hid hcall
  have HM := Lib.hid hmt
  have HS := Lib.hid hsum
  have HL := Lib.hid hHl
  clear hcall hmt hsum hH hmr hv hHl
  go_enter Try.func67, Try.ntmps67
  go_wp2_with fail
  refine HC.out.mono ?_
  rintro e w2 ⟨rfl, b2⟩
  have b3 := b1.trans (b2.mono b1.size)
  clear HC b2 b1 hF hr
  go_wp2
  go_loopw [5, 13] (fun p i wr => ∃ s : Nat, s ≤ 31 ∧ i = .int .i64 s ∧ p = .int .i64 (l.length + sumR (fun s => H.count (s : Int) * H.count (s : Int)) s : Nat) ∧ wr = w2) (fun _ i _ => 31 - (intOf i).toNat)
  case atStart => exact ⟨0, by omega, rfl, rfl, rfl⟩
  case round =>
    obtain ⟨s, hs', rfl, rfl, rfl⟩ := hrel
    by_cases hlt : s < 31
    · have hc8' : ∀ i : Nat, H.count (i : Int) ≤ 8 := fun i => Nat.le_trans List.count_le_length (by rw [HL.out]; exact hl)
      have hb31 := sumR_bound (f := fun s : Nat => H.count (s : Int) * H.count (s : Int)) (n := s) (c := 64) (fun i _ => Nat.mul_le_mul (hc8' i) (hc8' i))
      have hidx := index_31 (cs H) (cs_len H) s hlt (H.count (s : Int) : Nat) (cs_get H hlt) wr
      have hsu : sumR (fun s : Nat => H.count (s : Int) * H.count (s : Int)) (s + 1) = sumR (fun s : Nat => H.count (s : Int) * H.count (s : Int)) s + H.count (s : Int) * H.count (s : Int) := rfl
      have hc8 := hc8' s
      obtain ⟨c, hc⟩ : ∃ c, c = H.count (s : Int) := ⟨_, rfl⟩
      rw [← hc] at hc8 hidx hsu
      obtain ⟨t0, t1⟩ := sq_bound hc8
      obtain ⟨Z, hZ⟩ : ∃ Z, Z = sumR (fun s : Nat => H.count (s : Int) * H.count (s : Int)) s := ⟨_, rfl⟩
      rw [← hZ] at hsu hb31 ⊢
      have HSU := Lib.hid hsu
      clear hsu hZ hc hc8'
      go_wp2
      go_roundw
      case rel =>
        refine ⟨s + 1, by omega, by go_num, ?_, (by first | rfl | trivial)⟩
        rw [HSU.out]
        have e : ((c * c : Nat) : Int) = (c : Int) * (c : Int) := Int.natCast_mul c c
        go_num
      case measure => simp [intOf]; omega
    · obtain rfl : s = 31 := by omega
      go_wp2
      go_ret
      exact ⟨ret_int (by rw [HS.out, ← HM.out]; congr 1; omega), b3⟩

set_option maxHeartbeats 2000000 in
theorem implMeetingsOf_any (a b m : Int) (al : Option Addr) (l : List Int) (cap : Nat) (w : World) (_ha : In64 a) (_hb : In64 b) (_hm : In64 m) (hr : Reads w al l) (_hi : ∀ n ∈ l, In64 n) (hl : l.length ≤ 1048586) :
    Calls Try.prog 23 #[.int .i64 a, .int .i64 b, .int .i64 m, .slice al l.length cap] w fun e w' => e = .returned (.int .i64 (MO a b m l)) ∧ Below w.heap.size w w' := by
  have hv := implvalidKeys_any al l cap w hr hl
  by_cases g1 : VF a b m = true
  · obtain ⟨f1, f2, f3, f4, f5, f6⟩ := VF_iff.1 g1
    by_cases g2 : VK l = true
    · rw [g2] at hv
      have HV := Lib.hid hv
      clear hv
      go_enter Try.func23, Try.ntmps23
      go_wp2_with (first | (go_at_call 55; refine (validFunction_any _ _ _ _).mono ?_; rintro e w' ⟨rfl, rfl⟩))
      refine HV.out.mono ?_
      rintro e w1 ⟨rfl, b1⟩
      go_wp2_with fail
      refine (functionOf_any a b m w1).mono ?_
      rintro e w2 ⟨A, B, M, rfl, hF, b2⟩
      have b3 := b1.trans (b2.mono b1.size)
      have hc := funMeetings_any A B M a b m al l cap w2 hF (hr.below b3) f1 f2 f3 f4 f5 f6 g2
      go_wp2_with fail
      refine hc.mono ?_
      rintro e w3 ⟨rfl, b4⟩
      go_wp2
      go_ret
      refine ⟨ret_int ?_, b3.trans (b4.mono b3.size)⟩
      unfold MO; rw [if_pos ⟨g1, g2⟩]
    · have g2' : VK l = false := by simpa using g2
      rw [g2'] at hv
      have HV := Lib.hid hv
      clear hv
      go_enter Try.func23, Try.ntmps23
      go_wp2_with (first | (go_at_call 55; refine (validFunction_any _ _ _ _).mono ?_; rintro e w' ⟨rfl, rfl⟩))
      refine HV.out.mono ?_
      rintro e w1 ⟨rfl, b1⟩
      go_wp2
      go_ret
      refine ⟨ret_int ?_, b1⟩
      unfold MO; rw [if_neg (fun h => g2 h.2)]
  · have g1' : VF a b m = false := by simpa using g1
    clear hv
    go_enter Try.func23, Try.ntmps23
    go_wp2_with (first | (go_at_call 55; refine (validFunction_any _ _ _ _).mono ?_; rintro e w' ⟨rfl, rfl⟩))
    go_ret
    refine ⟨ret_int ?_, Below.refl _ _⟩
    unfold MO; rw [if_neg (fun h => g1 h.1)]

set_option maxHeartbeats 2000000 in
theorem implTwoLevels_any (a b : Int) (al : Option Addr) (l : List Int) (cap : Nat) (w : World) (_ha : In64 a) (_hb : In64 b) (hr : Reads w al l) (_hi : ∀ n ∈ l, In64 n) (hl : l.length ≤ 1048586) :
    Calls Try.prog 32 #[.int .i64 a, .int .i64 b, .slice al l.length cap] w fun e w' => e = .returned (.int .i64 (TL a b l)) ∧ Below w.heap.size w w' := by
  have hv := implvalidKeys_any al l cap w hr hl
  have hvf := validFunction_any a b l.length w
  by_cases g1 : VF a b l.length = true
  · obtain ⟨f1, f2, f3, f4, f5, f6⟩ := VF_iff.1 g1
    have g0 : l ≠ [] := by intro e; rw [e] at f5; simp at f5
    rw [g1] at hvf
    by_cases g2 : VK l = true
    · rw [g2] at hv
      have HV := Lib.hid hv
      have G0 := Lib.hid g0
      clear hv g0
      go_enter Try.func32, Try.ntmps32
      go_wp2_with fail
      refine hvf.mono ?_
      rintro e w' ⟨rfl, rfl⟩
      go_wp2_with fail
      refine HV.out.mono ?_
      rintro e w1 ⟨rfl, b1⟩
      go_wp2_with fail
      refine (functionOf_any a b l.length w1).mono ?_
      rintro e w2 ⟨A, B, M, rfl, hF, b2⟩
      have b3 := b1.trans (b2.mono b1.size)
      have hc := funLevels_any A B M a b l.length al l cap w2 hF (hr.below b3) f1 f2 f3 f4 f5 f6 g2
      go_wp2_with fail
      refine hc.mono ?_
      rintro e w3 ⟨rfl, b4⟩
      go_wp2
      go_ret
      refine ⟨ret_int ?_, b3.trans (b4.mono b3.size)⟩
      unfold TL; rw [if_pos ⟨G0.out, g1, g2⟩]
    · have g2' : VK l = false := by simpa using g2
      rw [g2'] at hv
      have HV := Lib.hid hv
      clear hv g0
      go_enter Try.func32, Try.ntmps32
      go_wp2_with fail
      refine hvf.mono ?_
      rintro e w' ⟨rfl, rfl⟩
      go_wp2_with fail
      refine HV.out.mono ?_
      rintro e w1 ⟨rfl, b1⟩
      go_wp2
      go_ret
      refine ⟨ret_int ?_, b1⟩
      unfold TL; rw [if_neg (fun h => g2 h.2.2)]
  · have g1' : VF a b l.length = false := by simpa using g1
    rw [g1'] at hvf
    clear hv
    go_enter Try.func32, Try.ntmps32
    go_wp2_with fail
    refine hvf.mono ?_
    rintro e w' ⟨rfl, rfl⟩
    go_wp2
    go_ret
    refine ⟨ret_int ?_, Below.refl _ _⟩
    unfold TL; rw [if_neg (fun h => g1 h.2.1)]
end Go.Proofs.Ytapkalpmnldhpaa
