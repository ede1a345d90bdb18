/-
  impl.nextHomes, impl.AllLooks.
-/
import Derived.Test.YtninnjkjodhpaaaM6
import Derived.Test.YtninnjkjodhpaaaI1
namespace Go.Proofs.Ytninnjkjodhpaaa
open Go.RowKit

theorem und_five : Try.prog.underlying 66 = some (.array 5 3) := by kernel_rfl
theorem inf_five : (Try.prog.info? 66).map (·.size) = some 5 := by kernel_rfl
theorem len_five : Try.prog.arrayLen 66 = 5 := by kernel_rfl
theorem und_five' : Try.prog.underlying 66 = some (.array (Try.prog.arrayLen 66) (Try.prog.elem 66)) := by kernel_rfl
theorem size_five (w : World) : (sizeOf (Try.prog.elem 66)).run Try.prog w = .ok 1 w := by kernel_rfl
theorem guard_five : Try.prog.eqGuardType Try.prog.depth 66 = false := by kernel_rfl
theorem slice_five (B M : Nat) (h : M ≤ 5) (w : World) :
    (Instr.sliceAt 66 (.pointer (some ⟨B, 0, none⟩)) none (some (.int .i64 (M : Int))) none).run Try.prog w = .ok (.slice (some ⟨B, 0, none⟩) M 5) w := by
  rw [run_sliceAt_array_h w 66 ⟨B, 0, none⟩ und_five' .i64 (M : Int) (by omega) (by rw [len_five]; omega), size_five, len_five]
  simp [slicedAt, Result.andThen, Addr.add]
theorem eql_five (A B : List Int) (hA : A.length = 5) (hB : B.length = 5) (w : World) : (Op.equalIn 10000 66 (.agg (arr A)) (.agg (arr B))).run Try.prog w = .ok (decide (A = B)) w :=
  run_equalIn_arr w 9998 _ 3 5 .i64 A B hA hB und_five Try.underlying3 size_int2 agg_int

/-- nextHomes' array after i digits that have turned. -/
def trn (A : List Int) (i : Nat) : List Int := List.replicate i 0 ++ A.drop i
theorem trn_len {A : List Int} {i : Nat} (h : i ≤ A.length) : (trn A i).length = A.length := by simp [trn]; omega
theorem trn_get {A : List Int} {i : Nat} (h : i < A.length) : (trn A i).getD i 0 = A.getD i 0 := by
  simp [trn, List.getD, List.getElem?_append, h]
theorem trn_set {A : List Int} {i : Nat} (h : i < A.length) (y : Int) : (trn A i).set i y = List.replicate i 0 ++ y :: A.drop (i + 1) := by
  unfold trn
  rw [List.set_append_right _ _ (by simp), List.length_replicate, Nat.sub_self, List.drop_eq_getElem_cons h, List.set_cons_zero]
theorem trn_succ {A : List Int} {i : Nat} (h : i < A.length) : (trn A i).set i 0 = trn A (i + 1) := by
  rw [trn_set h, trn, List.replicate_succ', List.append_assoc]; rfl
theorem inc_stop {m : Nat} {hs rest : List Int} {i : Nat} (hi : i < hs.length) (h : inc m hs = List.replicate i 0 ++ inc m (hs.drop i)) (hl : hs.getD i 0 + 1 < m) :
    inc m hs ++ rest = (trn (hs ++ rest) i).set i (hs.getD i 0 + 1) := by
  have e : hs.getD i 0 = hs[i] := by simp [List.getD, hi]
  rw [trn_set (by simp; omega), h, List.drop_eq_getElem_cons hi, inc, if_pos (by rw [← e]; exact hl), List.drop_append_of_le_length (by omega), e, List.append_assoc]
  rfl
theorem inc_go {m : Nat} {hs : List Int} {i : Nat} (hi : i < hs.length) (h : inc m hs = List.replicate i 0 ++ inc m (hs.drop i)) (hl : ¬ hs.getD i 0 + 1 < m) :
    inc m hs = List.replicate (i + 1) 0 ++ inc m (hs.drop (i + 1)) := by
  have e : hs.getD i 0 = hs[i] := by simp [List.getD, hi]
  rw [h, List.drop_eq_getElem_cons hi, inc, if_neg (by rw [← e]; exact hl), List.replicate_succ', List.append_assoc]
  rfl
theorem inc_end {m : Nat} {hs rest : List Int} (h : inc m hs = List.replicate hs.length 0 ++ inc m (hs.drop hs.length)) : inc m hs ++ rest = trn (hs ++ rest) hs.length := by
  rw [h, trn]; simp [inc]

set_option maxHeartbeats 1000000 in
theorem nextHomes_any (M : Nat) (hs rest : List Int) (w : World) (h1 : 1 ≤ M) (h2 : M ≤ 5) (hl : hs.length + rest.length = 5) (hf : ∀ x ∈ hs, 0 ≤ x ∧ x < (M : Int)) :
    Calls Try.prog 67 #[.int .i64 M, .int .i64 (hs.length : Int), .agg (arr (hs ++ rest))] w fun e w' => e = .returned (.agg (arr (inc M hs ++ rest))) ∧ Below w.heap.size w w' := by
  obtain ⟨A, hA⟩ : ∃ A, A = hs ++ rest := ⟨_, rfl⟩
  have hAl : A.length = 5 := by rw [hA]; simpa using hl
  have hgt : ∀ i, i < hs.length → A.getD i 0 = hs.getD i 0 ∧ 0 ≤ hs.getD i 0 ∧ hs.getD i 0 < (M : Int) := by
    intro i hi
    refine ⟨by rw [hA]; simp [List.getD, List.getElem?_append, hi], ?_⟩
    exact hf _ (by rw [List.getD_eq_getElem?_getD, List.getElem?_eq_getElem hi]; exact List.getElem_mem hi)
  have HA := Lib.hid hA
  have HG := Lib.hid hgt
  have HF := Lib.hid hf
  rw [← hA]
  have h5 : Arr ((w.alloc (.cells (arr A) 66)).alloc (.cells (arr (List.replicate 5 0)) 66)) 66 w.heap.size A := (Arr.new w _ _).alloc _
  have h6 : Arr ((w.alloc (.cells (arr A) 66)).alloc (.cells (arr (List.replicate 5 0)) 66)) 66 (w.heap.size + 1) (List.replicate 5 0) := by
    have := Arr.new (w.alloc (.cells (arr A) 66)) 66 (List.replicate 5 0)
    rw [World.size_alloc] at this
    exact this
  rw [arr_zero5] at h5 h6
  have hlen : hs.length ≤ 5 := by omega
  have B0 := ((Below.refl w.heap.size w).alloc (Nat.le_refl _) (.cells (arr A) 66)).alloc (by simp) (.cells #[.int .i64 0, .int .i64 0, .int .i64 0, .int .i64 0, .int .i64 0] 66)
  clear hA hgt hf hl
  go_enter Try.func67, Try.ntmps67
  go_wp2
  go_loopw [9] (fun s wr => ∃ i : Nat, i ≤ hs.length ∧ s = .int .i64 i ∧ Arr wr 66 w.heap.size (trn A i) ∧ Arr wr 66 (w.heap.size + 1) (List.replicate 5 0) ∧ Below w.heap.size w wr ∧ Hid (inc M hs = List.replicate i 0 ++ inc M (hs.drop i))) (fun s _ => hs.length - (intOf s).toNat)
  case atStart => exact ⟨0, Nat.zero_le _, rfl, by simpa [trn] using h5, h6, B0, rfl⟩
  case round =>
    clear h5 h6 B0
    obtain ⟨i, hi, rfl, h5, h6, hb, hinc⟩ := hrel
    have hlp := trn_len (A := A) (i := i) (by omega)
    by_cases hlt : i < hs.length
    · obtain ⟨e1, e2, e3⟩ := HG.out i hlt
      obtain ⟨x, hx⟩ : ∃ x, hs.getD i 0 = x := ⟨_, rfl⟩
      rw [hx] at e1 e2 e3
      obtain ⟨y, hc, hy⟩ := h5.get (k := i) (by omega)
      have hyx : y = x := by rw [← hy.out, trn_get (by omega), e1]
      have HX := Lib.hid hx
      clear hx e1 hy
      subst hyx
      have hfz := h5.frozen i
      have hs1 := h5.store i (y + 1)
      have h6a := h6.other (g' := w.heap.size) (by omega) i (.int .i64 (y + 1))
      have hba := hb.setCell (p := ⟨w.heap.size, i, none⟩) (Nat.le_refl _) (.int .i64 (y + 1))
      by_cases hlt2 : y + 1 < (M : Int)
      · go_wp2_with (first | (refine load_arr rfl _ _ rfl _ rfl _ _ _ _ hs1 und_five inf_five (by rw [List.length_set]; omega) ?_) | (refine store_arr rfl _ _ _ rfl _ rfl _ _ rfl _ _ h6a inf_five (by rw [List.length_set]; omega) rfl ?_))
        intro w3 h63 hg3
        have hb3 := hba.grown hg3 hba.size (fun q hq => by cases hq; exact Nat.le_succ _)
        have hfin : (trn A i).set i (y + 1) = inc M hs ++ rest := by
          rw [HA.out, ← HX.out]; exact (inc_stop hlt hinc.out (by rw [HX.out]; exact hlt2)).symm
        rw [hfin] at h63
        go_wp2
        exact ret_arr rfl rfl _ rfl _ _ 5 _ h63 und_five inf_five (by rw [List.length_append, inc_len, ← List.length_append, ← HA.out]; exact hAl) ⟨rfl, hb3⟩
      · have hs2 := hs1.store i 0
        rw [List.set_set, trn_succ (by omega)] at hs2
        have hfz2 := hs1.frozen i
        have h6b := h6a.other (g' := w.heap.size) (by omega) i (.int .i64 0)
        have hbb := hba.setCell (p := ⟨w.heap.size, i, none⟩) (Nat.le_refl _) (.int .i64 0)
        have hgo := inc_go hlt hinc.out (by rw [HX.out]; exact hlt2)
        have HGO := Lib.hid hgo
        clear hgo
        go_wp2
        go_roundw
        case rel => exact ⟨i + 1, by omega, by go_num, hs2, h6b, hbb, HGO⟩
        case measure => simp [intOf]; omega
    · obtain rfl : i = hs.length := by omega
      go_wp2_with (first | (refine load_arr rfl _ _ rfl _ rfl _ _ _ _ h5 und_five inf_five (by omega) ?_) | (refine store_arr rfl _ _ _ rfl _ rfl _ _ rfl _ _ h6 inf_five (by omega) rfl ?_))
      intro w3 h63 hg3
      have hb3 := hb.grown hg3 hb.size (fun q hq => by cases hq; exact Nat.le_succ _)
      have hfin : trn A hs.length = inc M hs ++ rest := by rw [HA.out]; exact (inc_end hinc.out).symm
      rw [hfin] at h63
      go_wp2
      exact ret_arr rfl rfl _ rfl _ _ 5 _ h63 und_five inf_five (by rw [List.length_append, inc_len, ← List.length_append, ← HA.out]; exact hAl) ⟨rfl, hb3⟩


/-- The looks of the homes number t. -/
def lkt (M N t : Nat) : Nat := (lin M (dig M N t) (dig M N t).length).2
theorem sum_lkt (M N : Nat) : sumN (M ^ N) (lkt M N) = HF M N [] := by
  rw [← sum_dig M N []]; rfl
/-- The array of the homes number t. -/
def five (M N t : Nat) : List Int := dig M N t ++ List.replicate (5 - N) 0
theorem five_len {M N t : Nat} (h : N ≤ 5) : (five M N t).length = 5 := by simp [five, dig_len]; omega
theorem five_zero {M N : Nat} (h : N ≤ 5) : five M N 0 = List.replicate 5 0 := by
  unfold five; rw [dig_zero, List.replicate_append_replicate]; congr 1; omega
theorem five_eq {M N t : Nat} (hM : 0 < M) (h : N ≤ 5) (ht : 0 < t) (ht' : t ≤ M ^ N) : five M N t = List.replicate 5 0 ↔ t = M ^ N := by
  constructor
  · intro e
    apply Classical.byContradiction
    intro hn
    rw [← five_zero (M := M) h] at e
    unfold five at e
    have e2 := (List.append_inj e (by rw [dig_len, dig_len])).1
    rw [dig_zero] at e2
    have := dig_inj M hM N t (by omega) e2
    omega
  · rintro rfl
    rw [← five_zero (M := M) h]
    unfold five
    rw [dig_pow M hM, dig_zero]
/-- All five homes are 0. -/
def zero5 : List Int := List.replicate 5 0

set_option maxHeartbeats 2000000 in
theorem implAllLooks_yes (M N : Nat) (w : World) (h1 : 1 ≤ M) (h2 : M ≤ 5) (hN : N ≤ M) :
    Calls Try.prog 42 #[.int .i64 M, .int .i64 N] w fun e w' => e = .returned (.int .i64 (HF M N [])) ∧ Below w.heap.size w w' := by
  have hpow : (M : Nat) ^ N ≤ 3125 := by
    have e1 : M ^ N ≤ 5 ^ N := Nat.pow_le_pow_left h2 N
    have e2 : (5 : Nat) ^ N ≤ 5 ^ 5 := Nat.pow_le_pow_right (by omega) (by omega)
    omega
  have hpos : 0 < M ^ N := Nat.pow_pos (by omega)
  have hbd := HF_le h1 h2 N [] (by simpa using hN) (by simp)
  have h5 : (5 : Nat) ^ N * 50 ≤ 1000000 := by
    have : (5 : Nat) ^ N ≤ 5 ^ 5 := Nat.pow_le_pow_right (by omega) (by omega)
    omega
  have hsum : ∀ t, t ≤ M ^ N → sumN t (lkt M N) ≤ 1000000 := fun t ht => by
    have := sumN_mono ht (f := lkt M N)
    rw [sum_lkt] at this; omega
  obtain ⟨P, hP⟩ : ∃ P, P = M ^ N := ⟨_, rfl⟩
  rw [← hP] at hpow hpos hsum
  have HS := Lib.hid hsum
  have HP := Lib.hid hP
  have hg := guard_five
  have h5a : Arr (w.alloc (.cells (arr (List.replicate 5 0)) 66)) 66 w.heap.size zero5 := Arr.new w _ _
  rw [arr_zero5] at h5a
  have B0 := (Below.refl w.heap.size w).alloc (Nat.le_refl _) (.cells #[.int .i64 0, .int .i64 0, .int .i64 0, .int .i64 0, .int .i64 0] 66)
  have d1 : decide (5 < (M : Int)) = false := by simp; omega
  have d2 : decide ((M : Int) < N) = false := by simp; omega
  clear hbd h5 hsum hP
  have h6a : Arr ((w.alloc (.cells #[.int .i64 0, .int .i64 0, .int .i64 0, .int .i64 0, .int .i64 0] 66)).alloc (.cells (arr (List.replicate 5 0)) 66)) 66 (w.heap.size + 1) (List.replicate 5 0) := by
    have := Arr.new (w.alloc (.cells #[.int .i64 0, .int .i64 0, .int .i64 0, .int .i64 0, .int .i64 0] 66)) 66 (List.replicate 5 0)
    rw [World.size_alloc] at this
    exact this
  rw [arr_zero5] at h6a
  have d3 : decide ((M : Int) < 1) = false := by simp; omega
  have d4 : decide ((N : Int) < 0) = false := by simp
  go_enter Try.func42, Try.ntmps42
  go_wp2_with (first | (refine load_arr rfl _ _ rfl _ rfl _ _ _ _ h5a und_five inf_five rfl ?_) | (refine store_arr rfl _ _ _ rfl _ rfl _ _ rfl _ _ h6a inf_five rfl rfl ?_))
  intro w2 h62 hg2
  have B2 : Below w.heap.size w w2 := (B0.alloc (by simp) _).grown hg2 (by simp; omega) (fun q hq => by cases hq; exact Nat.le_succ _)
  have h52 := (h5a.alloc _).kept hg2 (by simp)
  have h63 : Arr w2 66 (w.heap.size + 1) (five M N 0) := by rw [five_zero (by omega)]; exact h62
  clear hg2 h6a h62 h5a B0
  go_wp2
  go_loopg [7] P (fun gn s wr => ∃ t : Nat, t + gn = P ∧ t < P ∧ s = .int .i64 (sumN t (lkt M N)) ∧ Arr wr 66 w.heap.size zero5 ∧ Arr wr 66 (w.heap.size + 1) (five M N t) ∧ Below w.heap.size w wr)
  case atStart => exact ⟨0, by omega, hpos, rfl, h52, h63, B2⟩
  case round =>
    clear h52 h63 B2
    obtain ⟨t, htn, htP, rfl, h5, h6, hb⟩ := hrel
    have HTN := Lib.hid htn
    clear htn
    have hlim := HS.out t (by omega)
    have hlim2 := HS.out (t + 1) (by omega)
    rw [sumN] at hlim2
    have hsl := slice_five (w.heap.size + 1) N (by omega)
    have hrd : Reads wr (some ⟨w.heap.size + 1, 0, none⟩) (dig M N t) := by
      refine .inr ⟨_, 0, rfl, h6.lt, fun i hi => ?_⟩
      rw [dig_len] at hi
      obtain ⟨x, e1, e2⟩ := h6.get (k := i) (by rw [five_len (by omega)]; omega)
      rw [Nat.zero_add, e1, ← e2.out]
      simp [five, List.getD, List.getElem?_append, dig_len, hi]
    have hH : Homes M (dig M N t) := homes_of h1 (by omega) (by rw [dig_len]; exact hN) (dig_fit M (by omega) N t)
    have hV : VH M (dig M N t) = true := VH_iff.2 ⟨by omega, by omega, by rw [dig_len]; omega, dig_fit M (by omega) N t⟩
    have hct := implLinearTable_yes M _ _ 5 wr hrd hH hV
    rw [show (dig M N t).length = N from dig_len M N t] at hct
    have hL : (lin M (dig M N t) N).2 = lkt M N t := by unfold lkt; rw [dig_len]
    rw [hL] at hct
    have HCT := Lib.hid hct
    have hlen6 := five_len (M := M) (N := N) (t := t) (by omega)
    clear hct hL hV
    go_wp2_with fail
    refine HCT.out.mono ?_
    rintro e w3 ⟨v, rfl, _, b3⟩
    replace h5 := h5.belowAll b3
    replace h6 := h6.belowAll b3
    have B3 := hb.trans (b3.mono hb.size)
    clear HCT hrd b3 hb
    go_wp2_with (refine load_arr rfl _ _ rfl _ rfl _ _ _ _ h6 und_five inf_five hlen6 ?_)
    have hnx := nextHomes_any M (dig M N t) (List.replicate (5 - N) 0) w3 h1 h2 (by rw [dig_len, List.length_replicate]; omega) (dig_fit M (by omega) N t)
    rw [show ((dig M N t).length : Int) = N by rw [dig_len], inc_dig M (by omega)] at hnx
    have HNX : Hid (Calls Try.prog 67 #[.int .i64 M, .int .i64 N, .agg (arr (five M N t))] w3 fun e w' => e = .returned (.agg (arr (five M N (t + 1)))) ∧ Below w3.heap.size w3 w') := hnx
    clear hnx
    go_wp2_with fail
    refine HNX.out.mono ?_
    rintro e w4 ⟨rfl, b4⟩
    replace h5 := h5.belowAll b4
    replace h6 := h6.belowAll b4
    have B4 := B3.trans (b4.mono B3.size)
    have hlen7 := five_len (M := M) (N := N) (t := t + 1) (by omega)
    clear HNX b4 B3
    go_wp2_with (refine store_arr rfl _ _ _ rfl _ rfl _ _ rfl _ _ h6 inf_five hlen7 hlen6 ?_)
    intro w5 h65 g5
    have B5 := B4.grown g5 B4.size (fun q hq => by cases hq; exact Nat.le_succ _)
    replace h5 := h5.kept g5 (by simp)
    clear h6 g5 B4
    have heq := eql_five (five M N (t + 1)) zero5 hlen7 rfl w5
    by_cases hend : t + 1 = P
    · have hdec : decide (five M N (t + 1) = zero5) = true := by
        rw [decide_eq_true_eq]; exact (five_eq (by omega) (by omega) (by omega) (by rw [← HP.out]; omega)).2 (by rw [← HP.out]; exact hend)
      rw [hdec] at heq
      have hres : sumN t (lkt M N) + lkt M N t = HF M N [] := by
        rw [← sum_lkt, ← HP.out, ← hend, sumN]
      have HR := Lib.hid hres
      have HE := Lib.hid hend
      clear hdec hres hend
      go_wp2_with (first | (refine load_arr rfl _ (.tmp 6) rfl _ rfl _ _ _ _ h65 und_five inf_five hlen7 ?_) | (refine load_arr rfl _ (.tmp 5) rfl _ rfl _ _ _ _ h5 und_five inf_five rfl ?_))
      go_ret
      exact ⟨ret_int (by rw [← HR.out]; rfl), B5⟩
    · have hdec : decide (five M N (t + 1) = zero5) = false := by
        rw [decide_eq_false_iff_not]; intro e; exact hend (by rw [HP.out]; exact (five_eq (by omega) (by omega) (by omega) (by rw [← HP.out]; omega)).1 e)
      rw [hdec] at heq
      clear hdec
      go_wp2_with (first | (refine load_arr rfl _ (.tmp 6) rfl _ rfl _ _ _ _ h65 und_five inf_five hlen7 ?_) | (refine load_arr rfl _ (.tmp 5) rfl _ rfl _ _ _ _ h5 und_five inf_five rfl ?_))
      go_roundg (gk - 1)
      case measure => have := HTN.out; omega
      case rel => exact ⟨t + 1, by have := HTN.out; omega, by omega, by rw [sumN]; go_num, h5, h65, B5⟩

theorem implAllLooks_any (m n : Int) (w : World) (hm : In64 m) (hn : In64 n) :
    Calls Try.prog 42 #[.int .i64 m, .int .i64 n] w fun e w' => e = .returned (.int .i64 (AL m n)) ∧ Below w.heap.size w w' := by
  by_cases h : 1 ≤ m ∧ m ≤ 5 ∧ 0 ≤ n ∧ n ≤ m
  · obtain ⟨M, rfl⟩ := Int.eq_ofNat_of_zero_le (show 0 ≤ m by omega)
    obtain ⟨N, rfl⟩ := Int.eq_ofNat_of_zero_le (show 0 ≤ n by omega)
    have hA : AL M N = HF M N [] := by unfold AL; rw [if_pos h]; simp
    rw [hA]
    exact implAllLooks_yes M N w (by omega) (by omega) (by omega)
  · have hA : AL m n = -1 := by unfold AL; rw [if_neg h]
    rw [hA]
    clear hA
    by_cases h1 : m < 1
    · go_enter Try.func42, Try.ntmps42
      go_wp2
      go_ret
      exact ⟨rfl, Below.refl _ _⟩
    by_cases h2 : 5 < m
    · go_enter Try.func42, Try.ntmps42
      go_wp2
      go_ret
      exact ⟨rfl, Below.refl _ _⟩
    by_cases h3 : n < 0
    · go_enter Try.func42, Try.ntmps42
      go_wp2
      go_ret
      exact ⟨rfl, Below.refl _ _⟩
    have h4 : m < n := by omega
    go_enter Try.func42, Try.ntmps42
    go_wp2
    go_ret
    exact ⟨rfl, Below.refl _ _⟩
end Go.Proofs.Ytninnjkjodhpaaa
