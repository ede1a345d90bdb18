/-
  impl.isThings, isSet, isOrder, validOrders.
-/
import Derived.Test.YtjkcahmbocjacaaV7
import Derived.Test.YtjkcahmbocjacaaJ1
import Derived.Test.YtjkcahmbocjacaaT1
namespace Go.Proofs.Ytjkcahmbocjacaa
open Go.RowKit Go.Maps

set_option maxHeartbeats 1000000 in
theorem isThings_any (n : Nat) (w : World) : Calls Try.prog 92 #[.int .i64 (n : Int)] w fun e w' => e = .returned (.bool (decide (1 ≤ n ∧ n ≤ 5))) ∧ w = w' := by
  by_cases h1 : 1 ≤ n
  · have h1' : (n : Int) ≥ 1 := by omega
    go_enter Try.func92, Try.ntmps92
    go_wp2
    go_ret
    exact ⟨ret_bool (by simp [h1]; try omega), rfl⟩
  · have h1' : ¬ (n : Int) ≥ 1 := by omega
    go_enter Try.func92, Try.ntmps92
    go_wp2
    go_ret
    exact ⟨ret_bool (by simp [h1]; try omega), rfl⟩
set_option maxHeartbeats 1000000 in
theorem isSet_any (n : Nat) (s : Int) (w : World) (hn : n ≤ 40) : Calls Try.prog 88 #[.int .i64 (n : Int), .int .i64 s] w fun e w' => e = .returned (.bool (decide (1 ≤ s ∧ s < ((2 ^ n : Nat) : Int)))) ∧ w = w' := by
  have c := fun wx => isSum_any n s wx hn
  obtain ⟨R, hR⟩ : ∃ R, R = decide (1 ≤ s ∧ s < ((2 ^ n : Nat) : Int)) := ⟨_, rfl⟩
  obtain ⟨S, hS⟩ : ∃ S, S = decide (0 ≤ s ∧ s < ((2 ^ n : Nat) : Int)) := ⟨_, rfl⟩
  rw [← hS] at c
  rw [← hR]
  have e : R = (S && decide (s > 0)) := by
    rw [hR, hS]
    by_cases h1 : 1 ≤ s ∧ s < ((2 ^ n : Nat) : Int)
    · simp only [h1, and_self, decide_true]; simp; omega
    · have : ¬ ((0 ≤ s ∧ s < ((2 ^ n : Nat) : Int)) ∧ s > 0) := by omega
      simp only [h1, decide_false]
      symm
      rw [← Bool.decide_and, decide_eq_false_iff_not]
      exact this
  clear hS hR
  have C := Lib.hid c
  clear c
  go_enter Try.func88, Try.ntmps88
  go_wp2_with fail
  refine (C.out _).mono ?_
  rintro e w' ⟨rfl, rfl⟩
  cases S with
  | true =>
    go_wp2
    go_ret
    exact ⟨ret_bool (by rw [e]; simp), rfl⟩
  | false =>
    go_wp2
    go_ret
    exact ⟨ret_bool (by rw [e]; simp), rfl⟩

/-- What a tally of n things holds, the first k of the list taken out. -/
def lef (n : Nat) (l : List Int) (k : Nat) : Int → Nat := fun x => if (0 ≤ x ∧ x < (n : Int)) ∧ x ∉ l.take k then 1 else 0
theorem lef_zero (n : Nat) (l : List Int) (x : Int) : lef n l 0 x = ind n x := by unfold lef ind; simp
theorem lef_succ {n : Nat} {l : List Int} {k : Nat} (h : k < l.length) (x : Int) : lef n l (k + 1) x = upd (lef n l k) (l.getD k 0) 0 x := by
  unfold lef upd
  rw [take_snocD h]
  by_cases e : x = l.getD k 0
  · rw [if_pos e, if_neg (by rw [e]; simp)]
  · rw [if_neg e]
    simp only [List.mem_append, List.mem_singleton, e, or_false]
set_option maxRecDepth 100000 in
set_option maxHeartbeats 4000000 in
theorem isOrder_any (n : Nat) (a : Option Addr) (l : List Int) (cap : Nat) (w : World) (hr : Reads w a l) (hl : l.length ≤ 1048586) (hi64 : ∀ x ∈ l, In64 x) (hn : n ≤ 100) :
    Calls Try.prog 100 #[.int .i64 (n : Int), .slice a l.length cap] w fun e w' => e = .returned (.bool (decide (l.length = n ∧ VOn n l))) ∧ Below w.heap.size w w' := by
  obtain ⟨R, hR⟩ : ∃ R, R = decide (l.length = n ∧ VOn n l) := ⟨_, rfl⟩
  rw [← hR]
  have HR := Lib.hid hR
  clear hR
  go_enter Try.func100, Try.ntmps100
  go_wp2_with fail
  refine (thingsOf_any n w hn).mono ?_
  rintro e w1 ⟨rfl, hT, hB⟩
  have hT0 : Tal w1 w.heap.size (lef n l 0) (n - 0) := hT.congr (lef_zero n l)
  clear hT
  go_wp2
  go_loopw [12] (fun iv wr => ∃ i : Nat, i ≤ l.length ∧ i ≤ n ∧ iv = .int .i64 (i : Int) ∧ Hid (∀ j, j < i → (0 ≤ l.getD j 0 ∧ l.getD j 0 < n) ∧ l.getD j 0 ∉ l.take j) ∧ Tal wr w.heap.size (lef n l i) (n - i) ∧ Below w.heap.size w wr) (fun iv _ => l.length - (intOf iv).toNat)
  case atStart => exact ⟨0, by omega, by omega, rfl, fun j hj => by omega, hT0, hB⟩
  case round =>
    clear hT0 hB
    obtain ⟨i, hi, hin, rfl, hf, hT, hB⟩ := hrel
    by_cases hlt : i < l.length
    · obtain ⟨b, off, y, rfl, hb, hcell, hy⟩ := (hr.below hB).get hlt
      have hi1 : (i : Int) < (l.length : Int) := by omega
      have hy64 : In64 y := by
        have := hi64 (l.getD i 0) (by simp [List.getD, List.getElem?_eq_getElem hlt])
        rwa [hy.out] at this
      by_cases hc : lef n l i y = 0
      · have e : R = false := by
          rw [HR.out, decide_eq_false_iff_not]
          rintro ⟨_, h⟩
          have := h i hlt
          rw [hy.out] at this
          unfold lef at hc
          rw [if_pos this] at hc
          omega
        subst e
        have CT := Lib.hid (take_none w.heap.size _ _ y wr hT hy64 hc)
        clear hT hc hy
        go_wp2_with fail
        refine CT.out.mono ?_
        rintro e w' ⟨rfl, rfl⟩
        go_wp2
        go_ret
        exact ⟨rfl, hB⟩
      · have hc1 : ((0 ≤ y ∧ y < (n : Int)) ∧ y ∉ l.take i) ∧ lef n l i y = 1 := by
          unfold lef at hc ⊢
          by_cases h : (0 ≤ y ∧ y < (n : Int)) ∧ y ∉ l.take i
          · exact ⟨h, if_pos h⟩
          · rw [if_neg h] at hc; omega
        have HF : Hid (∀ j, j < i + 1 → (0 ≤ l.getD j 0 ∧ l.getD j 0 < n) ∧ l.getD j 0 ∉ l.take j) := VOn.snoc hf.out (by rw [hy.out]; exact hc1.1)
        have hin1 : i + 1 ≤ n := by
          have h : VOn n (l.take i) := fun j hj => by
            have hj' : j < i := by simp at hj; omega
            have := hf.out j hj'
            have e1 : (l.take i).getD j 0 = l.getD j 0 := by simp [List.getD, hj']
            have e2 : (l.take i).take j = l.take j := by rw [List.take_take, Nat.min_eq_left (by omega)]
            rw [e1, e2]; exact this
          refine Decidable.byContradiction fun hcon => ?_
          exact hc1.1.2 (h.full (by simp; omega) hc1.1.1.1 hc1.1.1.2)
        have CT := Lib.hid (take_some w.heap.size _ _ y wr hT hy64 hc1.2 (by omega))
        have HY := Lib.hid hy.out
        clear hT hc hy hf hc1
        go_wp2_with fail
        refine CT.out.mono ?_
        rintro e w2 ⟨rfl, hT2, hg2⟩
        have hB2 := hB.grown hg2 hB.size (fun j hj => by cases hj; exact Nat.le_refl _)
        have hT3 : Tal w2 w.heap.size (lef n l (i + 1)) (n - (i + 1)) := by
          have := hT2.congr (c' := lef n l (i + 1)) (fun x => by rw [lef_succ hlt, HY.out])
          rwa [Nat.sub_sub] at this
        clear hT2 hg2 hB CT
        go_wp2
        go_roundw
        case rel => exact ⟨i + 1, by omega, hin1, by go_num, HF, hT3, hB2⟩
        case measure => simp [intOf]; omega
    · obtain rfl : i = l.length := by omega
      have e : R = decide ((n - l.length : Nat) = 0) := by
        rw [HR.out]
        by_cases h : l.length = n
        · have hv : VOn n l := hf.out
          simp [h, hv]
        · have : ¬ n - l.length = 0 := by omega
          simp [h, this]
      obtain ⟨D, h0, h1, _, _⟩ := hT
      clear hf
      go_wp2_with (first
        | (at_len; refine wpList_len_own _ rfl _ 74 rfl 3 3 Try.underlying74 _ _ _ D rfl h0 ?_)
        | go_in)
      go_ret
      exact ⟨ret_bool (by
        rw [e]
        by_cases h : n - l.length = 0
        · rw [h]; rfl
        · rw [decide_eq_false h, beq_eq_false_iff_ne]; omega), hB⟩

/-- The first k orders are of n things. -/
def OkK (n : Nat) (os : List (List Int)) (k : Nat) : Prop := ∀ i, i < k → (os.getD i []).length = n ∧ VOn n (os.getD i [])
instance (n : Nat) (os : List (List Int)) (k : Nat) : Decidable (OkK n os k) := by unfold OkK; infer_instance
set_option maxHeartbeats 4000000 in
theorem implValidOrders_any (n : Nat) (a : Option Addr) (ts : List (List Int)) (cap : Nat) (w : World) (hr : ReadsS w a ts) (hl : bulk ts ≤ 1048586) (hi64 : ∀ l ∈ ts, ∀ x ∈ l, In64 x) :
    Calls Try.prog 87 #[.int .i64 (n : Int), .slice a ts.length cap] w fun e w' => e = .returned (.bool (decide ((1 ≤ n ∧ n ≤ 5) ∧ ts.length ≤ 6 ∧ OkK n ts ts.length))) ∧ Below w.heap.size w w' := by
  obtain ⟨R, hR⟩ : ∃ R, R = decide ((1 ≤ n ∧ n ≤ 5) ∧ ts.length ≤ 6 ∧ OkK n ts ts.length) := ⟨_, rfl⟩
  rw [← hR]
  have HR := Lib.hid hR
  have blen := bulk_len ts
  clear hR
  have c1 := fun wx => isThings_any n wx
  by_cases h5 : 1 ≤ n ∧ n ≤ 5
  · rw [show decide (1 ≤ n ∧ n ≤ 5) = true by simpa using h5] at c1
    by_cases h6 : ts.length ≤ 6
    · have h6' : ¬ (ts.length : Int) > 6 := by omega
      go_enter Try.func87, Try.ntmps87
      go_wp2_with fail
      refine (c1 _).mono ?_
      rintro e w' ⟨rfl, rfl⟩
      go_wp2
      go_loopw [17] (fun iv wr => ∃ i : Nat, i ≤ ts.length ∧ iv = .int .i64 (i : Int) ∧ Hid (OkK n ts i) ∧ Below w.heap.size w wr) (fun iv _ => ts.length - (intOf iv).toNat)
      case atStart => exact ⟨0, by omega, rfl, fun j hj => by omega, Below.refl _ _⟩
      case round =>
        obtain ⟨i, hi, rfl, hf, hB⟩ := hrel
        by_cases hlt : i < ts.length
        · have hi1 : (i : Int) < (ts.length : Int) := by omega
          obtain ⟨b, off, A, C, rfl, hb, hc, hri, hle⟩ := (hr.below hB).get hlt
          have hbi := bulk_row hlt
          have c := isOrder_any n A (tr ts i) C wr hri (by omega) (hi64 _ (by rw [tr_eq hlt]; exact List.getElem_mem _)) (by omega)
          obtain ⟨S, hS⟩ : ∃ S, S = decide ((tr ts i).length = n ∧ VOn n (tr ts i)) := ⟨_, rfl⟩
          rw [← hS] at c
          have HS := Lib.hid hS
          have CC := Lib.hid c
          clear c hS hri hle
          go_wp2_with fail
          refine CC.out.mono ?_
          rintro e w2 ⟨rfl, b2⟩
          have hB2 := hB.trans (b2.mono hB.size)
          clear b2 hB
          cases S with
          | true =>
            have hs : (tr ts i).length = n ∧ VOn n (tr ts i) := by have := HS.out; simpa using this.symm
            have HF : Hid (OkK n ts (i + 1)) := fun j hj => by
              by_cases e : j = i
              · subst e; exact hs
              · exact hf.out j (by omega)
            clear hf hs
            go_wp2
            go_roundw
            case rel => exact ⟨i + 1, by omega, by go_num, HF, hB2⟩
            case measure => simp [intOf]; omega
          | false =>
            have e : R = false := by
              rw [HR.out, decide_eq_false_iff_not]
              rintro ⟨_, _, h⟩
              have h2 := HS.out
              have h3 : decide ((tr ts i).length = n ∧ VOn n (tr ts i)) = true := decide_eq_true (h i hlt)
              rw [h3] at h2
              cases h2
            subst e
            go_wp2
            go_ret
            exact ⟨rfl, hB2⟩
        · obtain rfl : i = ts.length := by omega
          have e : R = true := by rw [HR.out]; exact decide_eq_true ⟨h5, h6, hf.out⟩
          subst e
          go_wp2
          go_ret
          exact ⟨rfl, hB⟩
    · have h6' : (ts.length : Int) > 6 := by omega
      have e : R = false := by rw [HR.out, decide_eq_false_iff_not]; exact fun h => h6 h.2.1
      subst e
      go_enter Try.func87, Try.ntmps87
      go_wp2_with fail
      refine (c1 _).mono ?_
      rintro e w' ⟨rfl, rfl⟩
      go_wp2
      go_ret
      exact ⟨rfl, Below.refl _ _⟩
  · rw [show decide (1 ≤ n ∧ n ≤ 5) = false by simpa using h5] at c1
    have e : R = false := by rw [HR.out, decide_eq_false_iff_not]; exact fun h => h5 h.1
    subst e
    go_enter Try.func87, Try.ntmps87
    go_wp2_with fail
    refine (c1 _).mono ?_
    rintro e w' ⟨rfl, rfl⟩
    go_wp2
    go_ret
    exact ⟨rfl, Below.refl _ _⟩
end Go.Proofs.Ytjkcahmbocjacaa
