/-
  A slice of pairs that came in by a row; impl.isSlot, impl.ValidPairs, spec.validPairs, spec.ValidPairs.
-/
import Derived.Test.YtlkhobofbkoliaaPc
import Derived.Test.YtlkhobofbkoliaaW1
import Derived.Deep.SlicePairs
namespace Go.Proofs.Ytlkhobofbkoliaa
open Go.RowKit

/-- What the row's frame says of a slice of pairs that came in. -/
def PRow (w : World) (a : Option Addr) (len : Nat) (l : List (Int × Int)) : Prop := l.length = len ∧ ReadsP w a l ∧ len ≤ 9223372036854775807
theorem rowP {H : Type} {enc : TypeId × Value → H} {w : World} {a : Option Addr} {len cap : Nat} {d : DataW H} {p : List MemPlace}
    (h : ∃ fuel, DataW.trod enc Try.prog w 0 (fun _ => true) true fuel 57 (Value.slice a len cap).cells.toList = some (d, p)) : ∃ l, PRow w a len l := by
  obtain ⟨fuel, hf⟩ := h
  have he : ∃ f0 f1 : Field, Try.prog.underlying 112 = some (.struct #[f0, f1]) ∧ f0.offset = 0 ∧ f1.offset = 1 ∧ f0.type = 3 ∧ f1.type = 3 := ⟨_, _, Try.underlying112, rfl, rfl, rfl, rfl⟩
  obtain ⟨f0, f1, hu, o0, o1, t0, t1⟩ := he
  have ci : Try.prog.cellsOf 3 = 1 := by kernel_rfl
  have ch : Try.prog.cellsOf 112 = 2 := by kernel_rfl
  rcases Deep.open_slice_pairs Try.underlying57 hu ch o0 o1 (by rw [t0]; exact ci) (by rw [t1]; exact ci) hf with ⟨hcs, _⟩ | ⟨x, l, c, m, n, V0, V1, D0, D1, P0, P1, hcs, _, hl, hm, hmm, _, hc⟩
  · simp [Value.cells] at hcs
    obtain ⟨rfl, rfl, rfl⟩ := hcs
    exact ⟨[], rfl, .inl rfl, by omega⟩
  · simp [Value.cells] at hcs
    obtain ⟨rfl, rfl, rfl⟩ := hcs
    simp only [if_true] at hmm
    subst hmm
    unfold maxLen at hm
    by_cases h0 : len = 0
    · subst h0; exact ⟨[], rfl, .inl rfl, by omega⟩
    · have each : ∀ i, i < len → ∃ q : Int × Int, w.cell? (x.add (i * 2)) = some (.int .i64 q.1) ∧ w.cell? (x.add (i * 2 + 1)) = some (.int .i64 q.2) := by
        intro i hi
        obtain ⟨h1, h2, h3, h4⟩ := hc i (by omega)
        rw [t0] at h3
        rw [t1] at h4
        obtain ⟨n0, e0, _⟩ := DataW.trod_int Try.underlying3 h3
        obtain ⟨n1, e1, _⟩ := DataW.trod_int Try.underlying3 h4
        refine ⟨(n0, n1), ?_, ?_⟩
        · rw [h1]; simpa using e0
        · rw [h2]; simpa using e1
      obtain ⟨q, hq⟩ := Deep.choose_lt each
      obtain ⟨b, off, spot⟩ := x
      have hc0 := (hq 0 (by omega)).1
      have hspot : spot = none := by simpa [Addr.add] using World.cell?_spot hc0
      subst hspot
      refine ⟨(List.range len).map q, by simp, .inr ⟨b, off, rfl, ?_, fun i hi => ?_⟩, by omega⟩
      · have := World.block_lt_of_cell? w _ hc0
        simpa [Addr.add] using this
      · have hi' : i < len := by simpa using hi
        have := hq i hi'
        rw [Addr.add_lit, Addr.add_lit] at this
        have e : ((List.range len).map q).getD i (0, 0) = q i := by simp [List.getD, hi']
        rw [← Nat.add_assoc] at this
        unfold pA pB
        rw [e]
        exact this

set_option maxHeartbeats 400000 in
theorem isSlot_any (m x : Int) (w : World) :
    Calls Try.prog 86 #[.int .i64 m, .int .i64 x] w fun e w' => e = .returned (.bool (decide (0 ≤ x) && decide (x < m))) ∧ w = w' := by
  by_cases h1 : 0 ≤ x
  · have hd : decide (0 ≤ x) = true := by simp [h1]
    go_enter Try.func86, Try.ntmps86
    go_wp2
    go_ret
    exact ⟨ret_bool (by simp [h1]), rfl⟩
  · have hd : decide (0 ≤ x) = false := by simpa using h1
    go_enter Try.func86, Try.ntmps86
    go_wp2
    go_ret
    exact ⟨ret_bool (by simp [h1]), rfl⟩

set_option maxHeartbeats 1000000 in
theorem implVP_any (m : Int) (a : Option Addr) (l : List (Int × Int)) (cap : Nat) (w : World) (hr : ReadsP w a l) :
    Calls Try.prog 34 #[.int .i64 m, .slice a l.length cap] w fun e w' => e = .returned (.bool (VP m l)) ∧ Below w.heap.size w w' := by
  by_cases h1 : m < 1
  · go_enter Try.func34, Try.ntmps34
    go_wp2
    go_ret
    exact ⟨ret_bool (VP_false (by omega)).symm, Below.refl _ _⟩
  by_cases h2 : 10 < m
  · go_enter Try.func34, Try.ntmps34
    go_wp2
    go_ret
    exact ⟨ret_bool (VP_false (by omega)).symm, Below.refl _ _⟩
  by_cases h3 : 8 < l.length
  · go_enter Try.func34, Try.ntmps34
    go_wp2
    go_ret
    exact ⟨ret_bool (VP_false (by omega)).symm, Below.refl _ _⟩
  go_enter Try.func34, Try.ntmps34
  go_wp2
  go_loopw [20] (fun i wr => ∃ k : Nat, k ≤ l.length ∧ i = .int .i64 k ∧ FitP m l k ∧ Below w.heap.size w wr) (fun i _ => l.length - (intOf i).toNat)
  case atStart => exact ⟨0, Nat.zero_le _, rfl, FitP.zero _ _, Below.refl _ _⟩
  case round =>
    obtain ⟨k, hk, rfl, hf, hb⟩ := hrel
    have hs := hb.size
    by_cases hlt : k < l.length
    · obtain ⟨b, off, x, y, rfl, hbb, hcx, hcy, hx, hy⟩ := hr.get hlt
      have c1 : wr.cell? ⟨b, off + k * 2, none⟩ = some (.int .i64 x) := (hb.cell (by exact hbb)).trans hcx
      have c2 : wr.cell? ⟨b, off + k * 2 + 1, none⟩ = some (.int .i64 y) := (hb.cell (by exact hbb)).trans hcy
      have hb2 := hb.alloc hs (.cells #[.int .i64 x, .int .i64 y] 44)
      clear hcx hcy
      by_cases g1 : 0 ≤ x ∧ x < m
      · have e1 : (decide (0 ≤ x) && decide (x < m)) = true := by simp [g1]
        by_cases g2 : 0 ≤ y ∧ y < m
        · have e2 : (decide (0 ≤ y) && decide (y < m)) = true := by simp [g2]
          have E1 := Lib.hid e1
          have E2 := Lib.hid e2
          clear e1 e2
          go_wp2_with fail
          refine (isSlot_any _ _ _).mono ?_
          rintro e w' ⟨rfl, rfl⟩
          rw [E1.out]
          go_wp2_with fail
          refine (isSlot_any _ _ _).mono ?_
          rintro e w' ⟨rfl, rfl⟩
          rw [E2.out]
          go_wp2
          go_roundw
          case rel => exact ⟨k + 1, by omega, by go_num, hf.succ (by rw [hx.out]; omega) (by rw [hx.out]; omega) (by rw [hy.out]; omega) (by rw [hy.out]; omega), hb2⟩
          case measure => simp [intOf]; omega
        · have e2 : (decide (0 ≤ y) && decide (y < m)) = false := by simp; omega
          have E1 := Lib.hid e1
          have E2 := Lib.hid e2
          clear e1 e2
          go_wp2_with fail
          refine (isSlot_any _ _ _).mono ?_
          rintro e w' ⟨rfl, rfl⟩
          rw [E1.out]
          go_wp2_with fail
          refine (isSlot_any _ _ _).mono ?_
          rintro e w' ⟨rfl, rfl⟩
          rw [E2.out]
          go_wp2
          go_ret
          exact ⟨ret_bool (notFitP hlt (by rw [hx.out, hy.out]; omega)).symm, hb2⟩
      · have e1 : (decide (0 ≤ x) && decide (x < m)) = false := by simp; omega
        have E1 := Lib.hid e1
        clear e1
        go_wp2_with fail
        refine (isSlot_any _ _ _).mono ?_
        rintro e w' ⟨rfl, rfl⟩
        rw [E1.out]
        go_wp2
        go_ret
        exact ⟨ret_bool (notFitP hlt (by rw [hx.out, hy.out]; omega)).symm, hb2⟩
    · obtain rfl : k = l.length := by omega
      go_wp2
      go_ret
      exact ⟨ret_bool (VP_iff.2 ⟨by omega, by omega, by omega, hf⟩).symm, hb⟩

theorem implValidPairs_any (m : Int) (a : Option Addr) (l : List (Int × Int)) (cap : Nat) (w : World) (_hm : In64 m) (hr : ReadsP w a l) (_hl : l.length ≤ 1048586) :
    Calls Try.prog 34 #[.int .i64 m, .slice a l.length cap] w fun e w' => e = .returned (.bool (VP m l)) ∧ Below w.heap.size w w' := implVP_any m a l cap w hr

set_option maxHeartbeats 1000000 in
theorem specvalidPairs_pos (m : Int) (a : Option Addr) (l : List (Int × Int)) (cap : Nat) (w : World) (hr : ReadsP w a l) (hm : 1 ≤ m) (hm' : m ≤ 9223372036854775807) (hl : l.length ≤ 1048586) :
    Calls Try.prog 87 #[.int .i64 m, .slice a l.length cap] w fun e w' => e = .returned (.bool (VP m l)) ∧ w = w' := by
  go_enter Try.func87, Try.ntmps87
  go_wp2
  go_loop [5] (fun i => ∃ k : Nat, k ≤ l.length ∧ i = .int .i64 k ∧ FitP m l k) (fun i => l.length - (intOf i).toNat)
  case atStart => exact ⟨0, Nat.zero_le _, rfl, FitP.zero _ _⟩
  case round =>
    obtain ⟨k, hk, rfl, hf⟩ := hrel
    by_cases hlt : k < l.length
    · obtain ⟨b, off, x, y, rfl, hbb, hcx, hcy, hx, hy⟩ := hr.get hlt
      by_cases g1 : inR x 0 (m - 1) = true
      · by_cases g2 : inR y 0 (m - 1) = true
        · go_wp2_with (go_at_call 107; refine (inRange_any _ _ _ _).mono ?_; rintro e w' ⟨rfl, rfl⟩)
          go_round
          case rel => rw [inR_iff] at g1 g2; exact ⟨k + 1, by omega, by go_num, hf.succ (by rw [hx.out]; omega) (by rw [hx.out]; omega) (by rw [hy.out]; omega) (by rw [hy.out]; omega)⟩
          case measure => simp [intOf]; omega
        · have g3 : inR y 0 (m - 1) = false := by simpa using g2
          go_wp2_with (go_at_call 107; refine (inRange_any _ _ _ _).mono ?_; rintro e w' ⟨rfl, rfl⟩)
          go_ret
          exact ⟨ret_bool (notFitP hlt (by rw [hx.out, hy.out]; rw [inR_iff] at g2; omega)).symm, rfl⟩
      · have g3 : inR x 0 (m - 1) = false := by simpa using g1
        go_wp2_with (go_at_call 107; refine (inRange_any _ _ _ _).mono ?_; rintro e w' ⟨rfl, rfl⟩)
        go_ret
        exact ⟨ret_bool (notFitP hlt (by rw [hx.out, hy.out]; rw [inR_iff] at g1; omega)).symm, rfl⟩
    · obtain rfl : k = l.length := by omega
      by_cases g1 : inR m 1 10 = true
      · go_wp2_with (go_at_call 107; refine (inRange_any _ _ _ _).mono ?_; rintro e w' ⟨rfl, rfl⟩)
        go_ret
        refine ⟨ret_bool ?_, rfl⟩
        rw [inR_iff] at g1
        by_cases h3 : l.length ≤ 8
        · rw [VP_iff.2 ⟨g1.1, g1.2, h3, hf⟩]; simp; omega
        · rw [VP_false (by omega)]; simp; omega
      · have g2 : inR m 1 10 = false := by simpa using g1
        go_wp2_with (go_at_call 107; refine (inRange_any _ _ _ _).mono ?_; rintro e w' ⟨rfl, rfl⟩)
        go_ret
        exact ⟨ret_bool (VP_false (by rw [inR_iff] at g1; omega)).symm, rfl⟩

set_option maxHeartbeats 1000000 in
theorem specvalidPairs_neg (m : Int) (a : Option Addr) (l : List (Int × Int)) (cap : Nat) (w : World) (hr : ReadsP w a l) (hm : m < 1) (hl : l.length ≤ 1048586) :
    Calls Try.prog 87 #[.int .i64 m, .slice a l.length cap] w fun e w' => e = .returned (.bool (VP m l)) ∧ w = w' := by
  have hv : VP m l = false := VP_false (by omega)
  have H := Lib.hid hv
  clear hv
  go_enter Try.func87, Try.ntmps87
  go_wp2
  go_loop [5] (fun i => ∃ k : Nat, k ≤ l.length ∧ i = .int .i64 k) (fun i => l.length - (intOf i).toNat)
  case atStart => exact ⟨0, Nat.zero_le _, rfl⟩
  case round =>
    obtain ⟨k, hk, rfl⟩ := hrel
    by_cases hlt : k < l.length
    · obtain ⟨b, off, x, y, rfl, hbb, hcx, hcy, hx, hy⟩ := hr.get hlt
      go_wp2_with (go_at_call 107; refine (inRange_any _ _ _ _).mono ?_; rintro e w' ⟨rfl, rfl⟩)
      all_goals first
        | (go_ret; exact ⟨ret_bool H.out.symm, rfl⟩)
        | (go_round
           case rel => exact ⟨k + 1, by omega, by go_num⟩
           case measure => simp [intOf]; omega)
    · obtain rfl : k = l.length := by omega
      have g2 : inR m 1 10 = false := inR_no1 (by omega)
      go_wp2_with (go_at_call 107; refine (inRange_any _ _ _ _).mono ?_; rintro e w' ⟨rfl, rfl⟩)
      go_ret
      exact ⟨ret_bool H.out.symm, rfl⟩

theorem specvalidPairs_any (m : Int) (a : Option Addr) (l : List (Int × Int)) (cap : Nat) (w : World) (hr : ReadsP w a l) (hm : In64 m) (hl : l.length ≤ 1048586) :
    Calls Try.prog 87 #[.int .i64 m, .slice a l.length cap] w fun e w' => e = .returned (.bool (VP m l)) ∧ w = w' := by
  by_cases h : 1 ≤ m
  · exact specvalidPairs_pos m a l cap w hr h hm.2 hl
  · exact specvalidPairs_neg m a l cap w hr (by omega) hl

theorem specValidPairs_any (m : Int) (a : Option Addr) (l : List (Int × Int)) (cap : Nat) (w : World) (hm : In64 m) (hr : ReadsP w a l) (hl : l.length ≤ 1048586) :
    Calls Try.prog 35 #[.int .i64 m, .slice a l.length cap] w fun e w' => e = .returned (.bool (VP m l)) ∧ Below w.heap.size w w' := by
  go_enter Try.func35, Try.ntmps35
  go_wp2_with (go_at_call 87; refine (specvalidPairs_any _ _ _ _ _ hr hm hl).mono ?_; rintro e w' ⟨rfl, rfl⟩)
  go_ret
  exact ⟨rfl, Below.refl _ _⟩
end Go.Proofs.Ytlkhobofbkoliaa
