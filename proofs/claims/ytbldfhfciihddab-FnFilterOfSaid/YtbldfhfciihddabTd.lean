/-
  Rows that came in by a row; spec.has, spec.validTrips, impl.areDifferentSlots, impl.validTrips.
-/
import Derived.Test.YtbldfhfciihddabTc
import Derived.Test.YtbldfhfciihddabPd
import Derived.Test.YtbldfhfciihddabArr
namespace Go.Proofs.Ytbldfhfciihddab
open Go.RowKit

def TLen (ts : List (List Int)) : Prop := ts.length ≤ 9223372036854775807 ∧ ∀ r, r < ts.length → (tr ts r).length ≤ 9223372036854775807
/-- What the row's frame says of rows that came in. -/
def TRow (w : World) (a : Option Addr) (len : Nat) (ts : List (List Int)) : Prop := ts.length = len ∧ ReadsS w a ts ∧ TLen ts
theorem rowT {H : Type} {enc : TypeId × Value → H} {w : World} {a : Option Addr} {len cap : Nat} {d : DataW H} {p : List MemPlace}
    (h : ∃ fuel, DataW.trod enc Try.prog w 0 (fun _ => true) true fuel 23 (Value.slice a len cap).cells.toList = some (d, p)) : ∃ ts, TRow w a len ts := by
  obtain ⟨fuel, hf⟩ := h
  have ci : Try.prog.cellsOf 3 = 1 := by kernel_rfl
  have cs : Try.prog.cellsOf 24 = 1 := by kernel_rfl
  rcases Deep.open_int_rows Try.underlying23 Try.underlying24 Try.underlying3 cs ci hf with ⟨hcs, _⟩ | ⟨x, l, c, A, L, C, Z, hcs, _, hl, hm, _, hc⟩
  · simp [Value.cells] at hcs
    obtain ⟨rfl, rfl, rfl⟩ := hcs
    exact ⟨[], rfl, .inl rfl, by simp [TLen]⟩
  · simp [Value.cells] at hcs
    obtain ⟨rfl, rfl, rfl⟩ := hcs
    unfold maxLen at hm
    have htr : ∀ r, r < len → tr ((List.range len).map fun r => (Z r).take (L r)) r = (Z r).take (L r) := by
      intro r hr'; simp [tr, List.getD, hr']
    have hln : ∀ r, r < len → ((Z r).take (L r)).length = L r := by
      intro r hr'
      obtain ⟨_, h1, h2, h3, _⟩ := hc r (by omega)
      simp; omega
    refine ⟨(List.range len).map fun r => (Z r).take (L r), by simp, ?_, by simp; omega, fun r hr' => ?_⟩
    · by_cases h0 : len = 0
      · subst h0; exact .inl rfl
      · obtain ⟨b, off, spot⟩ := x
        have hc0 := (hc 0 (by omega)).1
        have hspot : spot = none := by simpa [Addr.add] using World.cell?_spot hc0
        subst hspot
        refine .inr ⟨b, off, rfl, ?_, fun r hr' => ?_⟩
        · have := World.block_lt_of_cell? w _ hc0
          simpa [Addr.add] using this
        · have hr2 : r < len := by simpa using hr'
          obtain ⟨h1, h2, h3, h4, h5, h6, h7⟩ := hc r (by omega)
          rw [htr r hr2, hln r hr2]
          rw [Addr.add_lit] at h1
          refine ⟨A r, C r, h1, h2, ?_⟩
          by_cases hL0 : L r = 0
          · rw [hL0]; exact .inl rfl
          · cases hA : A r with
            | none => have := h6 hA; omega
            | some ad =>
              obtain ⟨_, h8⟩ := h7 ad hA
              obtain ⟨b2, off2, spot2⟩ := ad
              have hc1 := h8 0 (by omega)
              have hsp2 : spot2 = none := by simpa [Addr.add] using World.cell?_spot hc1
              subst hsp2
              refine .inr ⟨b2, off2, rfl, ?_, fun i hi => ?_⟩
              · have := World.block_lt_of_cell? w _ hc1
                simpa [Addr.add] using this
              · rw [hln r hr2] at hi
                have := h8 i (by omega)
                rw [Addr.add_lit] at this
                rw [this]
                simp [List.getD, hi]
    · have hr2 : r < len := by simpa using hr'
      obtain ⟨_, h1, h2, h3, _⟩ := hc r (by omega)
      unfold maxLen at h2
      rw [htr r hr2, hln r hr2]
      omega

/-- The numbers up to place j are in range and different. -/
def okJ (m : Int) (t : List Int) (j : Nat) : Prop := ∀ i, i < j → (0 ≤ t.getD i 0 ∧ t.getD i 0 < m) ∧ (t.take i).contains (t.getD i 0) = false
theorem okJ.zero (m : Int) (t : List Int) : okJ m t 0 := fun i hi => by omega
theorem okJ.succ {m : Int} {t : List Int} {j : Nat} (h : okJ m t j) (h1 : 0 ≤ t.getD j 0) (h2 : t.getD j 0 < m) (h3 : (t.take j).contains (t.getD j 0) = false) : okJ m t (j + 1) := by
  intro i hi
  by_cases e : i = j
  · subst e; exact ⟨⟨h1, h2⟩, h3⟩
  · exact h i (by omega)
theorem three_ok {m : Int} {t : List Int} (hl : t.length = 3) : three m t = true ↔ okJ m t 3 := by
  match t, hl with
  | [a, b, c], _ =>
    rw [three_iff]
    constructor
    · rintro ⟨_, h1, h2, h3, h4⟩ i hi
      have ha := h1 a (by simp)
      have hb := h1 b (by simp)
      have hc := h1 c (by simp)
      have : i = 0 ∨ i = 1 ∨ i = 2 := by omega
      simp at h2 h3 h4
      rcases this with rfl | rfl | rfl
      · simpa using ha
      · simp; omega
      · simp; omega
    · intro h
      have h0 := h 0 (by omega)
      have h1 := h 1 (by omega)
      have h2 := h 2 (by omega)
      simp at h0 h1 h2
      refine ⟨rfl, fun x hx => ?_, ?_, ?_, ?_⟩
      · simp at hx
        rcases hx with rfl | rfl | rfl <;> omega
      · simp; omega
      · simp; omega
      · simp; omega
theorem three_no {m : Int} {t : List Int} {j : Nat} (hl : t.length = 3) (hj : j < 3) (h : ¬ ((0 ≤ t.getD j 0 ∧ t.getD j 0 < m) ∧ (t.take j).contains (t.getD j 0) = false)) : three m t = false := by
  cases e : three m t with
  | false => rfl
  | true => exact absurd ((three_ok hl).1 e j hj) h
theorem three_len {m : Int} {t : List Int} (hl : t.length ≠ 3) : three m t = false := by
  cases e : three m t with
  | false => rfl
  | true => exact absurd (three_iff.1 e).1 hl
theorem contains_take_succ {t : List Int} {k : Nat} (h : k < t.length) (x : Int) : (t.take (k + 1)).contains x = ((t.take k).contains x || (t.getD k 0 == x)) := by
  rw [List.take_succ_eq_append_getElem h, List.contains_append]
  have : t.getD k 0 = t[k] := by simp [List.getD, h]
  rw [this]
  simp only [List.contains_cons, List.contains_nil, Bool.or_false]
  congr 1
  rw [Bool.eq_iff_iff]; simp; exact eq_comm
theorem Reads.take {w : World} {a : Option Addr} {l : List Int} (h : Reads w a l) (k : Nat) : Reads w a (l.take k) := by
  rcases h with rfl | ⟨b, off, ha, hb, hc⟩
  · exact .inl (by simp)
  · refine .inr ⟨b, off, ha, hb, fun i hi => ?_⟩
    have hi2 : i < k ∧ i < l.length := by simp at hi; omega
    rw [hc i hi2.2]
    simp [List.getD, hi2.1]

set_option maxHeartbeats 400000 in
theorem has_any (a : Option Addr) (l : List Int) (n cap : Nat) (x : Int) (w : World) (hr : Reads w a l) (hn : l.length = n) (hl : n ≤ 1048586) :
    Calls Try.prog 33 #[.slice a n cap, .int .i64 x] w fun e w' => e = .returned (.bool (l.contains x)) ∧ w = w' := by
  subst hn
  obtain ⟨R, hR⟩ : ∃ R, R = l.contains x := ⟨_, rfl⟩
  rw [← hR]
  have HR := Lib.hid hR
  clear hR
  go_enter Try.func33, Try.ntmps33
  go_wp2
  go_loop [5] (fun i => ∃ k : Nat, k ≤ l.length ∧ i = .int .i64 k ∧ Hid ((l.take k).contains x = false)) (fun i => l.length - (intOf i).toNat)
  case atStart => exact ⟨0, Nat.zero_le _, rfl, (by show _ = _; simp)⟩
  case round =>
    obtain ⟨k, hk, rfl, hf⟩ := hrel
    by_cases hlt : k < l.length
    · obtain ⟨b, off, y, rfl, hbb, hcell, hy⟩ := hr.get hlt
      have hs := contains_take_succ hlt x
      rw [hf.out, hy.out] at hs
      by_cases e : y = x
      · have hd : (y == x) = true := by simp [e]
        have ht : R = true := by
          rw [HR.out]
          rw [hd] at hs
          have : x ∈ l.take (k + 1) := by simpa using hs
          simpa using List.mem_of_mem_take this
        have HT := Lib.hid ht
        clear ht hs e
        go_wp2
        go_ret
        exact ⟨ret_bool HT.out.symm, rfl⟩
      · have hd : (y == x) = false := by simpa using e
        rw [hd] at hs
        have hs2 : (l.take (k + 1)).contains x = false := by rw [hs]; rfl
        have HS := Lib.hid hs2
        clear hs hs2 e
        go_wp2
        go_round
        case rel => exact ⟨k + 1, by omega, by go_num, HS⟩
        case measure => simp [intOf]; omega
    · obtain rfl : k = l.length := by omega
      have ht : R = false := by rw [HR.out]; have := hf.out; rwa [List.take_length] at this
      have HT := Lib.hid ht
      clear ht
      go_wp2
      go_ret
      exact ⟨ret_bool HT.out.symm, rfl⟩

theorem quiet_left' {P : Program} {f : FuncId} {args : Array Value} {w : World} {n : Nat} {v : Value}
    (h : Calls P f args (w.drewN n) fun e w' => e = .returned v ∧ w.drewN n = w') : Calls P f args (w.drewN n) fun e w'' => e = .returned v ∧ ∃ m, w'' = w.drewN m :=
  h.mono fun _ _ ⟨he, hm⟩ => ⟨he, n, hm.symm⟩
theorem quiet_add_left' {P : Program} {f : FuncId} {args : Array Value} {w : World} {a n : Nat} {v : Value}
    (h : Calls P f args (w.drewN (a + n)) fun e w' => e = .returned v ∧ w.drewN (a + n) = w') :
    Calls P f args (w.drewN (a + n)) fun e w'' => e = .returned v ∧ ∃ m, w'' = w.drewN (a + m) :=
  h.mono fun _ _ ⟨he, hm⟩ => ⟨he, n, hm.symm⟩

set_option maxHeartbeats 2000000 in
set_option maxRecDepth 100000 in
theorem specvalidTrips_any (m : Int) (a : Option Addr) (ts : List (List Int)) (cap : Nat) (w : World) (hr : ReadsS w a ts) (hm : In64 m) (hl : bulk ts ≤ 1048586) :
    Calls Try.prog 26 #[.int .i64 m, .slice a ts.length cap] w fun e w' => e = .returned (.bool (TV m ts)) ∧ ∃ n, w' = w.drewN n := by
  have hblen := bulk_len ts
  obtain ⟨mm, hmm⟩ : ∃ mm, IntKind.i64.wrap (m - 1) = mm := ⟨_, rfl⟩
  have hmm1 : 1 ≤ m → mm = m - 1 := fun h => by rw [← hmm]; exact IntWalk.i64_in _ (by unfold In64 at hm; omega)
  have HM := Lib.hid hmm1
  clear hmm1
  go_enter Try.func26, Try.ntmps26
  go_wp2
  go_loopw [5] (fun i wr => ∃ k n : Nat, k ≤ ts.length ∧ i = .int .i64 k ∧ Hid (1 ≤ m → FitT m ts k) ∧ wr = w.drewN n) (fun i _ => ts.length - (intOf i).toNat)
  case atStart => exact ⟨0, 0, Nat.zero_le _, rfl, (fun _ => FitT.zero _ _), rfl⟩
  case round =>
    obtain ⟨k, n, hk, rfl, hf, rfl⟩ := hrel
    by_cases hlt : k < ts.length
    · obtain ⟨b, off, A, C, rfl, hbb, hc, hrow, hcap⟩ := hr.get hlt
      obtain ⟨t, ht⟩ : ∃ t, t = tr ts k := ⟨_, rfl⟩
      rw [← ht] at hc hrow hcap
      have HT := Lib.hid ht
      clear ht
      by_cases h3 : t.length = 3
      · rw [h3] at hc hcap
        have hd3 : ((3 : Int) != 3) = false := by decide
        have H3 := Lib.hid h3
        have r0 := hrow.get (k := 0) (by omega)
        obtain ⟨b', off', _, rfl, _, _, _⟩ := r0
        clear h3
        go_wp2
        go_loopw [6] (fun i wr => ∃ j n : Nat, j ≤ 3 ∧ i = .int .i64 j ∧ Hid (1 ≤ m → okJ m t j) ∧ wr = w.drewN n) (fun i _ => 3 - (intOf i).toNat)
        case atStart => exact ⟨0, n, by omega, rfl, (fun _ => okJ.zero _ _), rfl⟩
        case round =>
          obtain ⟨j, n, hj, rfl, hJ, rfl⟩ := hrel
          by_cases hlt3 : j < 3
          · obtain ⟨x, hcx, hx⟩ := hrow.at_ (k := j) (by rw [H3.out]; exact hlt3)
            obtain ⟨hb, hhb⟩ : ∃ hb, (t.take j).contains x = hb := ⟨_, rfl⟩
            have cI := fun wx => inRange_any x 0 mm wx
            have cH := fun wx h => has_any (some ⟨b', off', none⟩) (t.take j) j C x wx h (by simp; rw [H3.out]; omega) (by omega)
            rw [hhb] at cH
            have hrt := hrow.take j
            have HB := Lib.hid hhb
            clear hhb
            by_cases g1 : inR x 0 mm = true
            · rw [g1] at cI
              have HCI := Lib.hid cI
              have HCH := Lib.hid cH
              have HG := Lib.hid g1
              clear cI cH g1
              cases hb with
              | true =>
                have hv : TV m ts = false := by
                  by_cases hm1 : 1 ≤ m
                  · refine notFitT hlt ?_
                    rw [← HT.out]
                    exact three_no H3.out hlt3 (fun hh => by rw [hx.out, HB.out] at hh; cases hh.2)
                  · exact TV_false (by omega)
                have HV := Lib.hid hv
                clear hv
                go_wp2
                go_quiet ((first | (go_at_call 27; exact quiet_add_left' (HCI.out _)) | (go_at_call 33; exact quiet_add_left' (HCH.out _ hrt))))
                go_wp2
                go_ret
                exact ⟨ret_bool HV.out.symm, _, by rw [World.drewN_drewN]⟩
              | false =>
                have hJ2 : 1 ≤ m → okJ m t (j + 1) := fun h => (hJ.out h).succ (by rw [hx.out]; have := inR_iff.1 HG.out; omega) (by rw [hx.out]; have := inR_iff.1 HG.out; have := HM.out h; omega) (by rw [hx.out]; exact HB.out)
                have HJ2 := Lib.hid hJ2
                clear hJ2
                go_wp2
                go_quiet ((first | (go_at_call 27; exact quiet_add_left' (HCI.out _)) | (go_at_call 33; exact quiet_add_left' (HCH.out _ hrt))))
                go_wp2
                go_roundw
                case rel => exact ⟨j + 1, _, by omega, by go_num, HJ2, rfl⟩
                case measure => simp [intOf]; omega
            · have g2 : inR x 0 mm = false := by simpa using g1
              rw [g2] at cI
              have hv : TV m ts = false := by
                by_cases hm1 : 1 ≤ m
                · refine notFitT hlt ?_
                  rw [← HT.out]
                  refine three_no H3.out hlt3 (fun hh => g1 ?_)
                  rw [hx.out] at hh
                  rw [inR_iff]
                  have := HM.out hm1
                  omega
                · exact TV_false (by omega)
              have HV := Lib.hid hv
              have HCI := Lib.hid cI
              clear hv cI cH g1 g2
              go_wp2
              go_quiet ((first | (go_at_call 27; exact quiet_add_left' (HCI.out _))))
              go_wp2
              go_ret
              exact ⟨ret_bool HV.out.symm, _, by rw [World.drewN_drewN]⟩
          · obtain rfl : j = 3 := by omega
            have hf2 : Hid (1 ≤ m → FitT m ts (k + 1)) := fun h => (hf.out h).succ (by rw [← HT.out]; exact (three_ok H3.out).2 (hJ.out h))
            go_wp2
            go_roundw
            case rel => exact ⟨k + 1, n, by omega, by go_num, hf2, rfl⟩
            case measure => simp [intOf]; omega
      · have hd3 : ((t.length : Int) != 3) = true := by simp; omega
        have hv : TV m ts = false := by
          refine notFitT hlt ?_
          rw [← HT.out]
          exact three_len h3
        have HV := Lib.hid hv
        clear hv h3
        go_wp2
        go_ret
        exact ⟨ret_bool HV.out.symm, _, rfl⟩
    · obtain rfl : k = ts.length := by omega
      by_cases g1 : inR m 1 10 = true
      · go_wp2_with (go_at_call 27; refine (inRange_any _ _ _ _).mono ?_; rintro e w' ⟨rfl, rfl⟩)
        go_ret
        refine ⟨ret_bool ?_, _, rfl⟩
        rw [inR_iff] at g1
        by_cases h3 : ts.length ≤ 8
        · rw [TV_iff.2 ⟨g1.1, g1.2, h3, hf.out g1.1⟩]; simp; omega
        · rw [TV_false (by omega)]; simp; omega
      · have g2 : inR m 1 10 = false := by simpa using g1
        go_wp2_with (go_at_call 27; refine (inRange_any _ _ _ _).mono ?_; rintro e w' ⟨rfl, rfl⟩)
        go_ret
        exact ⟨ret_bool (TV_false (by rw [inR_iff] at g1; omega)).symm, _, rfl⟩

/-- Which numbers are among the first k. -/
def snT (t : List Int) (k : Nat) : List Bool := (List.range 10).map fun x : Nat => (t.take k).contains (x : Int)
theorem snT_len (t : List Int) (k : Nat) : (snT t k).length = 10 := by simp [snT]
theorem snT_zero (t : List Int) : snT t 0 = List.replicate 10 false := by
  unfold snT
  rw [List.take_zero]
  rfl
theorem snT_get {t : List Int} {k x : Nat} (hx : x < 10) : (snT t k).getD x false = (t.take k).contains (x : Int) := by simp [snT, List.getD, hx]
theorem snT_set {t : List Int} {k x : Nat} (hk : k < t.length) (hx : x < 10) (e : t.getD k 0 = x) : (snT t k).set x true = snT t (k + 1) := by
  refine List.ext_getElem (by simp [snT]) fun i h1 h2 => ?_
  rw [List.getElem_set]
  simp only [snT, List.getElem_map, List.getElem_range]
  rw [contains_take_succ hk, e]
  by_cases h : x = i
  · subst h; simp
  · have : ((x : Int) == (i : Int)) = false := by simp; omega
    rw [if_neg h, this]; simp

set_option maxHeartbeats 1000000 in
theorem areDifferentSlots_any (m : Int) (a : Option Addr) (t : List Int) (C : Nat) (w : World) (hr : Reads w a t) (hm : m ≤ 10) (hl : t.length = 3) :
    Calls Try.prog 31 #[.int .i64 m, .slice a 3 C] w fun e w' => e = .returned (.bool (three m t)) ∧ Below w.heap.size w w' := by
  have H3 := Lib.hid hl
  have h9 : BArr (w.alloc (.cells ((List.replicate 10 false).map Value.bool).toArray 60)) 60 w.heap.size (List.replicate 10 false) := BArr.new w _ _
  rw [← snT_zero t] at h9
  have hb0 : Below w.heap.size w (w.alloc (.cells ((List.replicate 10 false).map Value.bool).toArray 60)) := (Below.refl _ _).alloc (Nat.le_refl _) _
  have e9 : ((List.replicate 10 false).map Value.bool).toArray = #[.bool false, .bool false, .bool false, .bool false, .bool false, .bool false, .bool false, .bool false, .bool false, .bool false] := rfl
  rw [snT_zero, e9] at h9
  rw [e9] at hb0
  rw [← snT_zero t] at h9
  have h0 := hr.get (k := 0) (by omega)
  obtain ⟨b, off, _, rfl, hbb, _, _⟩ := h0
  clear hl e9
  go_enter Try.func31, Try.ntmps31
  go_wp2
  go_loopw [10] (fun i wr => ∃ j : Nat, j ≤ 3 ∧ i = .int .i64 j ∧ Hid (okJ m t j) ∧ BArr wr 60 w.heap.size (snT t j) ∧ Below w.heap.size w wr) (fun i _ => 3 - (intOf i).toNat)
  case atStart => exact ⟨0, by omega, rfl, okJ.zero _ _, h9, hb0⟩
  case round =>
    clear h9 hb0
    obtain ⟨j, hj, rfl, hJ, h9, hb⟩ := hrel
    by_cases hlt : j < 3
    · obtain ⟨x, hcx0, hx⟩ := hr.at_ (k := j) (by rw [H3.out]; exact hlt)
      have hcx : wr.cell? ⟨b, off + j, none⟩ = some (.int .i64 x) := (hb.cell (by exact hbb)).trans hcx0
      clear hcx0
      by_cases g1 : 0 ≤ x ∧ x < m
      · have e1 : (decide (0 ≤ x) && decide (x < m)) = true := by simp [g1]
        obtain ⟨y, rfl⟩ := Int.eq_ofNat_of_zero_le g1.1
        have hy : y < 10 := by omega
        obtain ⟨sb, hcs, hs⟩ := h9.get (k := y) (by rw [snT_len]; exact hy)
        rw [snT_get hy] at hs
        have E1 := Lib.hid e1
        clear e1
        cases sb with
        | true =>
          have hv : three m t = false := three_no H3.out hlt (fun hh => by rw [hx.out, hs.out] at hh; cases hh.2)
          have HV := Lib.hid hv
          clear hv
          go_wp2_with fail
          refine (isSlot_any _ _ _).mono ?_
          rintro e w' ⟨rfl, rfl⟩
          rw [E1.out]
          go_wp2
          go_ret
          exact ⟨ret_bool HV.out.symm, hb⟩
        | false =>
          have hJ2 : Hid (okJ m t (j + 1)) := hJ.out.succ (by rw [hx.out]; omega) (by rw [hx.out]; omega) (by rw [hx.out]; exact hs.out)
          have hfz := h9.frozen y
          have hst := h9.store y true
          rw [snT_set (by rw [H3.out]; exact hlt) hy hx.out] at hst
          have hb2 := hb.setCell (p := ⟨w.heap.size, y, none⟩) (Nat.le_refl _) (.bool true)
          go_wp2_with fail
          refine (isSlot_any _ _ _).mono ?_
          rintro e w' ⟨rfl, rfl⟩
          rw [E1.out]
          go_wp2
          go_roundw
          case rel => exact ⟨j + 1, by omega, by go_num, hJ2, hst, hb2⟩
          case measure => simp [intOf]; omega
      · have e1 : (decide (0 ≤ x) && decide (x < m)) = false := by simp; omega
        have hv : three m t = false := three_no H3.out hlt (fun hh => g1 (by rw [hx.out] at hh; exact hh.1))
        have HV := Lib.hid hv
        have E1 := Lib.hid e1
        clear e1 hv
        go_wp2_with fail
        refine (isSlot_any _ _ _).mono ?_
        rintro e w' ⟨rfl, rfl⟩
        rw [E1.out]
        go_wp2
        go_ret
        exact ⟨ret_bool HV.out.symm, hb⟩
    · obtain rfl : j = 3 := by omega
      have hv : three m t = true := (three_ok H3.out).2 hJ.out
      have HV := Lib.hid hv
      clear hv
      go_wp2
      go_ret
      exact ⟨ret_bool HV.out.symm, hb⟩

set_option maxHeartbeats 1000000 in
theorem implvalidTrips_any (m : Int) (a : Option Addr) (ts : List (List Int)) (cap : Nat) (w : World) (hr : ReadsS w a ts) :
    Calls Try.prog 22 #[.int .i64 m, .slice a ts.length cap] w fun e w' => e = .returned (.bool (TV m ts)) ∧ Below w.heap.size w w' := by
  by_cases h1 : m < 1
  · go_enter Try.func22, Try.ntmps22
    go_wp2
    go_ret
    exact ⟨ret_bool (TV_false (by omega)).symm, Below.refl _ _⟩
  by_cases h2 : 10 < m
  · go_enter Try.func22, Try.ntmps22
    go_wp2
    go_ret
    exact ⟨ret_bool (TV_false (by omega)).symm, Below.refl _ _⟩
  by_cases h3 : 8 < ts.length
  · go_enter Try.func22, Try.ntmps22
    go_wp2
    go_ret
    exact ⟨ret_bool (TV_false (by omega)).symm, Below.refl _ _⟩
  go_enter Try.func22, Try.ntmps22
  go_wp2
  go_loopw [20] (fun i wr => ∃ k : Nat, k ≤ ts.length ∧ i = .int .i64 k ∧ Hid (FitT m ts k) ∧ Below w.heap.size w wr) (fun i _ => ts.length - (intOf i).toNat)
  case atStart => exact ⟨0, Nat.zero_le _, rfl, FitT.zero _ _, Below.refl _ _⟩
  case round =>
    obtain ⟨k, hk, rfl, hf, hb⟩ := hrel
    have hs := hb.size
    by_cases hlt : k < ts.length
    · obtain ⟨b, off, A, C, rfl, hbb, hc0, hrow0, hcap⟩ := hr.get hlt
      have hc : wr.cell? ⟨b, off + k, none⟩ = some (.slice A (tr ts k).length C) := (hb.cell (by exact hbb)).trans hc0
      have hrow := hrow0.below hb
      obtain ⟨t, ht⟩ : ∃ t, t = tr ts k := ⟨_, rfl⟩
      rw [← ht] at hc hrow hcap
      have HT := Lib.hid ht
      clear ht hc0 hrow0
      by_cases hl3 : t.length = 3
      · rw [hl3] at hc hcap
        have hd3 : ((3 : Int) != 3) = false := by decide
        have cA := areDifferentSlots_any m A t C wr hrow (by omega) hl3
        cases h33 : three m t with
        | true =>
          rw [h33] at cA
          have hf2 : Hid (FitT m ts (k + 1)) := hf.out.succ (by rw [← HT.out]; exact h33)
          clear h33 hl3
          go_wp2_with fail
          refine cA.mono ?_
          rintro e w2 ⟨rfl, hb2⟩
          have hb3 := hb.trans (hb2.mono hs)
          clear cA
          go_wp2
          go_roundw
          case rel => exact ⟨k + 1, by omega, by go_num, hf2, hb3⟩
          case measure => simp [intOf]; omega
        | false =>
          rw [h33] at cA
          have hv : TV m ts = false := notFitT hlt (by rw [← HT.out]; exact h33)
          have HV := Lib.hid hv
          clear h33 hl3 hv
          go_wp2_with fail
          refine cA.mono ?_
          rintro e w2 ⟨rfl, hb2⟩
          have hb3 := hb.trans (hb2.mono hs)
          clear cA
          go_wp2
          go_ret
          exact ⟨ret_bool HV.out.symm, hb3⟩
      · have hd3 : ((t.length : Int) != 3) = true := by simp; omega
        have hv : TV m ts = false := by
          refine notFitT hlt ?_
          rw [← HT.out]
          exact three_len hl3
        have HV := Lib.hid hv
        clear hv hl3
        go_wp2
        go_ret
        exact ⟨ret_bool HV.out.symm, hb⟩
    · obtain rfl : k = ts.length := by omega
      have hv : TV m ts = true := TV_iff.2 ⟨by omega, by omega, by omega, hf.out⟩
      have HV := Lib.hid hv
      clear hv
      go_wp2
      go_ret
      exact ⟨ret_bool HV.out.symm, hb⟩
end Go.Proofs.Ytbldfhfciihddab
