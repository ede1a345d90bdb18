/-
  Rows that came in by a row; spec.has, spec.validTrips, impl.areDifferentSlots, impl.validTrips.
-/
import Derived.Test.YtjkcahmbocjacaaTc
import Derived.Test.YtjkcahmbocjacaaPd
import Derived.Test.YtjkcahmbocjacaaArr
namespace Go.Proofs.Ytjkcahmbocjacaa
open Go.RowKit

def TLen (ts : List (List Int)) : Prop := ts.length ≤ 9223372036854775807 ∧ ∀ r, r < ts.length → (tr ts r).length ≤ 9223372036854775807
/-- What the row's frame says of rows that came in. -/
def TRow (w : World) (a : Option Addr) (len : Nat) (ts : List (List Int)) : Prop := ts.length = len ∧ ReadsS w a ts ∧ TLen ts
theorem rowT {H : Type} {enc : TypeId × Value → H} {w : World} {a : Option Addr} {len cap : Nat} {d : DataW H} {p : List MemPlace}
    (h : ∃ fuel, DataW.trod enc Try.prog w 0 (fun _ => true) true fuel 39 (Value.slice a len cap).cells.toList = some (d, p)) : ∃ ts, TRow w a len ts := by
  obtain ⟨fuel, hf⟩ := h
  have ci : Try.prog.cellsOf 3 = 1 := by kernel_rfl
  have cs : Try.prog.cellsOf 36 = 1 := by kernel_rfl
  rcases Deep.open_int_rows Try.underlying39 Try.underlying36 Try.underlying3 cs ci hf with ⟨hcs, _⟩ | ⟨x, l, c, A, L, C, Z, hcs, _, hl, hm, _, hc⟩
  · simp [Value.cells] at hcs
    obtain ⟨rfl, rfl, rfl⟩ := hcs
    exact ⟨[], rfl, .inl rfl, by simp [TLen]⟩
  · simp [Value.cells] at hcs
    obtain ⟨rfl, rfl, rfl⟩ := hcs
    unfold maxLen at hm
    have htr : ∀ r, r < len → tr ((List.range len).map fun r => (Z r).take (L r)) r = (Z r).take (L r) := by
      intro r hr'; simp [tr, List.getD, hr']
    have hln : ∀ r, r < len → ((Z r).take (L r)).length = L r := by
      intro r hr'
      obtain ⟨_, h1, h2, h3, _⟩ := hc r (by omega)
      simp; omega
    refine ⟨(List.range len).map fun r => (Z r).take (L r), by simp, ?_, by simp; omega, fun r hr' => ?_⟩
    · by_cases h0 : len = 0
      · subst h0; exact .inl rfl
      · obtain ⟨b, off, spot⟩ := x
        have hc0 := (hc 0 (by omega)).1
        have hspot : spot = none := by simpa [Addr.add] using World.cell?_spot hc0
        subst hspot
        refine .inr ⟨b, off, rfl, ?_, fun r hr' => ?_⟩
        · have := World.block_lt_of_cell? w _ hc0
          simpa [Addr.add] using this
        · have hr2 : r < len := by simpa using hr'
          obtain ⟨h1, h2, h3, h4, h5, h6, h7⟩ := hc r (by omega)
          rw [htr r hr2, hln r hr2]
          rw [Addr.add_lit] at h1
          refine ⟨A r, C r, h1, h2, ?_⟩
          by_cases hL0 : L r = 0
          · rw [hL0]; exact .inl rfl
          · cases hA : A r with
            | none => have := h6 hA; omega
            | some ad =>
              obtain ⟨_, h8⟩ := h7 ad hA
              obtain ⟨b2, off2, spot2⟩ := ad
              have hc1 := h8 0 (by omega)
              have hsp2 : spot2 = none := by simpa [Addr.add] using World.cell?_spot hc1
              subst hsp2
              refine .inr ⟨b2, off2, rfl, ?_, fun i hi => ?_⟩
              · have := World.block_lt_of_cell? w _ hc1
                simpa [Addr.add] using this
              · rw [hln r hr2] at hi
                have := h8 i (by omega)
                rw [Addr.add_lit] at this
                rw [this]
                simp [List.getD, hi]
    · have hr2 : r < len := by simpa using hr'
      obtain ⟨_, h1, h2, h3, _⟩ := hc r (by omega)
      unfold maxLen at h2
      rw [htr r hr2, hln r hr2]
      omega

/-- The numbers up to place j are in range and different. -/
def okJ (m : Int) (t : List Int) (j : Nat) : Prop := ∀ i, i < j → (0 ≤ t.getD i 0 ∧ t.getD i 0 < m) ∧ (t.take i).contains (t.getD i 0) = false
theorem okJ.zero (m : Int) (t : List Int) : okJ m t 0 := fun i hi => by omega
theorem okJ.succ {m : Int} {t : List Int} {j : Nat} (h : okJ m t j) (h1 : 0 ≤ t.getD j 0) (h2 : t.getD j 0 < m) (h3 : (t.take j).contains (t.getD j 0) = false) : okJ m t (j + 1) := by
  intro i hi
  by_cases e : i = j
  · subst e; exact ⟨⟨h1, h2⟩, h3⟩
  · exact h i (by omega)
theorem three_ok {m : Int} {t : List Int} (hl : t.length = 3) : three m t = true ↔ okJ m t 3 := by
  match t, hl with
  | [a, b, c], _ =>
    rw [three_iff]
    constructor
    · rintro ⟨_, h1, h2, h3, h4⟩ i hi
      have ha := h1 a (by simp)
      have hb := h1 b (by simp)
      have hc := h1 c (by simp)
      have : i = 0 ∨ i = 1 ∨ i = 2 := by omega
      simp at h2 h3 h4
      rcases this with rfl | rfl | rfl
      · simpa using ha
      · simp; omega
      · simp; omega
    · intro h
      have h0 := h 0 (by omega)
      have h1 := h 1 (by omega)
      have h2 := h 2 (by omega)
      simp at h0 h1 h2
      refine ⟨rfl, fun x hx => ?_, ?_, ?_, ?_⟩
      · simp at hx
        rcases hx with rfl | rfl | rfl <;> omega
      · simp; omega
      · simp; omega
      · simp; omega
theorem three_no {m : Int} {t : List Int} {j : Nat} (hl : t.length = 3) (hj : j < 3) (h : ¬ ((0 ≤ t.getD j 0 ∧ t.getD j 0 < m) ∧ (t.take j).contains (t.getD j 0) = false)) : three m t = false := by
  cases e : three m t with
  | false => rfl
  | true => exact absurd ((three_ok hl).1 e j hj) h
theorem three_len {m : Int} {t : List Int} (hl : t.length ≠ 3) : three m t = false := by
  cases e : three m t with
  | false => rfl
  | true => exact absurd (three_iff.1 e).1 hl
theorem contains_take_succ {t : List Int} {k : Nat} (h : k < t.length) (x : Int) : (t.take (k + 1)).contains x = ((t.take k).contains x || (t.getD k 0 == x)) := by
  rw [List.take_succ_eq_append_getElem h, List.contains_append]
  have : t.getD k 0 = t[k] := by simp [List.getD, h]
  rw [this]
  simp only [List.contains_cons, List.contains_nil, Bool.or_false]
  congr 1
  rw [Bool.eq_iff_iff]; simp; exact eq_comm
theorem Reads.take {w : World} {a : Option Addr} {l : List Int} (h : Reads w a l) (k : Nat) : Reads w a (l.take k) := by
  rcases h with rfl | ⟨b, off, ha, hb, hc⟩
  · exact .inl (by simp)
  · refine .inr ⟨b, off, ha, hb, fun i hi => ?_⟩
    have hi2 : i < k ∧ i < l.length := by simp at hi; omega
    rw [hc i hi2.2]
    simp [List.getD, hi2.1]

set_option maxHeartbeats 400000 in
theorem has_anyT (a : Option Addr) (l : List Int) (n cap : Nat) (x : Int) (w : World) (hr : Reads w a l) (hn : l.length = n) (hl : n ≤ 1048586) :
    Calls Try.prog 103 #[.slice a n cap, .int .i64 x] w fun e w' => e = .returned (.bool (l.contains x)) ∧ w = w' := by
  subst hn
  obtain ⟨R, hR⟩ : ∃ R, R = l.contains x := ⟨_, rfl⟩
  rw [← hR]
  have HR := Lib.hid hR
  clear hR
  go_enter Try.func103, Try.ntmps103
  go_wp2
  go_loop [5] (fun i => ∃ k : Nat, k ≤ l.length ∧ i = .int .i64 k ∧ Hid ((l.take k).contains x = false)) (fun i => l.length - (intOf i).toNat)
  case atStart => exact ⟨0, Nat.zero_le _, rfl, (by show _ = _; simp)⟩
  case round =>
    obtain ⟨k, hk, rfl, hf⟩ := hrel
    by_cases hlt : k < l.length
    · obtain ⟨b, off, y, rfl, hbb, hcell, hy⟩ := hr.get hlt
      have hs := contains_take_succ hlt x
      rw [hf.out, hy.out] at hs
      by_cases e : y = x
      · have hd : (y == x) = true := by simp [e]
        have ht : R = true := by
          rw [HR.out]
          rw [hd] at hs
          have : x ∈ l.take (k + 1) := by simpa using hs
          simpa using List.mem_of_mem_take this
        have HT := Lib.hid ht
        clear ht hs e
        go_wp2
        go_ret
        exact ⟨ret_bool HT.out.symm, rfl⟩
      · have hd : (y == x) = false := by simpa using e
        rw [hd] at hs
        have hs2 : (l.take (k + 1)).contains x = false := by rw [hs]; rfl
        have HS := Lib.hid hs2
        clear hs hs2 e
        go_wp2
        go_round
        case rel => exact ⟨k + 1, by omega, by go_num, HS⟩
        case measure => simp [intOf]; omega
    · obtain rfl : k = l.length := by omega
      have ht : R = false := by rw [HR.out]; have := hf.out; rwa [List.take_length] at this
      have HT := Lib.hid ht
      clear ht
      go_wp2
      go_ret
      exact ⟨ret_bool HT.out.symm, rfl⟩

theorem quiet_left' {P : Program} {f : FuncId} {args : Array Value} {w : World} {n : Nat} {v : Value}
    (h : Calls P f args (w.drewN n) fun e w' => e = .returned v ∧ w.drewN n = w') : Calls P f args (w.drewN n) fun e w'' => e = .returned v ∧ ∃ m, w'' = w.drewN m :=
  h.mono fun _ _ ⟨he, hm⟩ => ⟨he, n, hm.symm⟩
theorem quiet_add_left' {P : Program} {f : FuncId} {args : Array Value} {w : World} {a n : Nat} {v : Value}
    (h : Calls P f args (w.drewN (a + n)) fun e w' => e = .returned v ∧ w.drewN (a + n) = w') :
    Calls P f args (w.drewN (a + n)) fun e w'' => e = .returned v ∧ ∃ m, w'' = w.drewN (a + m) :=
  h.mono fun _ _ ⟨he, hm⟩ => ⟨he, n, hm.symm⟩

/-- Which numbers are among the first k. -/
def snT (t : List Int) (k : Nat) : List Bool := (List.range 10).map fun x : Nat => (t.take k).contains (x : Int)
theorem snT_len (t : List Int) (k : Nat) : (snT t k).length = 10 := by simp [snT]
theorem snT_zero (t : List Int) : snT t 0 = List.replicate 10 false := by
  unfold snT
  rw [List.take_zero]
  rfl
theorem snT_get {t : List Int} {k x : Nat} (hx : x < 10) : (snT t k).getD x false = (t.take k).contains (x : Int) := by simp [snT, List.getD, hx]
theorem snT_set {t : List Int} {k x : Nat} (hk : k < t.length) (hx : x < 10) (e : t.getD k 0 = x) : (snT t k).set x true = snT t (k + 1) := by
  refine List.ext_getElem (by simp [snT]) fun i h1 h2 => ?_
  rw [List.getElem_set]
  simp only [snT, List.getElem_map, List.getElem_range]
  rw [contains_take_succ hk, e]
  by_cases h : x = i
  · subst h; simp
  · have : ((x : Int) == (i : Int)) = false := by simp; omega
    rw [if_neg h, this]; simp

end Go.Proofs.Ytjkcahmbocjacaa
