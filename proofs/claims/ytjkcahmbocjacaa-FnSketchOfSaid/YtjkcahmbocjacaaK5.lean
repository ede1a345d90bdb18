/-
  impl.SketchOf.
-/
import Derived.Test.YtjkcahmbocjacaaK4
import Derived.Test.YtjkcahmbocjacaaY2
namespace Go.Proofs.Ytjkcahmbocjacaa
open Go.RowKit

/-- The first k first things, then naughts. -/
def skt (S : Nat) (ts : List (List Int)) (k : Nat) : List Int := (List.range ts.length).map fun j => if j < k then fi S (tr ts j) else 0
theorem skt_zero (S : Nat) (ts : List (List Int)) : skt S ts 0 = List.replicate ts.length 0 := by
  apply List.ext_getElem
  · simp [skt]
  · intro i h1 h2; simp [skt]
theorem skt_succ {S : Nat} {ts : List (List Int)} {k : Nat} (h : k < ts.length) : (skt S ts k).set k (fi S (tr ts k)) = skt S ts (k + 1) := by
  apply List.ext_getElem
  · simp [skt]
  · intro i h1 h2
    simp only [skt, List.getElem_set, List.getElem_map, List.getElem_range]
    by_cases e : k = i
    · subst e; rw [if_pos rfl, if_pos (by omega)]
    · rw [if_neg e]
      by_cases h3 : i < k
      · rw [if_pos h3, if_pos (by omega)]
      · rw [if_neg h3, if_neg (by omega)]
theorem skt_full (S : Nat) (ts : List (List Int)) : skt S ts ts.length = ts.map (fi S) := by
  apply List.ext_getElem
  · simp [skt]
  · intro i h1 h2
    have h : i < ts.length := by simpa using h2
    simp only [skt, List.getElem_map, List.getElem_range]
    rw [if_pos h, tr_eq h]
theorem SKO_some {ts : List (List Int)} {set : Int} (h : (1 ≤ (tr ts 0).length ∧ (tr ts 0).length ≤ 5) ∧ ts.length ≤ 6 ∧ OkK (tr ts 0).length ts ts.length) (h2 : 1 ≤ set ∧ set < ((2 ^ (tr ts 0).length : Nat) : Int)) : SKO ts set = ts.map (fi set.toNat) := by
  unfold SKO
  exact if_pos ⟨h.2.1, fun i hi => ⟨(h.2.2 i hi).1, h.1, (h.2.2 i hi).2, h2.1, h2.2⟩⟩
theorem SKO_none {ts : List (List Int)} {set : Int} (h : ¬ (((1 ≤ (tr ts 0).length ∧ (tr ts 0).length ≤ 5) ∧ ts.length ≤ 6 ∧ OkK (tr ts 0).length ts ts.length) ∧ 1 ≤ set ∧ set < ((2 ^ (tr ts 0).length : Nat) : Int))) (h0 : 0 < ts.length) : SKO ts set = [] := by
  unfold SKO
  refine if_neg fun hv => h ?_
  have h1 := hv.2 0 h0
  exact ⟨⟨h1.2.1, hv.1, fun i hi => ⟨(hv.2 i hi).1, (hv.2 i hi).2.2.1⟩⟩, h1.2.2.2⟩
set_option maxHeartbeats 4000000 in
theorem implSketchOf_any (a : Option Addr) (ts : List (List Int)) (cap : Nat) (set : Int) (w : World) (hr : ReadsS w a ts) (hl : bulk ts ≤ 1048586) (_hs : In64 set) (hi64 : ∀ l ∈ ts, ∀ x ∈ l, In64 x) :
    Calls Try.prog 48 #[.slice a ts.length cap, .int .i64 set] w fun e w' => ∃ v, e = .returned v ∧ Own w' w.heap.size v (SKO ts set) ∧ Below w.heap.size w w' := by
  by_cases h0 : ts.length = 0
  · have e : ts = [] := List.eq_nil_of_length_eq_zero h0
    subst e
    rw [SKO_nil]
    clear h0
    rw [show ([] : List (List Int)).length = 0 from rfl]
    go_enter Try.func48, Try.ntmps48
    go_wp2
    go_ret
    exact ⟨_, rfl, Own.nil _ _, Below.refl _ _⟩
  have hpos : 0 < ts.length := by omega
  have h0b : ((ts.length : Int) == 0) = false := by simp; intro e; rw [e] at h0; exact h0 rfl
  have hi0 : (0 : Int) < (ts.length : Int) := by omega
  have cv := implValidOrders_any (tr ts 0).length a ts cap w hr hl hi64
  obtain ⟨V, hV⟩ : ∃ V, V = decide ((1 ≤ (tr ts 0).length ∧ (tr ts 0).length ≤ 5) ∧ ts.length ≤ 6 ∧ OkK (tr ts 0).length ts ts.length) := ⟨_, rfl⟩
  rw [← hV] at cv
  obtain ⟨b, off, A, C, rfl, hb, hc, hri, hle⟩ := hr.get hpos
  have hcb := hc
  rw [Nat.add_zero] at hcb
  have CV := Lib.hid cv
  clear cv hi64 h0 hri hle hc
  cases V with
  | false =>
    have e : SKO ts set = [] := SKO_none (fun h => by rw [decide_eq_true h.1] at hV; cases hV) hpos
    rw [e]
    clear hV e
    go_enter Try.func48, Try.ntmps48
    go_wp2_with fail
    refine CV.out.mono ?_
    rintro e w1 ⟨rfl, b1⟩
    go_wp2
    go_ret
    exact ⟨_, rfl, Own.nil _ _, b1⟩
  | true =>
    have hv : (1 ≤ (tr ts 0).length ∧ (tr ts 0).length ≤ 5) ∧ ts.length ≤ 6 ∧ OkK (tr ts 0).length ts ts.length := by simpa using hV.symm
    have cs := fun wx => isSet_any (tr ts 0).length set wx (by omega)
    obtain ⟨T, hT⟩ : ∃ T, T = decide (1 ≤ set ∧ set < ((2 ^ (tr ts 0).length : Nat) : Int)) := ⟨_, rfl⟩
    rw [← hT] at cs
    have CS := Lib.hid cs
    clear cs hV
    cases T with
    | false =>
      have e : SKO ts set = [] := SKO_none (fun h => by rw [decide_eq_true h.2] at hT; cases hT) hpos
      rw [e]
      clear hT e hv
      go_enter Try.func48, Try.ntmps48
      go_wp2_with fail
      refine CV.out.mono ?_
      rintro e w1 ⟨rfl, b1⟩
      go_wp2_with fail
      refine (CS.out _).mono ?_
      rintro e w' ⟨rfl, rfl⟩
      go_wp2
      go_ret
      exact ⟨_, rfl, Own.nil _ _, b1⟩
    | true =>
      have ht : 1 ≤ set ∧ set < ((2 ^ (tr ts 0).length : Nat) : Int) := by simpa using hT.symm
      have hs5 : (2 ^ (tr ts 0).length : Nat) ≤ 2 ^ 5 := Nat.pow_le_pow_right (by omega) hv.1.2
      obtain ⟨S, rfl⟩ : ∃ S : Nat, set = S := ⟨set.toNat, by omega⟩
      rw [SKO_some hv ht, Int.toNat_natCast, ← skt_full]
      have hS32 : S < 1048576 := by omega
      have HF : Hid (∀ i, i < ts.length → ∀ (A : Option Addr) (C : Nat) (wx : World), Reads wx A (tr ts i) → Calls Try.prog 89 #[.slice A (tr ts i).length C, .int .i64 (S : Int)] wx fun e w' => e = .returned (.int .i64 (fi S (tr ts i))) ∧ Below wx.heap.size wx w') := by
        intro i hi A C wx hrx
        obtain ⟨h1, h2⟩ := hv.2.2 i hi
        have ok : OK5 (tr ts 0).length (S : Int) (tr ts i) := ⟨h1, hv.1, h2, ht.1, ht.2⟩
        have h3 : (tr ts i).length = (tr ts 0).length := h1
        have h4 := ok.fi
        rw [Int.toNat_natCast] at h4
        exact implFirstIn_any S A (tr ts i) C wx hrx (by have := hv.1.2; omega) hS32 (fun x hx => by have := ok.2.2.1.all.2 x hx; have := hv.1.2; omega) ⟨_, h4.1, h4.2⟩
      have hl6 := hv.2.1
      clear hT hv ht hs5
      go_enter Try.func48, Try.ntmps48
      go_wp2_with fail
      refine CV.out.mono ?_
      rintro e w1 ⟨rfl, b1⟩
      have hmk := run_make_row' (P := Try.prog) 36 3 (.int .i64 0) 8 Try.underlying36 infoInt rfl .i64 .i64 ts.length (by omega) (by omega)
      have xA := made_tabR w1 w.heap.size ts.length b1.size (by omega)
      have bA := b1.alloc b1.size (.cells (madeCells #[.int .i64 0] ts.length) 3)
      rw [← skt_zero S ts] at xA
      obtain ⟨BB, hBB⟩ : ∃ BB, BB = madeCells #[.int .i64 0] ts.length := ⟨_, rfl⟩
      rw [← hBB] at hmk xA bA
      have hsz := b1.size
      clear hBB CV
      go_wp2_with fail
      refine (CS.out _).mono ?_
      rintro e w' ⟨rfl, rfl⟩
      clear CS hcb
      go_wp2_with fail
      go_loopw [31] (fun iv wr => ∃ j : Nat, j ≤ ts.length ∧ iv = .int .i64 (j : Int) ∧ Tab wr w.heap.size w1.heap.size ts.length ts.length (skt S ts j) ∧ Below w.heap.size w wr) (fun iv _ => ts.length - (intOf iv).toNat)
      case atStart => exact ⟨0, by omega, rfl, xA, bA⟩
      case round =>
        clear xA bA hmk
        rename World => wo
        obtain ⟨j, hj, rfl, hT, hB⟩ := hrel
        by_cases hlt : j < ts.length
        · have hj1 : (j : Int) < (ts.length : Int) := by omega
          obtain ⟨b', off', A2, C2, hbe, hb2, hc2, hr2, hle2⟩ := (hr.below hB).get hlt
          cases hbe
          have CF := Lib.hid (HF.out j hlt A2 C2 wo hr2)
          have hsk := skt_succ (S := S) hlt
          obtain ⟨y, hy⟩ : ∃ y, y = fi S (tr ts j) := ⟨_, rfl⟩
          rw [← hy] at CF hsk
          have HSK := Lib.hid hsk
          clear hy hsk hr2 hle2
          go_wp2_with fail
          refine CF.out.mono ?_
          rintro e w2 ⟨rfl, b2⟩
          have hT2 := hT.below b2
          have hB2 := hB.trans (b2.mono hB.size)
          obtain ⟨z, hcz, _⟩ := hT2.get (k := j) hlt
          have hfz := hT2.frozen j
          have hst := hT2.store j y
          rw [HSK.out] at hst
          have hB3 := hB2.setCell (p := ⟨w1.heap.size, j, none⟩) hsz (.int .i64 y)
          clear hT hB hT2 hB2 b2 CF
          go_wp2
          go_roundw
          case rel => exact ⟨j + 1, by omega, by go_num, hst, hB3⟩
          case measure => simp [intOf]; omega
        · obtain rfl : j = ts.length := by omega
          have ho := hT.own
          go_wp2
          go_ret
          exact ⟨_, rfl, ho, hB⟩
end Go.Proofs.Ytjkcahmbocjacaa
