/-
  spec.CountKeys.
-/
import Derived.Test.YtjkcahmbocjacaaT2
import Derived.Test.YtjkcahmbocjacaaDt
import Derived.Test.YtjkcahmbocjacaaW5
namespace Go.Proofs.Ytjkcahmbocjacaa
open Go.RowKit

theorem OwnT.belowAll {w w' : World} {base : Nat} {v : Value} {ts : List (List Int)} (h : OwnT w base v ts) (hb : Below w.heap.size w w') : OwnT w' base v ts :=
  h.kept (row := none) ⟨hb.os, hb.tape, hb.output, hb.size, fun q hq _ => hb.block q hq⟩ (fun k e => by cases e)
theorem made_tab16 (w : World) (base n : Nat) (hb : base ≤ w.heap.size) (hn : n ≤ 1000) : Tab (w.alloc (.cells (madeCells #[.int .i64 0] n) 3)) base w.heap.size n n (List.replicate n 0) := by
  have e := toList_madeCells_one (Value.int .i64 0) n
  have := World.ownsRow_lit (e := 3) (size := 1) (base := base) w (madeCells #[.int .i64 0] n) n hb (by unfold maxLen; omega) (by rw [← Array.length_toList, e]; simp)
  rw [e] at this
  unfold Tab
  rw [List.map_replicate]
  exact this
/-- The first k rows of counts. -/
def crows (B : Nat) (l : List Int) (k : Nat) : List (List Int) := (List.range k).map fun i => crow B i l
theorem crows_succ (B : Nat) (l : List Int) (k : Nat) : crows B l (k + 1) = crows B l k ++ [crow B k l] := by simp [crows, List.range_succ]
theorem crows_len (B : Nat) (l : List Int) (k : Nat) : (crows B l k).length = k := by simp [crows]
/-- What the model's CountKeys hands back: nothing, or rows of its own. -/
def RowsT (w w' : World) (e : Ending) (ts : List (List Int)) : Prop :=
  (ts = [] ∧ e = .returned (.slice none 0 0)) ∨ (ts ≠ [] ∧ ∃ v, e = .returned v ∧ OwnT w' w.heap.size v ts)

set_option maxRecDepth 100000 in
set_option maxHeartbeats 8000000 in
theorem specCountKeys_any (ways bits : Int) (a : Option Addr) (l : List Int) (cap : Nat) (w : World) (hr : Reads w a l) (hl : l.length ≤ 1048586) :
    Calls Try.prog 41 #[.int .i64 ways, .int .i64 bits, .slice a l.length cap] w fun e w' => RowsT w w' e (CKs ways bits l) ∧ Below w.heap.size w w' := by
  have c1 := fun wx => inRange_any ways 1 4 wx
  have c2 := fun wx => inRange_any bits 1 16 wx
  by_cases g1 : inR ways 1 4 = true
  · have g1' := inR_iff.1 g1
    rw [g1] at c1
    by_cases g2 : inR bits 1 16 = true
    · have g2' := inR_iff.1 g2
      rw [g2] at c2
      by_cases g3 : 8 < l.length
      · rw [CKs_false (fun h => by have := (VKc_iff.1 (VCK_iff.1 h).2.2).1; omega)]
        have g8 : (l.length : Int) > 8 := by omega
        have C1 := Lib.hid c1
        have C2 := Lib.hid c2
        clear c1 c2 g1 g2
        go_enter Try.func41, Try.ntmps41
        go_wp2_with fail
        refine (C1.out _).mono ?_
        rintro e w' ⟨rfl, rfl⟩
        go_wp2_with fail
        refine (C2.out _).mono ?_
        rintro e w' ⟨rfl, rfl⟩
        go_wp2
        go_ret
        exact ⟨.inl ⟨rfl, rfl⟩, Below.refl _ _⟩
      · have g8 : ¬ (l.length : Int) > 8 := by omega
        obtain ⟨W, rfl⟩ : ∃ W : Nat, ways = W := ⟨ways.toNat, by omega⟩
        obtain ⟨B, rfl⟩ : ∃ B : Nat, bits = B := ⟨bits.toNat, by omega⟩
        obtain ⟨ts, hts⟩ : ∃ ts, ts = CKs (W : Int) (B : Int) l := ⟨_, rfl⟩
        rw [← hts]
        have hyes : VKc l = true → ts = crows B l W := fun h => by
          rw [hts]; unfold CKs; rw [if_pos (VCK_iff.2 ⟨g1', g2', h⟩)]; rfl
        have hno : VKc l ≠ true → ts = [] := fun h => by rw [hts]; exact CKs_false (fun hh => h (VCK_iff.1 hh).2.2)
        have HY := Lib.hid hyes
        have HNO := Lib.hid hno
        have hmk := run_make_row' (P := Try.prog) 36 3 (.int .i64 0) 8 Try.underlying36 infoInt rfl .i64 .i64 B (by omega) (by omega)
        have ho0 : OwnT (w.alloc (.cells #[] 36)) w.heap.size (.slice (some ⟨w.heap.size, 0, none⟩) 0 0) (crows B l 0) := OwnT.lit0 w w.heap.size (Nat.le_refl _)
        have hb0 := (Below.refl w.heap.size w).alloc (Nat.le_refl _) (.cells #[] 36)
        have C1 := Lib.hid c1
        have C2 := Lib.hid c2
        clear c1 c2 g1 g2 hts hyes hno
        go_enter Try.func41, Try.ntmps41
        go_wp2_with fail
        refine (C1.out _).mono ?_
        rintro e w' ⟨rfl, rfl⟩
        go_wp2_with fail
        refine (C2.out _).mono ?_
        rintro e w' ⟨rfl, rfl⟩
        go_wp2_with fail
        go_loopw [7, 8] (fun ov kv wr => ∃ k : Nat, k ≤ W ∧ kv = .int .i64 (k : Int) ∧ Hid (0 < k → VKc l = true) ∧ OwnT wr w.heap.size ov (crows B l k) ∧ Below w.heap.size w wr) (fun _ kv _ => W - (intOf kv).toNat)
        case atStart => exact ⟨0, by omega, rfl, (fun h => by omega), ho0, hb0⟩
        case round =>
          clear ho0 hb0
          rename World => wo
          obtain ⟨k, hk, rfl, hval, hO, hb⟩ := hrel
          obtain ⟨ao, co, rfl, hlo, hco, hrdo⟩ := hO.form
          have hsz := hb.size
          by_cases hlt : k < W
          · have hk1 : (k : Int) < (W : Int) := by omega
            have hT0 := made_tab16 wo w.heap.size B hsz (by omega)
            have hBo := (Below.refl wo.heap.size wo).alloc (Nat.le_refl _) (.cells (madeCells #[.int .i64 0] B) 3)
            have hT1 : Tab (wo.alloc (.cells (madeCells #[.int .i64 0] B) 3)) w.heap.size wo.heap.size B B (crow B k (l.take 0)) := by
              rw [List.take_zero, crow_nil]; exact hT0
            have hr2 := hr.below hb
            clear hT0
            go_wp2_with fail
            go_loopw [10] (fun jv wr => ∃ j : Nat, j ≤ l.length ∧ jv = .int .i64 (j : Int) ∧ Hid (∀ i, i < j → KR (l.getD i 0) = true) ∧ Tab wr w.heap.size wo.heap.size B B (crow B k (l.take j)) ∧ Below wo.heap.size wo wr) (fun jv _ => l.length - (intOf jv).toNat)
            case atStart => exact ⟨0, by omega, rfl, (fun i hi => by omega), hT1, hBo⟩
            case round =>
              clear hT1 hBo
              obtain ⟨j, hj, rfl, hf, hT, hBi⟩ := hrel
              by_cases hltj : j < l.length
              · have hj1 : (j : Int) < (l.length : Int) := by omega
                obtain ⟨b2, off2, y, rfl, hb2, hcy, hy⟩ := (hr2.below hBi).get hltj
                have c := fun wx => inRange_any y 0 30 wx
                rw [show inR y 0 30 = KR y from (KR_eq y).symm] at c
                by_cases hin : KR y = true
                · have hyr := KR_iff.1 hin
                  have hf2 : Hid (∀ i, i < j + 1 → KR (l.getD i 0) = true) := fun i hi => by
                    by_cases e : i = j
                    · subst e; rw [hy.out]; exact hin
                    · exact hf.out i (by omega)
                  rw [hin] at c
                  have ch := fun wx => hash_any ((k : Int) + 1) (k : Int) (B : Int) y wx (by omega) (by omega) (by omega) (by omega) (by omega) (by omega) hyr.1 hyr.2
                  have hrg := hs_range (a := (k : Int) + 1) (b := (k : Int)) (m := (B : Int)) (k := y) (by omega)
                  obtain ⟨p, hp⟩ : ∃ p : Nat, (p : Int) = hs ((k : Int) + 1) k B y := ⟨(hs ((k : Int) + 1) k B y).toNat, by omega⟩
                  have hsn := crow_snoc (keys := l.take j) (show p < B by omega) hp.symm
                  rw [← hy.out, ← take_snocD hltj] at hsn
                  rw [← hp] at ch hrg
                  have hpB : p < B := by omega
                  have hpB1 : (p : Int) < (B : Int) := by omega
                  have hcb := crow_le (i := k) hpB (l.take j)
                  have hlt8 : ((l.take j).length : Int) ≤ 8 := by rw [List.length_take]; omega
                  obtain ⟨z, hcz, hz⟩ := hT.get hpB
                  rw [hz.out] at hsn hcb
                  have hfz := hT.frozen p
                  have hT2 := hT.store p (z + 1)
                  rw [hsn] at hT2
                  have hB2 := hBi.setCell (p := ⟨wo.heap.size, p, none⟩) (Nat.le_refl _) (.int .i64 (z + 1))
                  have hzb : 0 ≤ z ∧ z ≤ 8 := by omega
                  have C := Lib.hid c
                  have CH := Lib.hid ch
                  clear c ch hin hy hf hp hsn hcb hlt8 hz hT hrg hBi
                  go_wp2_with fail
                  refine (C.out _).mono ?_
                  rintro e w' ⟨rfl, rfl⟩
                  go_wp2_with fail
                  refine (CH.out _).mono ?_
                  rintro e w' ⟨rfl, rfl⟩
                  go_wp2
                  go_roundw
                  case rel => exact ⟨j + 1, by omega, by go_num, hf2, hT2, hB2⟩
                  case measure => simp [intOf]; omega
                · have e : ts = [] := HNO.out (fun h => by
                    have := (VKc_iff.1 h).2 _ (getD_mem hltj)
                    rw [hy.out] at this
                    exact hin (KR_iff.2 (by omega)))
                  rw [eq_false_of_ne_true hin] at c
                  have C := Lib.hid c
                  have hB3 := hb.trans (hBi.mono hsz)
                  clear c hin hy hf
                  go_wp2_with fail
                  refine (C.out _).mono ?_
                  rintro e w' ⟨rfl, rfl⟩
                  go_wp2
                  go_ret
                  exact ⟨.inl ⟨e, rfl⟩, hB3⟩
              · obtain rfl : j = l.length := by omega
                have hvk : Hid (0 < k + 1 → VKc l = true) := fun _ => by
                  unfold VKc; rw [decide_eq_true_eq]; exact ⟨by omega, hf.out⟩
                rw [List.take_length] at hT
                have hO2 := hO.belowAll hBi
                have hB3 := hb.trans (hBi.mono hsz)
                have hz3 := hB3.size
                clear hf hO hBi hb hrdo hr2
                go_wp2_with (at_builtin; refine push_row rfl (.tmp 62) (.tmp 64) rfl w.heap.size _ (crows B l k) (crow B k l) rfl hO2 wo.heap.size B (crow_len _ _ _) hT _ rfl rfl (by rw [crows_len]; omega) hz3 ?_)
                intro v' w6 hO6 hg6
                have hB6 : Below w.heap.size w w6 := hB3.grown hg6 hz3 (fun q hq => (hO2.lt q hq).1)
                rw [← crows_succ] at hO6
                clear hO2 hT hB3 hg6
                go_wp2
                go_roundw
                case rel => exact ⟨k + 1, by omega, by go_num, hvk, hO6, hB6⟩
                case measure => simp [intOf]; omega
          · obtain rfl : k = W := by omega
            have e := HY.out (hval.out (by omega))
            go_wp2
            go_ret
            refine ⟨.inr ⟨fun h => ?_, _, rfl, by rw [e]; exact hO⟩, hb⟩
            have := crows_len B l k
            rw [← e, h] at this
            simp at this; omega
    · rw [CKs_false (fun h => g2 (inR_iff.2 (VCK_iff.1 h).2.1))]
      rw [eq_false_of_ne_true g2] at c2
      have C1 := Lib.hid c1
      have C2 := Lib.hid c2
      clear c1 c2 g1 g2
      go_enter Try.func41, Try.ntmps41
      go_wp2_with fail
      refine (C1.out _).mono ?_
      rintro e w' ⟨rfl, rfl⟩
      go_wp2_with fail
      refine (C2.out _).mono ?_
      rintro e w' ⟨rfl, rfl⟩
      go_wp2
      go_ret
      exact ⟨.inl ⟨rfl, rfl⟩, Below.refl _ _⟩
  · rw [CKs_false (fun h => g1 (inR_iff.2 (VCK_iff.1 h).1))]
    rw [eq_false_of_ne_true g1] at c1
    have C1 := Lib.hid c1
    clear c1 c2 g1
    go_enter Try.func41, Try.ntmps41
    go_wp2_with fail
    refine (C1.out _).mono ?_
    rintro e w' ⟨rfl, rfl⟩
    go_wp2
    go_ret
    exact ⟨.inl ⟨rfl, rfl⟩, Below.refl _ _⟩
end Go.Proofs.Ytjkcahmbocjacaa
