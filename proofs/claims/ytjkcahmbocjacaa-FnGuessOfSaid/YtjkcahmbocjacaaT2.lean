/-
  impl.validCounted, impl.CountKeys.
-/
import Derived.Test.YtjkcahmbocjacaaT1
import Derived.Test.YtjkcahmbocjacaaJ1
namespace Go.Proofs.Ytjkcahmbocjacaa
open Go.RowKit Go.Maps

/-- Are these keys that can be counted? -/
def VKc (keys : List Int) : Bool := decide (keys.length ≤ 8 ∧ ∀ i, i < keys.length → KR (keys.getD i 0) = true)
theorem VKc_iff {keys : List Int} : VKc keys = true ↔ keys.length ≤ 8 ∧ ∀ x ∈ keys, 0 ≤ x ∧ x ≤ 30 := by
  unfold VKc
  rw [decide_eq_true_eq]
  constructor
  · rintro ⟨h1, h2⟩
    refine ⟨h1, fun x hx => ?_⟩
    obtain ⟨i, hi, e⟩ := List.getElem_of_mem hx
    have := KR_iff.1 (h2 i hi)
    simp only [List.getD, List.getElem?_eq_getElem hi, Option.getD_some, e] at this
    omega
  · rintro ⟨h1, h2⟩
    refine ⟨h1, fun i hi => KR_iff.2 ?_⟩
    have := h2 _ (getD_mem hi)
    omega
set_option maxHeartbeats 1000000 in
theorem validCounted_any (a : Option Addr) (l : List Int) (cap : Nat) (w : World) (hr : Reads w a l) (hl : l.length ≤ 9223372036854775807) :
    Calls Try.prog 78 #[.slice a l.length cap] w fun e w' => e = .returned (.bool (VKc l)) ∧ w = w' := by
  obtain ⟨R, hR⟩ : ∃ R, R = VKc l := ⟨_, rfl⟩
  rw [← hR]
  have HR := Lib.hid hR
  by_cases h8 : 8 < l.length
  · have e : R = false := by rw [hR]; unfold VKc; rw [decide_eq_false_iff_not]; omega
    subst e
    have g : (l.length : Int) > 8 := by omega
    clear hR
    go_enter Try.func78, Try.ntmps78
    go_wp2
    go_ret
    exact ⟨rfl, rfl⟩
  · have g : ¬ (l.length : Int) > 8 := by omega
    clear hR
    go_enter Try.func78, Try.ntmps78
    go_wp2
    go_loop [10] (fun iv => ∃ i : Nat, i ≤ l.length ∧ iv = .int .i64 (i : Int) ∧ Hid (∀ j, j < i → KR (l.getD j 0) = true)) (fun iv => l.length - (intOf iv).toNat)
    case atStart => exact ⟨0, by omega, rfl, fun j hj => by omega⟩
    case round =>
      obtain ⟨i, hi, rfl, hf⟩ := hrel
      by_cases hlt : i < l.length
      · obtain ⟨b, off, y, rfl, hb, hcell, hy⟩ := hr.get hlt
        have hi1 : (i : Int) < (l.length : Int) := by omega
        have c := fun wx => isRest_any y wx
        by_cases hin : KR y = true
        · have HF := Lib.hid (show ∀ j, j < i + 1 → KR (l.getD j 0) = true from fun j hj => by
            by_cases e : j = i
            · subst e; rw [hy.out]; exact hin
            · exact hf.out j (by omega))
          rw [hin] at c
          have C := Lib.hid c
          clear c hin hy hf
          go_wp2_with fail
          refine (C.out _).mono ?_
          rintro e w' ⟨rfl, rfl⟩
          go_wp2
          go_round
          case rel => exact ⟨i + 1, by omega, by go_num, HF⟩
          case measure => simp [intOf]; omega
        · have e : R = false := by
            rw [HR.out]; unfold VKc; rw [decide_eq_false_iff_not]
            intro h; exact hin (by rw [← hy.out]; exact h.2 i hlt)
          subst e
          rw [eq_false_of_ne_true hin] at c
          have C := Lib.hid c
          clear c hin hy hf
          go_wp2_with fail
          refine (C.out _).mono ?_
          rintro e w' ⟨rfl, rfl⟩
          go_wp2
          go_ret
          exact ⟨rfl, rfl⟩
      · obtain rfl : i = l.length := by omega
        have e : R = true := by rw [HR.out]; unfold VKc; rw [decide_eq_true_eq]; exact ⟨by omega, hf.out⟩
        subst e
        go_wp2
        go_ret
        exact ⟨rfl, rfl⟩

/-- How often a place has come. -/
def cnt (B i : Nat) (l : List Int) (x : Int) : Nat := l.countP fun k => decide (hs ((i : Int) + 1) i B k = x)
theorem cnt_snoc {B i j : Nat} {l : List Int} (h : j < l.length) (x : Int) : cnt B i (l.take (j + 1)) x = cnt B i (l.take j) x + if hs ((i : Int) + 1) i B (l.getD j 0) = x then 1 else 0 := by
  unfold cnt
  rw [take_snocD h, List.countP_append, List.countP_singleton]
  simp
theorem cnt_le (B i : Nat) (l : List Int) (x : Int) : cnt B i l x ≤ l.length := List.countP_le_length
theorem VCK_iff {ways bits : Int} {keys : List Int} : VCK ways bits keys = true ↔ (1 ≤ ways ∧ ways ≤ 4) ∧ (1 ≤ bits ∧ bits ≤ 16) ∧ VKc keys = true := by
  unfold VCK
  rw [decide_eq_true_eq, VKc_iff]
theorem CKs_false {ways bits : Int} {keys : List Int} (h : ¬ VCK ways bits keys = true) : CKs ways bits keys = [] := by unfold CKs; rw [if_neg h]

/-- What CountKeys hands back: nothing, or rows of its own. -/
def RowsOf (w w' : World) (e : Ending) (ts : List (List Int)) : Prop :=
  (ts = [] ∧ e = .returned (.slice none 0 0)) ∨ (ts ≠ [] ∧ ∃ G, e = .returned (.slice (some ⟨w.heap.size, 0, none⟩) ts.length ts.length) ∧ OwnS w' w.heap.size w'.heap.size w.heap.size G ts)

set_option maxRecDepth 100000 in
set_option maxHeartbeats 8000000 in
theorem implCountKeys_any (ways bits : Int) (a : Option Addr) (l : List Int) (cap : Nat) (w : World) (hr : Reads w a l) (hl : l.length ≤ 1048586) :
    Calls Try.prog 39 #[.int .i64 ways, .int .i64 bits, .slice a l.length cap] w fun e w' => RowsOf w w' e (CKs ways bits l) ∧ Below w.heap.size w w' := by
  have c1 := fun wx => isWays_any ways wx
  have c2 := fun wx => isBits_any bits wx
  have c3 := fun wx h => validCounted_any a l cap wx h (by omega)
  by_cases g1 : inR ways 1 4 = true
  · have g1' := inR_iff.1 g1
    rw [g1] at c1
    by_cases g2 : inR bits 1 16 = true
    · have g2' := inR_iff.1 g2
      rw [g2] at c2
      by_cases g3 : VKc l = true
      · have g3' := VKc_iff.1 g3
        rw [g3] at c3
        have hv : VCK ways bits l = true := VCK_iff.2 ⟨g1', g2', g3⟩
        obtain ⟨hL, hG⟩ := CKs_get hv
        obtain ⟨W, rfl⟩ : ∃ W : Nat, ways = W := ⟨ways.toNat, by omega⟩
        obtain ⟨B, rfl⟩ : ∃ B : Nat, bits = B := ⟨bits.toNat, by omega⟩
        rw [Int.toNat_natCast] at hL hG
        obtain ⟨ts, hts⟩ : ∃ ts, ts = CKs (W : Int) (B : Int) l := ⟨_, rfl⟩
        rw [← hts] at hL hG ⊢
        have HL := Lib.hid hL
        have HG : Hid (∀ i, i < W → tr ts i = crow B i l) := hG
        have HK := Lib.hid g3'
        have hmk := run_make_row' (P := Try.prog) 39 36 (.slice none 0 0) 24 Try.underlying39 infoSl rfl .i64 .i64 W (by omega) (by omega)
        have hZ : (w.alloc (.cells (madeCells #[.slice none 0 0] W) 36)).ownsRow w.heap.size 36 1 (.slice (some ⟨w.heap.size, 0, none⟩) W W) W (madeCells #[.slice none 0 0] W).toList :=
          World.ownsRow_lit (base := w.heap.size) (e := 36) (size := 1) w (madeCells #[.slice none 0 0] W) W (Nat.le_refl _) (by unfold maxLen; omega) (by simp [size_madeCells])
        have hb0 : Below w.heap.size w (w.alloc (.cells (madeCells #[.slice none 0 0] W) 36)) := (Below.refl _ _).alloc (Nat.le_refl _) _
        have hmm := @run_makeMap Try.prog
        have hl8 := g3'.1
        have C1 := Lib.hid c1
        have C2 := Lib.hid c2
        have C3 := Lib.hid c3
        clear c1 c2 c3 g1 g2 g3 hv hL hG hts g3'
        go_enter Try.func39, Try.ntmps39
        go_wp2_with fail
        refine (C1.out _).mono ?_
        rintro e w' ⟨rfl, rfl⟩
        go_wp2_with fail
        refine (C2.out _).mono ?_
        rintro e w' ⟨rfl, rfl⟩
        go_wp2_with fail
        refine (C3.out _ hr).mono ?_
        rintro e w' ⟨rfl, rfl⟩
        go_wp2_with fail
        go_loopw [29] (fun kv wr => ∃ (k : Nat) (G : Nat → Nat), k ≤ W ∧ kv = .int .i64 (k : Int) ∧ Hid (∀ r, r < k → (w.heap.size < G r ∧ G r < wr.heap.size ∧ ∀ r', r' < r → G r' < G r) ∧ wr.cell? ⟨w.heap.size, r, none⟩ = some (.slice (some ⟨G r, 0, none⟩) B B) ∧ Tab wr w.heap.size (G r) B B (crow B r l)) ∧
          (∃ xs, wr.ownsRow w.heap.size 36 1 (.slice (some ⟨w.heap.size, 0, none⟩) W W) W xs) ∧ Below w.heap.size w wr) (fun kv _ => W - (intOf kv).toNat)
        case atStart => exact ⟨0, fun _ => 0, by omega, rfl, (fun r hr => by omega), ⟨_, hZ⟩, hb0⟩
        case round =>
          clear hZ hb0 hmk
          rename World => wo
          obtain ⟨k, G, hk, rfl, HC, ⟨xs, hZ⟩, hb⟩ := hrel
          have hsz := hb.size
          have hbl := World.ownsRow.lt hZ w.heap.size rfl
          have hxl : xs.length = W := by simpa using hZ.1
          by_cases hlt : k < W
          · have hk1 : (k : Int) < (W : Int) := by omega
            have hr2 := hr.below hb
            have hT0 : Tal (wo.alloc (.map #[] 0)) wo.heap.size (cnt B k (l.take 0)) 0 := (Tal.made wo).congr fun x => by simp [cnt]
            have hB0 := (Below.refl wo.heap.size wo).alloc (Nat.le_refl _) (.map #[] 0)
            go_wp2_with fail
            go_loopw [35] (fun jv wi => ∃ j m : Nat, j ≤ l.length ∧ m ≤ j ∧ jv = .int .i64 (j : Int) ∧ Tal wi wo.heap.size (cnt B k (l.take j)) m ∧ Below wo.heap.size wo wi) (fun jv _ => l.length - (intOf jv).toNat)
            case atStart => exact ⟨0, 0, by omega, by omega, rfl, hT0, hB0⟩
            case round =>
              clear hT0 hB0
              obtain ⟨j, m, hj, hmj, rfl, hT, hBi⟩ := hrel
              by_cases hltj : j < l.length
              · have hj1 : (j : Int) < (l.length : Int) := by omega
                obtain ⟨b2, off2, y, rfl, hb2, hcy, hy⟩ := (hr2.below hBi).get hltj
                have hyr : 0 ≤ y ∧ y ≤ 30 := by rw [← hy.out]; exact HK.out.2 _ (getD_mem hltj)
                have cp := fun wx => placeOf1_any k B y wx (by omega) (by omega) (by omega) hyr.1 hyr.2
                have hrg := hs_range (a := (k : Int) + 1) (b := (k : Int)) (m := (B : Int)) (k := y) (by omega)
                have hst := fun x => cnt_snoc (B := B) (i := k) hltj x
                rw [hy.out] at hst
                obtain ⟨p, hp⟩ : ∃ p, p = hs ((k : Int) + 1) k B y := ⟨_, rfl⟩
                rw [← hp] at cp hrg
                rw [← hp] at hst
                have hcl := cnt_le B k (l.take j) p
                have hcl2 : cnt B k (l.take j) p ≤ 1000 := by rw [List.length_take] at hcl; omega
                have CP := Lib.hid cp
                have HST := Lib.hid hst
                clear cp hst hp hy hcl
                go_wp2_with fail
                refine (CP.out _).mono ?_
                rintro e w3 ⟨rfl, b3⟩
                have hT3 := hT.belowAll b3
                have hB3 := hBi.trans (b3.mono hBi.size)
                clear hT b3 hBi hcy
                go_wp2_with fail
                refine (add_any wo.heap.size _ m p w3 hT3 (by unfold In64; omega) hcl2 (by omega)).mono ?_
                rintro e w4 ⟨⟨v4, rfl⟩, hT4, hg4⟩
                have hB4 := hB3.grown hg4 hB3.size (fun q hq => by cases hq; exact Nat.le_refl _)
                have hT5 : Tal w4 wo.heap.size (cnt B k (l.take (j + 1))) (if 0 < cnt B k (l.take j) p then m else m + 1) := hT4.congr fun x => by
                  rw [HST.out x]
                  unfold upd
                  by_cases e : x = p
                  · subst e; rw [if_pos rfl, if_pos rfl]
                  · rw [if_neg e, if_neg (fun h => e h.symm)]; rfl
                obtain ⟨m2, hm2⟩ : ∃ m2, m2 = if 0 < cnt B k (l.take j) p then m else m + 1 := ⟨_, rfl⟩
                rw [← hm2] at hT5
                have hm3 : m2 ≤ j + 1 := by rw [hm2]; split <;> omega
                clear hT4 hg4 hT3 hB3 hm2 hcl2
                go_wp2
                go_roundw
                case rel => exact ⟨j + 1, m2, by omega, hm3, by go_num, hT5, hB4⟩
                case measure => simp [intOf]; omega
              · obtain rfl : j = l.length := by omega
                rw [List.take_length] at hT
                have cr := fun (c) => row_any wo.heap.size (cnt B k l) m B _ hT (by omega) c
                have CR := Lib.hid (cr (fun x hx => by
                  unfold cnt at hx ⊢
                  obtain ⟨y, hy, e⟩ := List.countP_pos_iff.1 hx
                  rw [decide_eq_true_eq] at e
                  have hrg := hs_range (a := (k : Int) + 1) (b := (k : Int)) (m := (B : Int)) (k := y) (by omega)
                  have := cnt_le B k l x
                  unfold cnt at this
                  exact ⟨by omega, by omega⟩))
                clear cr hT
                have ecr : ((List.range B).map fun p : Nat => ((cnt B k l (p : Int) : Nat) : Int)) = crow B k l := rfl
                rw [ecr] at CR
                go_wp2_with fail
                refine CR.out.mono ?_
                rintro e w5 ⟨rfl, hTr, b5⟩
                have hB5 := hBi.trans (b5.mono hBi.size)
                have hb3 := hb.trans (hB5.mono hsz)
                have hgk2 := hTr.block.2
                have hsz2 := hBi.size
                obtain ⟨z, hcz⟩ : ∃ z, wo.cell? ⟨w.heap.size, k, none⟩ = some z := ⟨_, by rw [World.ownsRow.cellAt hZ k (by omega)]; exact List.getElem?_eq_getElem (by omega)⟩
                have hcz2 : w5.cell? ⟨w.heap.size, k, none⟩ = some z := (hB5.cell (by exact hbl.2)).trans hcz
                have hZ2 : w5.ownsRow w.heap.size 36 1 (.slice (some ⟨w.heap.size, 0, none⟩) W W) W xs := by
                  refine World.ownsRow.kept hZ (row := none) ⟨hB5.os, hB5.tape, hB5.output, hB5.size, fun q hq _ => hB5.block q hq⟩ (.inr (by simp [Value.ownBlock]))
                have hfz := World.ownsRow.frozenAt hZ2 k
                obtain ⟨gk, hgk⟩ : ∃ gk, gk = wr.heap.size := ⟨_, rfl⟩
                rw [← hgk] at hTr hsz2 hgk2 ⊢
                have HZ2 := Lib.hid hZ2
                have HB5 := Lib.hid hB5
                have HTR := Lib.hid hTr
                clear hxl hcz hgk CR ecr hBi b5 hZ hb hr2 hZ2 hB5 hTr
                go_wp2
                go_roundw
                case rel =>
                  refine ⟨k + 1, fun r => if r = k then gk else G r, by omega, by go_num, ?_, ⟨_, (World.ownsRow.stored HZ2.out k _).1⟩, hb3.setCell (p := ⟨w.heap.size, k, none⟩) (Nat.le_refl _) _⟩
                  show ∀ r, r < k + 1 → _
                  intro r hr'
                  have hB5 := HB5.out
                  by_cases e : r = k
                  · subst e
                    simp only [if_true]
                    refine ⟨⟨by omega, by simpa using hgk2, fun r' hr2 => ?_⟩, World.cell?_setCell_same _ _ _ hcz2, (Tab.mono HTR.out (by omega)).other (by omega) _ _⟩
                    rw [if_neg (by omega)]
                    have := (HC.out r' hr2).1.2.1
                    omega
                  · simp only [if_neg e]
                    have h1 := HC.out r (by omega)
                    refine ⟨⟨h1.1.1, ?_, fun r' hr2 => ?_⟩, ?_, ?_⟩
                    · have := h1.1.2.1
                      have := hB5.size
                      simp
                      omega
                    · rw [if_neg (by omega)]; exact h1.1.2.2 r' hr2
                    · rw [World.cell?_setCell_other _ _ _ _ (fun hh => e (by injection hh with _ h3 _; exact h3.symm))]
                      exact (hB5.cell (by show w.heap.size < wo.heap.size; omega)).trans h1.2.1
                    · exact (h1.2.2.below hB5).other (by omega) _ _
                case measure => simp [intOf]; omega
          · obtain rfl : k = W := by omega
            go_wp2
            go_ret
            have hne : ts ≠ [] := fun h => by have := HL.out; rw [h] at this; simp at this; omega
            have hlen : ∀ r, r < ts.length → tr ts r = crow B r l ∧ (tr ts r).length = B := fun r hr' => by
              have := HG.out r (by rw [← HL.out]; exact hr')
              exact ⟨this, by rw [this, crow_len]⟩
            refine ⟨.inr ⟨hne, G, by rw [HL.out]; rfl, ⟨Nat.le_refl _, hbl.2, Nat.le_refl _, fun r hr' => ?_, fun r hr' => ?_, fun r hr' => ?_⟩⟩, hb⟩
            · exact (HC.out r (by rw [← HL.out]; exact hr')).1
            · rw [(hlen r hr').2]; exact (HC.out r (by rw [← HL.out]; exact hr')).2.1
            · rw [(hlen r hr').2, (hlen r hr').1]; exact (HC.out r (by rw [← HL.out]; exact hr')).2.2
      · rw [CKs_false (fun h => g3 (VCK_iff.1 h).2.2)]
        rw [eq_false_of_ne_true g3] at c3
        have C1 := Lib.hid c1
        have C2 := Lib.hid c2
        have C3 := Lib.hid c3
        clear c1 c2 c3 g1 g2 g3
        go_enter Try.func39, Try.ntmps39
        go_wp2_with fail
        refine (C1.out _).mono ?_
        rintro e w' ⟨rfl, rfl⟩
        go_wp2_with fail
        refine (C2.out _).mono ?_
        rintro e w' ⟨rfl, rfl⟩
        go_wp2_with fail
        refine (C3.out _ hr).mono ?_
        rintro e w' ⟨rfl, rfl⟩
        go_wp2
        go_ret
        exact ⟨.inl ⟨rfl, rfl⟩, Below.refl _ _⟩
    · rw [CKs_false (fun h => g2 (inR_iff.2 (VCK_iff.1 h).2.1))]
      rw [eq_false_of_ne_true g2] at c2
      have C1 := Lib.hid c1
      have C2 := Lib.hid c2
      clear c1 c2 c3 g1 g2
      go_enter Try.func39, Try.ntmps39
      go_wp2_with fail
      refine (C1.out _).mono ?_
      rintro e w' ⟨rfl, rfl⟩
      go_wp2_with fail
      refine (C2.out _).mono ?_
      rintro e w' ⟨rfl, rfl⟩
      go_wp2
      go_ret
      exact ⟨.inl ⟨rfl, rfl⟩, Below.refl _ _⟩
  · rw [CKs_false (fun h => g1 (inR_iff.2 (VCK_iff.1 h).1))]
    rw [eq_false_of_ne_true g1] at c1
    have C1 := Lib.hid c1
    clear c1 c2 c3 g1
    go_enter Try.func39, Try.ntmps39
    go_wp2_with fail
    refine (C1.out _).mono ?_
    rintro e w' ⟨rfl, rfl⟩
    go_wp2
    go_ret
    exact ⟨.inl ⟨rfl, rfl⟩, Below.refl _ _⟩
end Go.Proofs.Ytjkcahmbocjacaa
