/-
  impl.placeKeys, impl.PlaceAll.
-/
import Derived.Test.YtlkhobofbkoliaaQp
namespace Go.Proofs.Ytlkhobofbkoliaa
open Go.RowKit

def PKPost (M : Nat) (ka : Nat → Nat) (base : Nat) (w : World) (R : Option (List Int)) (e : Ending) (w' : World) : Prop :=
  (match R with
   | some r => ∃ g cap, e = .returned (.tuple #[.slice (some ⟨g, 0, none⟩) M cap, .bool true]) ∧ PT w' base g M cap r ka
   | none => e = .returned (.tuple #[.slice none 0 0, .bool false])) ∧ Below w.heap.size w w'
/-- The first j homes have failed. -/
def Failed (l : List (Int × Int)) (r i : Nat) (t : List Int) (j : Nat) : Prop :=
  (1 ≤ j → t.getD (hA l i) 0 < 0 → plc l r (i + 1) (t.set (hA l i) i) = none) ∧ (2 ≤ j → t.getD (hB l i) 0 < 0 → plc l r (i + 1) (t.set (hB l i) i) = none)
theorem Failed.zero (l : List (Int × Int)) (r i : Nat) (t : List Int) : Failed l r i t 0 := ⟨fun h => by omega, fun h => by omega⟩
/-- Slot p is home j of key i. -/
def HomeAt (l : List (Int × Int)) (i j p : Nat) : Prop := (j = 0 ∧ p = hA l i) ∨ (j = 1 ∧ p = hB l i ∧ pA l i ≠ pB l i)
theorem Failed.succ {l : List (Int × Int)} {r i : Nat} {t : List Int} {j p : Nat} (h : Failed l r i t j) (hp : HomeAt l i j p) (hf : t.getD p 0 < 0 → plc l r (i + 1) (t.set p i) = none) : Failed l r i t (j + 1) := by
  rcases hp with ⟨rfl, rfl⟩ | ⟨rfl, rfl, _⟩
  · exact ⟨fun _ => hf, fun h => by omega⟩
  · exact ⟨fun _ => h.1 (Nat.le_refl _), fun _ => hf⟩
theorem Failed.found {l : List (Int × Int)} {r i : Nat} {t u : List Int} {j p : Nat} (h : Failed l r i t j) (hp : HomeAt l i j p) (ht : t.getD p 0 < 0) (hf : plc l r (i + 1) (t.set p i) = some u) : plc l (r + 1) i t = some u := by
  rcases hp with ⟨rfl, rfl⟩ | ⟨rfl, rfl, hne⟩
  · exact plc_A ht hf
  · rw [plc_notA (h.1 (Nat.le_refl _)), if_pos ⟨ht, hne⟩]; exact hf
theorem Failed.all {l : List (Int × Int)} {r i : Nat} {t : List Int} (h : Failed l r i t (chs (pA l i) (pB l i)).length) : plc l (r + 1) i t = none := by
  unfold chs at h
  by_cases e : pA l i = pB l i
  · rw [if_pos e] at h
    rw [plc_notA (h.1 (Nat.le_refl _)), if_neg (fun hh => hh.2 e)]
  · rw [if_neg e] at h
    rw [plc_notA (h.1 (by simp))]
    by_cases e2 : t.getD (hB l i) 0 < 0
    · rw [if_pos ⟨e2, e⟩]; exact h.2 (by simp) e2
    · rw [if_neg (fun hh => e2 hh.1)]
theorem chs_home {M : Nat} {l : List (Int × Int)} (hP : Prs M l) {i j : Nat} (hi : i < l.length) (hj : j < (chs (pA l i) (pB l i)).length) : ∃ p : Nat, p < M ∧ (chs (pA l i) (pB l i)).getD j 0 = (p : Int) ∧ HomeAt l i j p ∧ (p = hA l i ∨ p = hB l i) := by
  unfold chs at hj ⊢
  by_cases e : pA l i = pB l i
  · rw [if_pos e] at hj ⊢
    obtain rfl : j = 0 := by simp at hj; omega
    exact ⟨hA l i, hP.lA hi, hP.cA hi, .inl ⟨rfl, rfl⟩, .inl rfl⟩
  · rw [if_neg e] at hj ⊢
    have : j = 0 ∨ j = 1 := by simp at hj; omega
    rcases this with rfl | rfl
    · exact ⟨hA l i, hP.lA hi, hP.cA hi, .inl ⟨rfl, rfl⟩, .inl rfl⟩
    · exact ⟨hB l i, hP.lB hi, hP.cB hi, .inr ⟨rfl, rfl, e⟩, .inr rfl⟩
theorem chs_len (x y : Int) : (chs x y).length ≤ 2 := by unfold chs; split <;> simp
theorem KS.below {w w' : World} {a : Option Addr} {i rem : Nat} {ka : Nat → Nat} (hb : Below w.heap.size w w') (h : KS w a i rem ka) : KS w' a i rem ka := by
  rcases h with h | ⟨g, ha, hg, hc⟩
  · exact .inl h
  · exact .inr ⟨g, ha, Nat.lt_of_lt_of_le hg hb.size, fun j hj => (hb.cell (by exact hg)).trans (hc j hj)⟩

set_option maxHeartbeats 4000000 in
set_option maxRecDepth 100000 in
theorem placeKeys_any (M : Nat) (l : List (Int × Int)) (hP : Prs M l) (ka : Nat → Nat) (b0 base : Nat) : ∀ (rem i : Nat), i + rem = l.length → ∀ (g cap : Nat) (a : Option Addr) (t : List Int) (w : World), PT w base g M cap t ka → Tbl M l t → KF w b0 l l.length ka → KS w a i rem ka → base ≤ w.heap.size →
    Calls Try.prog 92 #[.slice (some ⟨g, 0, none⟩) M cap, .slice a rem rem] w (PKPost M ka base w (plc l rem i t)) := by
  intro rem
  induction rem with
  | zero =>
    intro i hi g cap a t w hT ht hK hS hbase
    go_enter Try.func92, Try.ntmps92
    go_wp2
    go_ret2
    exact ⟨⟨g, cap, rfl, hT⟩, Below.refl _ _⟩
  | succ r ih =>
    intro i hi g cap a t w hT ht hK hS hbase
    have hil : i < l.length := by omega
    have hM := hP.le
    have hlen := hP.len
    rcases hS with hS | ⟨gk, rfl, hgk, hkc⟩
    · omega
    have hk0 := hkc 0 (by omega)
    simp only [Nat.add_zero] at hk0
    obtain ⟨kc1, kc2, kc3⟩ := (hK i hil).2.cells
    have hkl := (hK i hil).2.lt
    obtain ⟨x, hx⟩ : ∃ x, x = pA l i := ⟨_, rfl⟩
    obtain ⟨y, hy⟩ : ∃ y, y = pB l i := ⟨_, rfl⟩
    rw [← hx] at kc2
    rw [← hy] at kc3
    have HX := Lib.hid hx
    have HY := Lib.hid hy
    have HK := hK
    have hbl := hT.block
    have hcl := chs_len x y
    -- the keys that are left
    obtain ⟨a2, ha2, hS2⟩ : ∃ a2, (∀ wx : World, (Instr.slice 92 (.slice (some ⟨gk, i, none⟩) (r + 1) (r + 1)) (some (.int .i64 1)) none none).run Try.prog wx = .ok (.slice a2 r r) wx) ∧ KS w a2 (i + 1) r ka := by
      have hsz : ∀ wx : World, (sizeOf (Try.prog.elem 92)).run Try.prog wx = .ok 1 wx := fun wx => by kernel_rfl
      refine ⟨if r = 0 then some ⟨gk, i, none⟩ else some ⟨gk, i + 1, none⟩, fun wx => ?_, ?_⟩
      · rw [run_slice_l wx 92 (some ⟨gk, i, none⟩) (r + 1) (r + 1) (by kernel_rfl) .i64 1 (by omega) (by omega), hsz]
        by_cases h0 : r = 0
        · subst h0; simp [sliced, slicedAt, Result.andThen, Addr.add]
        · simp [sliced, slicedAt, Result.andThen, Addr.add, h0]
      · by_cases h0 : r = 0
        · exact .inl h0
        · rw [if_neg h0]
          refine .inr ⟨gk, rfl, hgk, fun j hj => ?_⟩
          have := hkc (1 + j) (by omega)
          rw [← Nat.add_assoc] at this
          exact this
    clear hx hy kc1 hkc
    obtain ⟨R, hR⟩ : ∃ R, R = plc l (r + 1) i t := ⟨_, rfl⟩
    rw [← hR]
    have HR := Lib.hid hR
    have HI := Lib.hid hi
    clear hR hi
    go_enter Try.func92, Try.ntmps92
    go_wp2_with fail
    refine (choices_any x y _).mono ?_
    rintro e w1 ⟨gc, cc, rfl, hC, hb1⟩
    obtain ⟨c, hc⟩ : ∃ c, c = (chs x y).length := ⟨_, rfl⟩
    rw [← hc] at hC hcl ⊢
    have HC := Lib.hid hc
    clear hc
    go_wp2
    go_loopw [23] (fun s wr => ∃ j : Nat, j ≤ c ∧ s = .int .i64 j ∧ Hid (Failed l r i t j) ∧ Below w.heap.size w wr ∧ Tab wr w.heap.size gc c cc (chs x y)) (fun s _ => c - (intOf s).toNat)
    case atStart => exact ⟨0, Nat.zero_le _, rfl, Failed.zero _ _ _ _, hb1, hC⟩
    case round =>
      clear hC hb1
      obtain ⟨j, hj, rfl, hF, hb, hC⟩ := hrel
      have hsz := hb.size
      by_cases hlt : j < c
      · obtain ⟨z, hcz, hz⟩ := hC.get hlt
        obtain ⟨p, hp, hzp, hhome, hhome2⟩ := chs_home hP (i := i) (j := j) hil (by rw [← HX.out, ← HY.out, ← HC.out]; exact hlt)
        rw [← HX.out, ← HY.out, hz.out] at hzp
        subst hzp
        clear hz
        have hcT : wr.cell? ⟨g, p, none⟩ = some (ptr ka (t.getD p 0)) := (hb.cell (by exact hbl.2)).trans (hT.get hp)
        have hTr := PT.below (w' := wr) (Below.mono hb (Nat.le_refl _)) hT
        by_cases hn : t.getD p 0 < 0
        · rw [ptr_neg ka hn] at hcT
          have HN := Lib.hid hn
          clear hn
          go_wp2_with fail
          refine (copyOf_any base g M cap t ka _ hTr (by omega)).mono ?_
          rintro e w2 ⟨rfl, hT2, hb2⟩
          have hz2 := hT2.block
          have hgc := hC.block.2
          have hC2 := hC.below hb2
          obtain ⟨g2, hg2⟩ : ∃ g2, g2 = wr.heap.size := ⟨_, rfl⟩
          rw [← hg2] at hT2 hb2 hz2 hsz hgc ⊢
          have hb3 : Below w.heap.size w w2 := hb.trans (hb2.mono hsz)
          have hcT2 : w2.cell? ⟨g2, p, none⟩ = some (.pointer none) := by rw [hT2.get hp, ptr_neg ka HN.out]
          have hfz := hT2.frozen p
          have hst := hT2.store p i
          rw [ptr_nat] at hst
          have hb4 := hb3.setCell (p := ⟨g2, p, none⟩) hsz (.pointer (some ⟨ka i, 0, none⟩))
          have hk0' : w2.cell? ⟨gk, i, none⟩ = some (.pointer (some ⟨ka i, 0, none⟩)) := (hb3.cell (by exact hgk)).trans hk0
          have hC3 := hC2.other (g' := g2) (by omega) p (.pointer (some ⟨ka i, 0, none⟩))
          clear hg2 hb2 hT2 hTr hcT hb hC hcz hC2
          go_wp2_with fail
          refine (ih (i + 1) (by have := HI.out; omega) g2 M a2 (t.set p i) _ (hst.mono (by omega)) (ht.put hp hil hhome2) ?_ ?_ ?_).mono ?_
          · exact KF.below hb4 HK
          · exact KS.below hb4 hS2
          · have := hb4.size; omega
          rintro e w4 ⟨hR4, hb5⟩
          have hb6 : Below w.heap.size w w4 := hb4.trans (hb5.mono hb4.size)
          have hC4 := hC3.below hb5
          clear hb4 hb5 hC3 hst
          cases hRR : plc l r (i + 1) (t.set p i) with
          | some u =>
            rw [hRR] at hR4
            obtain ⟨g', cap', rfl, hT'⟩ := hR4
            have hfound := Failed.found hF.out hhome HN.out hRR
            have HFD := Lib.hid hfound
            clear hRR hfound
            go_wp2
            go_ret2
            refine ⟨?_, hb6⟩
            rw [HR.out, HFD.out]
            exact ⟨g', cap', rfl, hT'⟩
          | none =>
            rw [hRR] at hR4
            obtain rfl := hR4
            have hF2 : Hid (Failed l r i t (j + 1)) := Failed.succ hF.out hhome (fun _ => hRR)
            clear hRR
            go_wp2
            go_roundw
            case rel => exact ⟨j + 1, by omega, by go_num, hF2, hb6, hC4⟩
            case measure => simp [intOf]; omega
        · obtain ⟨q, hq, hqe, _⟩ := ht.pos hp hn
          rw [hqe, ptr_nat] at hcT
          have hF2 : Hid (Failed l r i t (j + 1)) := Failed.succ hF.out hhome (fun h => absurd h hn)
          clear hn hqe
          go_wp2
          go_roundw
          case rel => exact ⟨j + 1, by omega, by go_num, hF2, hb, hC⟩
          case measure => simp [intOf]; omega
      · have hjc : j = c := by omega
        have hall : plc l (r + 1) i t = none := Failed.all (by rw [← HX.out, ← HY.out, ← HC.out, ← hjc]; exact hF.out)
        have HA := Lib.hid hall
        clear hall
        subst hjc
        go_wp2
        go_ret2
        refine ⟨?_, hb⟩
        rw [HR.out, HA.out]
        exact rfl

theorem KF.mono {w : World} {base base' : Nat} {l : List (Int × Int)} {n : Nat} {ka : Nat → Nat} (h : KF w base l n ka) (hb : base' ≤ base) : KF w base' l n ka := fun k hk => ⟨Nat.le_trans hb (h k hk).1, (h k hk).2⟩

set_option maxHeartbeats 4000000 in
set_option maxRecDepth 100000 in
theorem implPlaceAll_yes (M : Nat) (a : Option Addr) (l : List (Int × Int)) (cap : Nat) (w : World) (hr : ReadsP w a l) (hP : Prs M l) (R : Option (List Int)) (hR : pla M l = R) :
    Calls Try.prog 42 #[.int .i64 M, .slice a l.length cap] w fun e w' => ∃ v, e = .returned (.tuple #[v, .bool R.isSome]) ∧ Own w' w.heap.size v (R.getD []) ∧ Below w.heap.size w w' := by
  have hM := hP.le
  have hM1 := hP.pos
  have hlen := hP.len
  have hvp := hP.VP
  have HV := Lib.hid hvp
  clear hvp
  have hmk := run_make_row' (P := Try.prog) 92 98 (.pointer none) 8 Try.underlying92 infoPtr rfl .i64 .i64 M (by omega) (by omega)
  unfold pla at hR
  have HR := Lib.hid hR
  clear hR
  go_enter Try.func42, Try.ntmps42
  go_wp2_with fail
  refine (implVP_any _ _ _ _ _ hr).mono ?_
  rintro e w0 ⟨rfl, hb0⟩
  rw [HV.out]
  have hs0 := hb0.size
  have hr0 := hr.below hb0
  go_upto_region 3 with fail
  go_cut [6, 7] (fun s6 s7 wx => ∃ (ka : Nat → Nat), KF wx w.heap.size l l.length ka ∧ Below w.heap.size w wx ∧ (match R with
    | some r => ∃ g c, s6 = .slice (some ⟨g, 0, none⟩) M c ∧ s7 = .bool true ∧ PT wx w.heap.size g M c r ka
    | none => s6 = .slice none 0 0 ∧ s7 = .bool false))
  case first =>
    cases R with
    | none =>
      go_region_with (first
        | (go_at_call 93; refine (keysOf_any _ l _ _ (by first | exact hr0 | exact hr0.below ((Below.refl _ _).alloc (Nat.le_refl _) _)) hlen).mono ?_; rintro e w1 ⟨ka, gk, rfl, hK, hS, hb1⟩)
        | (go_at_call 92; refine (placeKeys_any M l hP ka _ w.heap.size l.length 0 (by omega) _ M _ (List.replicate M (-1)) _ (by first | exact (PT.zero w0 w.heap.size M ka hs0 (by omega)).below hb1 | exact PT.zero w1 w.heap.size M ka (by have := hb1.size; simp at this; omega) (by omega)) (Tbl.empty M l) (by first | exact hK | exact hK.below ((Below.refl _ _).alloc (Nat.le_refl _) _)) (by first | exact hS | exact hS.below ((Below.refl _ _).alloc (Nat.le_refl _) _)) (by have := hb1.size; simp at this ⊢; omega)).mono ?_; rw [HR.out]; rintro e w2 ⟨rfl, hb2⟩))
      all_goals
        have hB1 : Below w.heap.size w w1 := by
          first
            | exact (hb0.drew).trans (hb1.mono hs0)
            | exact ((hb0.alloc hs0 (.cells (madeCells #[.pointer none] M) 98)).drew).trans (hb1.mono (show w.heap.size ≤ _ by simp; omega))
        have hB2 : Below w.heap.size w w2 := by
          first
            | exact hB1.trans (hb2.mono hB1.size)
            | exact (hB1.alloc hB1.size (.cells (madeCells #[.pointer none] M) 98)).trans (hb2.mono (show w.heap.size ≤ _ by have := hB1.size; simp; omega))
        have hK2 : KF w2 w.heap.size l l.length ka := by
          first
            | exact KF.mono (hK.below hb2) hs0
            | exact KF.mono (hK.below hb2) (show w.heap.size ≤ _ by simp; omega)
            | exact KF.mono ((hK.below ((Below.refl _ _).alloc (Nat.le_refl _) (.cells (madeCells #[.pointer none] M) 98))).below hb2) hs0
        go_wp2_with fail
        go_meet
        exact ⟨ka, hK2, hB2, rfl, rfl⟩
    | some r =>
      go_region_with (first
        | (go_at_call 93; refine (keysOf_any _ l _ _ (by first | exact hr0 | exact hr0.below ((Below.refl _ _).alloc (Nat.le_refl _) _)) hlen).mono ?_; rintro e w1 ⟨ka, gk, rfl, hK, hS, hb1⟩)
        | (go_at_call 92; refine (placeKeys_any M l hP ka _ w.heap.size l.length 0 (by omega) _ M _ (List.replicate M (-1)) _ (by first | exact (PT.zero w0 w.heap.size M ka hs0 (by omega)).below hb1 | exact PT.zero w1 w.heap.size M ka (by have := hb1.size; simp at this; omega) (by omega)) (Tbl.empty M l) (by first | exact hK | exact hK.below ((Below.refl _ _).alloc (Nat.le_refl _) _)) (by first | exact hS | exact hS.below ((Below.refl _ _).alloc (Nat.le_refl _) _)) (by have := hb1.size; simp at this ⊢; omega)).mono ?_; rw [HR.out]; rintro e w2 ⟨⟨g2, c2, rfl, hT2⟩, hb2⟩))
      all_goals
        have hB1 : Below w.heap.size w w1 := by
          first
            | exact (hb0.drew).trans (hb1.mono hs0)
            | exact ((hb0.alloc hs0 (.cells (madeCells #[.pointer none] M) 98)).drew).trans (hb1.mono (show w.heap.size ≤ _ by simp; omega))
        have hB2 : Below w.heap.size w w2 := by
          first
            | exact hB1.trans (hb2.mono hB1.size)
            | exact (hB1.alloc hB1.size (.cells (madeCells #[.pointer none] M) 98)).trans (hb2.mono (show w.heap.size ≤ _ by have := hB1.size; simp; omega))
        have hK2 : KF w2 w.heap.size l l.length ka := by
          first
            | exact KF.mono (hK.below hb2) hs0
            | exact KF.mono (hK.below hb2) (show w.heap.size ≤ _ by simp; omega)
            | exact KF.mono ((hK.below ((Below.refl _ _).alloc (Nat.le_refl _) (.cells (madeCells #[.pointer none] M) 98))).below hb2) hs0
        go_wp2_with fail
        go_meet
        exact ⟨ka, hK2, hB2, g2, c2, rfl, rfl, hT2⟩
  case rest =>
    obtain ⟨ka, hK, hb, hcase⟩ := hcut
    clear hb0 hs0 hr0 hmk
    cases R with
    | none =>
      obtain ⟨rfl, rfl⟩ := hcase
      go_wp2
      go_ret2
      exact ⟨_, rfl, Own.nil _ _, hb⟩
    | some r =>
      obtain ⟨g, c, rfl, rfl, hT⟩ := hcase
      have ht := pla_tbl hP (show pla M l = some r from HR.out)
      go_wp2_with fail
      refine (numbersOf_any w.heap.size g M c w.heap.size l.length r ka l _ hT hK (by omega) (fun s hs => ?_)).mono ?_
      · rcases ht.key s hs with h | ⟨k, h1, h2, _⟩
        · exact .inl h
        · exact .inr ⟨k, h1, h2⟩
      rintro e w3 ⟨v, rfl, ho, hb3⟩
      go_wp2
      go_ret2
      exact ⟨_, rfl, ho.mono hb.size, hb.trans (hb3.mono hb.size)⟩

theorem implPlaceAll_any (m : Int) (a : Option Addr) (l : List (Int × Int)) (cap : Nat) (w : World) (hm : In64 m) (hr : ReadsP w a l) (_hl : l.length ≤ 1048586) :
    Calls Try.prog 42 #[.int .i64 m, .slice a l.length cap] w fun e w' => ∃ v, e = .returned (.tuple #[v, .bool (PL m l).2]) ∧ Own w' w.heap.size v (PL m l).1 ∧ Below w.heap.size w w' := by
  by_cases hv : VP m l = true
  · obtain ⟨M, rfl, hP⟩ := Prs.of_VP hv
    have e : PL M l = ((pla M l).getD [], (pla M l).isSome) := by
      unfold PL
      rw [if_pos hv]
      show (match pla M l with | some r => (r, true) | none => ([], false)) = _
      cases pla M l <;> rfl
    rw [e]
    exact implPlaceAll_yes M a l cap w hr hP _ rfl
  · have hv' : VP m l = false := by simpa using hv
    have e : PL m l = ([], false) := by unfold PL; rw [if_neg hv]
    rw [e]
    clear hv e
    have HV := Lib.hid hv'
    clear hv'
    go_enter Try.func42, Try.ntmps42
    go_wp2_with fail
    refine (implVP_any _ _ _ _ _ hr).mono ?_
    rintro e w0 ⟨rfl, hb0⟩
    rw [HV.out]
    go_wp2
    go_ret2
    exact ⟨_, rfl, Own.nil _ _, hb0⟩
end Go.Proofs.Ytlkhobofbkoliaa
