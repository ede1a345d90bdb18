/-
  spec.placeFrom, spec.PlaceAll.
-/
import Derived.Test.YtlkhobofbkoliaaPd
import Derived.Test.YtlkhobofbkoliaaG3
import Derived.Test.YtlkhobofbkoliaaS1
import Derived.Test.YtlkhobofbkoliaaDup
import Derived.Test.YtlkhobofbkoliaaQp
namespace Go.Proofs.Ytlkhobofbkoliaa
open Go.RowKit

def PFPost (M : Nat) (base : Nat) (w : World) (R : Option (List Int)) (e : Ending) (w' : World) : Prop :=
  (match R with
   | some r => ∃ g cap, e = .returned (.tuple #[.slice (some ⟨g, 0, none⟩) M cap, .bool true]) ∧ Tab w' base g M cap r
   | none => e = .returned (.tuple #[.slice none 0 0, .bool false])) ∧ Below w.heap.size w w'
/-- The first j homes have failed. -/
def FailS (l : List (Int × Int)) (r i : Nat) (t : List Int) (j : Nat) : Prop :=
  (1 ≤ j → t.getD (hA l i) 0 < 0 → plc l r (i + 1) (t.set (hA l i) i) = none) ∧ (2 ≤ j → t.getD (hB l i) 0 < 0 ∧ pA l i ≠ pB l i → plc l r (i + 1) (t.set (hB l i) i) = none)
theorem FailS.all {l : List (Int × Int)} {r i : Nat} {t : List Int} (h : FailS l r i t 2) : plc l (r + 1) i t = none := by
  rw [plc_notA (h.1 (by omega))]
  split
  · rename_i hh; exact h.2 (Nat.le_refl _) hh
  · rfl

set_option maxHeartbeats 4000000 in
set_option maxRecDepth 100000 in
theorem placeFrom_any (M : Nat) (l : List (Int × Int)) (hP : Prs M l) (base : Nat) (a : Option Addr) (capl : Nat) : ∀ (rem i : Nat), i + rem = l.length → ∀ (g cap : Nat) (t : List Int) (w : World), ReadsP w a l → Tab w base g M cap t → Tbl M l t → base ≤ w.heap.size →
    Calls Try.prog 95 #[.slice a l.length capl, .int .i64 i, .slice (some ⟨g, 0, none⟩) M cap] w (PFPost M base w (plc l rem i t)) := by
  intro rem
  induction rem with
  | zero =>
    intro i hi g cap t w hr hT ht hbase
    have h1 : ((i : Int) == (l.length : Int)) = true := by simp; omega
    clear hi
    go_enter Try.func95, Try.ntmps95
    go_wp2
    go_ret2
    exact ⟨⟨g, cap, rfl, hT⟩, Below.refl _ _⟩
  | succ r ih =>
    intro i hi g cap t w hr hT ht hbase
    have hil : i < l.length := by omega
    have hM := hP.le
    have hM1 := hP.pos
    have hlen := hP.len
    have hne : ((i : Int) == (l.length : Int)) = false := by simp; omega
    have hbl := hT.block
    have htl := hT.len
    obtain ⟨b, off, x, y, rfl, hbb, hcx, hcy, hx, hy⟩ := hr.get hil
    have fx := hP.cA hil
    have fy := hP.cB hil
    have lx := hP.lA hil
    have ly := hP.lB hil
    have hAB : ((hA l i : Int) = (hB l i : Int)) ↔ pA l i = pB l i := by rw [fx, fy]
    obtain ⟨p, hp⟩ : ∃ p, p = hA l i := ⟨_, rfl⟩
    obtain ⟨q, hq⟩ : ∃ q, q = hB l i := ⟨_, rfl⟩
    rw [hx.out, ← hp] at fx
    rw [hy.out, ← hq] at fy
    rw [← hp] at lx
    rw [← hq] at ly
    have HP := Lib.hid hp
    have HQ := Lib.hid hq
    have HAB := Lib.hid hAB
    have HTL := Lib.hid htl
    clear hp hq hx hy hAB htl
    subst fx fy
    obtain ⟨u, hcu, hu⟩ := hT.get lx
    obtain ⟨v, hcv, hv⟩ := hT.get ly
    obtain ⟨R, hR⟩ : ∃ R, R = plc l (r + 1) i t := ⟨_, rfl⟩
    rw [← hR]
    have HR := Lib.hid hR
    have HI := Lib.hid hi
    clear hR hi
    go_enter Try.func95, Try.ntmps95
    go_wp2
    go_loopw [8] (fun s wr => ∃ j : Nat, j ≤ 2 ∧ s = .int .i64 j ∧ Hid (FailS l r i t j) ∧ Below w.heap.size w wr) (fun s _ => 2 - (intOf s).toNat)
    case atStart => exact ⟨0, by omega, rfl, ⟨fun h => by omega, fun h => by omega⟩, Below.refl _ _⟩
    case round =>
      obtain ⟨j, hj, rfl, hF, hb⟩ := hrel
      have hsz := hb.size
      have c1 : wr.cell? ⟨b, off + i * 2, none⟩ = some (.int .i64 p) := (hb.cell (by exact hbb)).trans hcx
      have c2 : wr.cell? ⟨b, off + i * 2 + 1, none⟩ = some (.int .i64 q) := (hb.cell (by exact hbb)).trans hcy
      have c3 : wr.cell? ⟨g, p, none⟩ = some (.int .i64 u) := (hb.cell (by exact hbl.2)).trans hcu
      have c4 : wr.cell? ⟨g, q, none⟩ = some (.int .i64 v) := (hb.cell (by exact hbl.2)).trans hcv
      have hTr := hT.below hb
      have hrr := hr.below hb
      have hj3 : j = 0 ∨ j = 1 ∨ j = 2 := by omega
      rcases hj3 with rfl | rfl | rfl
      · by_cases hn : 0 ≤ u
        · have hd : decide (0 ≤ u) = true := by simp [hn]
          have hF2 : Hid (FailS l r i t 1) := ⟨fun _ h => by rw [← HP.out, hu.out] at h; omega, fun h => by omega⟩
          go_wp2
          go_quiet (fail)
          go_wp2
          go_roundw
          case rel => exact ⟨1, by omega, by go_num, hF2, below_drewN hb _⟩
          case measure => simp [intOf]
        · have hd : decide (0 ≤ u) = false := by simpa using hn
          go_wp2
          go_quiet (fail)
          go_wp2_with (at_builtin; refine dup_int rfl _ _ rfl (some ⟨g, 0, none⟩) t M cap HTL.out rfl rfl hTr.reads (by omega) (by omega) ?_)
          intro v' w2 ho2 hb2
          obtain ⟨g2, cap2, rfl, hT2⟩ := ho2.tab (by rw [HTL.out]; omega)
          rw [HTL.out] at hT2 ⊢
          have hz2 := hT2.block
          have hb3 : Below w.heap.size w w2 := (below_drewN hb _).trans (hb2.mono (show w.heap.size ≤ _ from hsz))
          have hgs : wr.heap.size ≤ g2 := hz2.1
          obtain ⟨z2, hc2, _⟩ := hT2.get lx
          have hfz := hT2.frozen p
          have hst := hT2.store p i
          have hb4 := hb3.setCell (p := ⟨g2, p, none⟩) (show w.heap.size ≤ g2 by omega) (.int .i64 i)
          have hrr2 := hr.below hb4
          have hbs := hb4.size
          clear hT2 ho2 hb2 hb3 hTr hrr c1 c2 c3 c4 hb
          go_wp2_with fail
          refine (ih (i + 1) (by have := HI.out; omega) g2 cap2 (t.set p i) _ hrr2 (hst.mono (show base ≤ wr.heap.size by omega)) (ht.put lx hil (.inl HP.out)) (by omega)).mono ?_
          rintro e w4 ⟨hR4, hb5⟩
          have hb6 : Below w.heap.size w w4 := hb4.trans (hb5.mono hbs)
          clear hb4 hb5 hst hrr2
          cases hRR : plc l r (i + 1) (t.set p i) with
          | some z =>
            rw [hRR] at hR4
            obtain ⟨g', cap', rfl, hT'⟩ := hR4
            have hfound : plc l (r + 1) i t = some z := plc_A (by rw [← HP.out, hu.out]; omega) (by rw [← HP.out]; exact hRR)
            have HFD := Lib.hid hfound
            clear hRR hfound
            go_wp2
            go_ret2
            refine ⟨?_, hb6⟩
            rw [HR.out, HFD.out]
            exact ⟨g', cap', rfl, hT'⟩
          | none =>
            rw [hRR] at hR4
            obtain rfl := hR4
            have hF2 : Hid (FailS l r i t 1) := ⟨fun _ _ => by rw [← HP.out]; exact hRR, fun h => by omega⟩
            clear hRR
            go_wp2
            go_roundw
            case rel => exact ⟨1, by omega, by go_num, hF2, hb6⟩
            case measure => simp [intOf]
      · by_cases hn : 0 ≤ v
        · have hd : decide (0 ≤ v) = true := by simp [hn]
          have hF2 : Hid (FailS l r i t 2) := ⟨fun _ => hF.out.1 (Nat.le_refl _), fun _ h => by rw [← HQ.out, hv.out] at h; omega⟩
          go_wp2
          go_quiet (fail)
          go_wp2
          go_roundw
          case rel => exact ⟨2, by omega, by go_num, hF2, below_drewN hb _⟩
          case measure => simp [intOf]
        · have hd : decide (0 ≤ v) = false := by simpa using hn
          by_cases hpq : p = q
          · have hd2 : ((p : Int) == (q : Int)) = true := by simp [hpq]
            have hF2 : Hid (FailS l r i t 2) := ⟨fun _ => hF.out.1 (Nat.le_refl _), fun _ h => absurd (HAB.out.1 (by rw [← HP.out, ← HQ.out, hpq])) h.2⟩
            clear hpq
            go_wp2
            go_quiet (fail)
            go_wp2
            go_roundw
            case rel => exact ⟨2, by omega, by go_num, hF2, below_drewN hb _⟩
            case measure => simp [intOf]
          · have hd2 : ((p : Int) == (q : Int)) = false := by simp; omega
            have hNE : Hid (pA l i ≠ pB l i) := fun h => hpq (by have := HAB.out.2 h; rw [← HP.out, ← HQ.out] at this; omega)
            go_wp2
            go_quiet (fail)
            go_wp2_with (at_builtin; refine dup_int rfl _ _ rfl (some ⟨g, 0, none⟩) t M cap HTL.out rfl rfl hTr.reads (by omega) (by omega) ?_)
            intro v' w2 ho2 hb2
            obtain ⟨g2, cap2, rfl, hT2⟩ := ho2.tab (by rw [HTL.out]; omega)
            rw [HTL.out] at hT2 ⊢
            have hz2 := hT2.block
            have hb3 : Below w.heap.size w w2 := (below_drewN hb _).trans (hb2.mono (show w.heap.size ≤ _ from hsz))
            have hgs : wr.heap.size ≤ g2 := hz2.1
            obtain ⟨z2, hc2, _⟩ := hT2.get ly
            have hfz := hT2.frozen q
            have hst := hT2.store q i
            have hb4 := hb3.setCell (p := ⟨g2, q, none⟩) (show w.heap.size ≤ g2 by omega) (.int .i64 i)
            have hrr2 := hr.below hb4
            have hbs := hb4.size
            clear hT2 ho2 hb2 hb3 hTr hrr c1 c2 c3 c4 hb
            go_wp2_with fail
            refine (ih (i + 1) (by have := HI.out; omega) g2 cap2 (t.set q i) _ hrr2 (hst.mono (show base ≤ wr.heap.size by omega)) (ht.put ly hil (.inr HQ.out)) (by omega)).mono ?_
            rintro e w4 ⟨hR4, hb5⟩
            have hb6 : Below w.heap.size w w4 := hb4.trans (hb5.mono hbs)
            clear hb4 hb5 hst hrr2
            cases hRR : plc l r (i + 1) (t.set q i) with
            | some z =>
              rw [hRR] at hR4
              obtain ⟨g', cap', rfl, hT'⟩ := hR4
              have hfound : plc l (r + 1) i t = some z := by rw [plc_notA (hF.out.1 (by omega)), if_pos ⟨by rw [← HQ.out, hv.out]; omega, hNE.out⟩, ← HQ.out]; exact hRR
              have HFD := Lib.hid hfound
              clear hRR hfound
              go_wp2
              go_ret2
              refine ⟨?_, hb6⟩
              rw [HR.out, HFD.out]
              exact ⟨g', cap', rfl, hT'⟩
            | none =>
              rw [hRR] at hR4
              obtain rfl := hR4
              have hF2 : Hid (FailS l r i t 2) := ⟨fun _ => hF.out.1 (Nat.le_refl _), fun _ _ => by rw [← HQ.out]; exact hRR⟩
              clear hRR
              go_wp2
              go_roundw
              case rel => exact ⟨2, by omega, by go_num, hF2, hb6⟩
              case measure => simp [intOf]
      · have hall := FailS.all hF.out
        have HA := Lib.hid hall
        clear hall
        go_wp2
        go_ret2
        refine ⟨?_, hb⟩
        rw [HR.out, HA.out]
        exact rfl

theorem specPlaceAll_any (m : Int) (a : Option Addr) (l : List (Int × Int)) (cap : Nat) (w : World) (hm : In64 m) (hr : ReadsP w a l) (hl : l.length ≤ 1048586) :
    Calls Try.prog 44 #[.int .i64 m, .slice a l.length cap] w fun e w' => ∃ v, e = .returned (.tuple #[v, .bool (PL m l).2]) ∧ Own w' w.heap.size v (PL m l).1 ∧ Below w.heap.size w w' := by
  by_cases hv : VP m l = true
  · obtain ⟨M, rfl, hP⟩ := Prs.of_VP hv
    have hM := hP.le
    have hM1 := hP.pos
    have e : PL M l = ((pla M l).getD [], (pla M l).isSome) := by
      unfold PL
      rw [if_pos hv]
      show (match pla M l with | some r => (r, true) | none => ([], false)) = _
      cases pla M l <;> rfl
    rw [e]
    obtain ⟨R, hR⟩ : ∃ R, R = pla M l := ⟨_, rfl⟩
    rw [← hR]
    have HR := Lib.hid hR
    have HV := Lib.hid hv
    clear hv e hR
    go_enter Try.func44, Try.ntmps44
    go_wp2_with fail
    refine (specvalidPairs_any _ _ _ _ _ hr hm hl).mono ?_
    rintro e w0 ⟨rfl, rfl⟩
    rw [HV.out]
    go_wp2_with fail
    refine (empty_any M (by omega) _).mono ?_
    rintro e w1 ⟨v, rfl, ho, hb1⟩
    obtain ⟨g, cap', rfl, hT⟩ := ho.tab (by simp; omega)
    rw [List.length_replicate] at hT ⊢
    have hz := hb1.size
    have hr1 := hr.below hb1
    go_wp2_with fail
    refine (placeFrom_any M l hP w.heap.size a cap l.length 0 (by omega) g cap' _ _ hr1 hT (Tbl.empty M l) hz).mono ?_
    rintro e w2 ⟨hR, hb2⟩
    have e : plc l l.length 0 (List.replicate M (-1)) = R := HR.out.symm
    rw [e] at hR
    have hb3 := hb1.trans (hb2.mono hz)
    clear e
    cases R with
    | some r =>
      obtain ⟨g', c', rfl, hT'⟩ := hR
      go_wp2
      go_ret2
      exact ⟨_, rfl, hT'.own, hb3⟩
    | none =>
      obtain rfl := hR
      go_wp2
      go_ret2
      exact ⟨_, rfl, Own.nil _ _, hb3⟩
  · have hv' : VP m l = false := by simpa using hv
    have e : PL m l = ([], false) := by unfold PL; rw [if_neg hv]
    rw [e]
    clear hv e
    have HV := Lib.hid hv'
    clear hv'
    go_enter Try.func44, Try.ntmps44
    go_wp2_with fail
    refine (specvalidPairs_any _ _ _ _ _ hr hm hl).mono ?_
    rintro e w0 ⟨rfl, rfl⟩
    rw [HV.out]
    go_wp2
    go_ret2
    exact ⟨_, rfl, Own.nil _ _, Below.refl _ _⟩
end Go.Proofs.Ytlkhobofbkoliaa
