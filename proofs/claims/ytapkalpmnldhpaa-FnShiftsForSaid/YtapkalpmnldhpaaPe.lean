/-
  spec.shiftFrom.
-/
import Derived.Test.YtapkalpmnldhpaaBS
import Derived.Test.YtapkalpmnldhpaaHd
import Derived.Test.YtapkalpmnldhpaaW1
namespace Go.Proofs.Ytapkalpmnldhpaa
open Go.RowKit

/-- The numbers 0 .. n - 1. -/
def ordL (n : Nat) : List Int := (List.range n).map Int.ofNat
theorem ordL_len (n : Nat) : (ordL n).length = n := by simp [ordL]
theorem ordL_get {n i : Nat} (h : i < n) : (ordL n).getD i 0 = (i : Int) := by simp [ordL, List.getD, h]
theorem ordL_push (n : Nat) : ordL (n + 1) = ordL n ++ [(n : Int)] := by simp [ordL, List.range_succ]
theorem drop_tr {ts : List (List Int)} {i : Nat} (h : i < ts.length) : ts.drop i = tr ts i :: ts.drop (i + 1) := by
  rw [List.drop_eq_getElem_cons h, tr_eq h]
/-- The list that is returned. -/
def resL (O : List Int) (i : Nat) : Option (List Int) → List Int
  | some r => O.take i ++ r
  | none => []
theorem resL_step {O : List Int} {i : Nat} (h : i < O.length) (d : Int) (r : List Int) : resL (O.set i d) (i + 1) (some r) = resL O i (some (d :: r)) := by
  unfold resL
  rw [List.take_succ_eq_append_getElem (by simpa using h), List.take_set_of_le (Nat.le_refl _)]
  simp
/-- An empty bucket that does not go with one shift goes with none. -/
theorem firstN_nil {M : Nat} {bs : List (List Int)} {T : List Bool} (h : shf M bs T = none) : shf M ([] :: bs) T = none := by
  rw [shf_cons]
  refine firstN_none fun i _ => ?_
  rw [shs_nil, h]; rfl

set_option maxHeartbeats 8000000 in
set_option maxRecDepth 20000 in
theorem shiftFrom_any (M : Nat) (h1 : 1 ≤ M) (h2 : M ≤ 10) (ts : List (List Int)) (hn4 : ts.length ≤ 4) (hF : Fine M ts) (a : Option Addr) (cap : Nat) (ao : Option Addr) (capo : Nat) : ∀ (d i : Nat) (gu cu zu : Nat) (T : List Bool) (zo : Nat) (vo : Value) (O : List Int) (w : World), i + d = ts.length → ReadsS w a ts → Reads w ao (ordL ts.length) → TabB w zu gu M cu T → Own w zo vo O → O.length = ts.length → zo ≤ w.heap.size →
    Calls Try.prog 70 #[.int .i64 M, .slice a ts.length cap, .slice ao ts.length capo, .int .i64 i, .slice (some ⟨gu, 0, none⟩) M cu, vo] w fun e w' => ∃ v, e = .returned (.tuple #[v, .bool (shf M (ts.drop i) T).isSome]) ∧ Own w' zo v (resL O i (shf M (ts.drop i) T)) ∧ Below w.heap.size w w' := by
  intro d
  induction d with
  | zero =>
    intro i gu cu zu T zo vo O w hi hr hro hT hO hOl hzo
    obtain rfl : i = ts.length := by omega
    have e : shf M (ts.drop ts.length) T = some [] := by rw [List.drop_length]; rfl
    rw [e]
    have hO2 : Own w zo vo (resL O ts.length (some [])) := by
      have e2 : resL O ts.length (some []) = O := by
        show O.take ts.length ++ [] = O
        rw [List.append_nil, ← hOl, List.take_length]
      rw [e2]; exact hO
    clear e hF
    go_enter Try.func70, Try.ntmps70
    go_wp2
    go_ret2
    exact ⟨vo, rfl, hO2, Below.refl _ _⟩
  | succ d ih =>
    intro i gu cu zu T zo vo O w hi hr hro hT hO hOl hzo
    have hlt : i < ts.length := by omega
    obtain ⟨go, co, rfl, hTo⟩ := hO.tab (by omega)
    rw [hOl] at hTo ⊢
    obtain ⟨b, off, A, C, rfl, hbb, hc, hrow, hrc⟩ := hr.get hlt
    obtain ⟨bo, offo, _, rfl, hbo, hco, hco2⟩ := hro.get (k := i) (by rw [ordL_len]; exact hlt)
    rw [ordL_get hlt] at hco2
    obtain ⟨x, hx⟩ : ∃ x, x = tr ts i := ⟨_, rfl⟩
    rw [← hx] at hc hrow hrc
    obtain ⟨f1, f2⟩ := hF i hlt
    rw [← hx] at f1 f2
    have HFI := Lib.hid f2
    obtain ⟨bs, hbs⟩ : ∃ bs, bs = ts.drop (i + 1) := ⟨_, rfl⟩
    have hD : shf M (ts.drop i) T = firstN (shs M x bs T) M := by rw [drop_tr hlt, ← hx, ← hbs]; rfl
    have HD := Lib.hid hD
    obtain ⟨R, hR⟩ : ∃ R, R = shf M (ts.drop i) T := ⟨_, rfl⟩
    rw [← hR]
    have HR := Lib.hid hR
    have HIH := Lib.hid ih
    have HRS := Lib.hid hr
    have HRO := Lib.hid hro
    have HT := Lib.hid hT
    have HTO := Lib.hid hTo
    have HOL := Lib.hid hOl
    have HBS := Lib.hid hbs
    have HI := Lib.hid hi
    have hne : ((i : Int) == (ts.length : Int)) = false := by simp; omega
    have hi1 : (i : Int) < (ts.length : Int) := by omega
    have hwr : IntKind.i64.wrap ((i : Int) + 1) = ((i + 1 : Nat) : Int) := by rw [Int.natCast_add]; exact IntWalk.i64_in _ (by omega)
    have hTlen := hT.len
    have HTL := Lib.hid hTlen
    clear hF ih hr hro hT hTo hOl hD hR hO hx f2 hbs hi hTlen
    have hci := hco2.out
    subst hci
    clear hco2
    go_enter Try.func70, Try.ntmps70
    go_wp2_with fail
    go_loopw [15] (fun iv wr => ∃ s : Nat, s ≤ M ∧ iv = .int .i64 s ∧ Hid (∀ q, q < s → shs M x bs T q = none) ∧ Below w.heap.size w wr) (fun iv _ => M - (intOf iv).toNat)
    case atStart => exact ⟨0, Nat.zero_le _, rfl, fun q hq => by omega, Below.refl _ _⟩
    case round =>
      clear hc
      obtain ⟨s, hs, rfl, hno, hB⟩ := hrel
      have hzB := hB.size
      by_cases hsl : s < M
      · have hTr := HT.out.below hB
        go_wp2_with (at_builtin; refine copy_bool rfl _ _ rfl zu gu M cu T rfl rfl hTr (by omega) (by omega) ?_)
        intro v1 w1 ho1 hb1
        obtain ⟨gn, cn, rfl, hN⟩ := ho1.tab (by rw [HTL.out]; omega)
        rw [HTL.out] at hN ⊢
        obtain ⟨z, hz⟩ : ∃ z, z = wr.heap.size := ⟨_, rfl⟩
        rw [← hz] at hN hb1 hzB
        have hB1 := hB.trans (hb1.mono hzB)
        clear ho1 hTr hB hb1 hz
        go_wp2_with fail
        go_loopw [17, 18] (fun ov kv wk => ∃ (k : Nat) (okb : Bool), k ≤ x.length ∧ kv = .int .i64 k ∧ ov = .bool okb ∧ Hid (okb = true → fits M s x T k) ∧ Hid (okb = false → tryS M s x T = none) ∧ TabB wk z gn M cn (tkS M s x T k) ∧ Below w.heap.size w wk) (fun _ kv _ => x.length - (intOf kv).toNat)
        case atStart => exact ⟨0, true, Nat.zero_le _, rfl, rfl, (fun _ i hi => by omega), (fun h => by cases h), hN, hB1⟩
        case round =>
          clear hN hB1
          obtain ⟨k, okb, hk, rfl, rfl, hfit, hbad, hX, hB⟩ := hrel
          cases okb with
          | false =>
            have hno2 : ∀ q, q < s + 1 → shs M x bs T q = none := by
              intro q hq
              by_cases e : q < s
              · exact hno.out q e
              · obtain rfl : q = s := by omega
                exact shs_no (hbad.out rfl)
            have HNO := Lib.hid hno2
            clear hno2
            by_cases hk2 : k < x.length
            · go_wp2
              go_roundw
              case rel => exact ⟨s + 1, by omega, by go_num, HNO, hB⟩
              case measure => simp [intOf]; omega
            · go_wp2
              go_roundw
              case rel => exact ⟨s + 1, by omega, by go_num, HNO, hB⟩
              case measure => simp [intOf]; omega
          | true =>
            by_cases hk2 : k < x.length
            · obtain ⟨bb, offx, y, rfl, hbx, hcell, hy⟩ := hrow.get hk2
              have hc1 : wr.cell? ⟨bb, offx + k, none⟩ = some (.int .i64 y) := (hB.cell (by exact hbx)).trans hcell
              have hyf := HFI.out k hk2
              rw [hy.out] at hyf
              have hk1 : (k : Int) < (x.length : Int) := by omega
              obtain ⟨p, hp⟩ : ∃ p, p = pos M s y := ⟨_, rfl⟩
              have hpM : p < M := by rw [hp]; exact pos_lt (by omega)
              have hpc : (y + (s : Int)) % (M : Int) = (p : Int) := by rw [hp, pos_cast (by omega)]
              have hpc2 : (y + (s : Int)).tmod (M : Int) = (p : Int) := by rw [Int.tmod_eq_emod_of_nonneg (by omega)]; exact hpc
              have hneM : ((M : Int) == 0) = false := by simp; omega
              obtain ⟨q, hcq, hq⟩ := hX.get (k := p) (by omega)
              have hfz := hX.frozen p
              have HP : Hid (pos M s (x.getD k 0) = p) := by show pos M s (x.getD k 0) = p; rw [hy.out, hp]
              have hst := hX.store p true
              have hst2 : TabB (wr.setCell ⟨gn, p, none⟩ (.bool true)) z gn M cn (tkS M s x T (k + 1)) := by rw [tkS, HP.out]; exact hst
              have hgn : z ≤ gn := hX.block.1
              have hB2 := hB.setCell (p := ⟨gn, p, none⟩) (Nat.le_trans hzB hgn) (.bool true)
              clear hp hcell hy hst hX hB
              cases q with
              | true =>
                have HBD : Hid (tryS M s x T = none) := tryS_no (m := M) (s := s) (T := T) hk2 (by rw [HP.out]; exact hq.out)
                go_wp2
                go_roundw
                case rel => exact ⟨k + 1, false, by omega, by go_num, rfl, (fun h => by cases h), (fun _ => HBD.out), hst2, hB2⟩
                case measure => simp [intOf]; omega
              | false =>
                have HFT : Hid (fits M s x T (k + 1)) := fits_succ (hfit.out rfl) (by rw [HP.out]; exact hq.out)
                go_wp2
                go_roundw
                case rel => exact ⟨k + 1, true, by omega, by go_num, rfl, (fun _ => HFT.out), (fun h => by cases h), hst2, hB2⟩
                case measure => simp [intOf]; omega
            · obtain rfl : k = x.length := by omega
              have htry := tryS_yes (hfit.out rfl)
              have HTRY := Lib.hid htry
              clear htry hbad hfit
              obtain ⟨T', hT'⟩ : ∃ T', T' = tkS M s x T x.length := ⟨_, rfl⟩
              rw [← hT'] at hX
              have HT' := Lib.hid hT'
              clear hT'
              have hTo := HTO.out.below hB
              go_wp2_with (at_builtin; refine copy_int rfl _ _ rfl zo go ts.length co O rfl rfl hTo (by omega) (by omega) ?_)
              intro v3 w3 ho3 hb3
              obtain ⟨gs, cs, rfl, hS⟩ := ho3.tab (by rw [HOL.out]; omega)
              rw [HOL.out] at hS ⊢
              have hzr := hB.size
              have hgs := hS.block
              have hB3 := hB.trans (hb3.mono hzr)
              have hco3 : w3.cell? ⟨bo, offo + i, none⟩ = some (.int .i64 (i : Int)) := (hB3.cell (by exact hbo)).trans hco
              obtain ⟨qv, hcq, _⟩ := hS.get (k := i) hlt
              have hfz := hS.frozen i
              have hS2 := hS.store i (s : Int)
              have hb4 := hb3.setCell (p := ⟨gs, i, none⟩) hgs.1 (.int .i64 (s : Int))
              have hB4 := hB.trans (hb4.mono hzr)
              have hX4 := hX.below hb4
              have hz4 := hB4.size
              have hcall := HIH.out (i + 1) gn cn z T' wr.heap.size (.slice (some ⟨gs, 0, none⟩) ts.length cs) (O.set i (s : Int)) (w3.setCell ⟨gs, i, none⟩ (.int .i64 (s : Int))) (by have := HI.out; omega) (HRS.out.below hB4) (HRO.out.below hB4) hX4 hS2.own (by simp [HOL.out]) hb4.size
              rw [← HBS.out] at hcall
              have hres : ∀ r, resL (O.set i (s : Int)) (i + 1) (some r) = resL O i (some ((s : Int) :: r)) := fun r => resL_step (by rw [HOL.out]; exact hlt) _ r
              have htry : tryS M s x T = some T' := by rw [HT'.out]; exact HTRY.out
              obtain ⟨o, ho⟩ : ∃ o, o = shf M bs T' := ⟨_, rfl⟩
              rw [← ho] at hcall
              have hyes := shs_yes htry (bs := bs)
              rw [← ho] at hyes
              have HCALL := Lib.hid hcall
              have HYES := Lib.hid hyes
              have HRES := Lib.hid hres
              have HO := Lib.hid ho
              clear hcall hyes ho hres ho3 hb3 hB3 hX hX4 hS htry
              go_wp2_with fail
              refine HCALL.out.mono ?_
              rintro e w5 ⟨v, rfl, hov, hb5⟩
              have hB5 := hB4.trans (hb5.mono hz4)
              have hov2 : Own w5 zo v (resL (O.set i (s : Int)) (i + 1) o) := hov.mono (by omega)
              clear hov hco3 hcq hfz
              cases o with
              | some r =>
                have hr2 : R = some ((s : Int) :: r) := by rw [HR.out, HD.out]; exact firstN_hit hno.out HYES.out hsl
                rw [HRES.out] at hov2
                subst hr2
                go_wp2
                go_ret2
                exact ⟨v, rfl, hov2, hB5⟩
              | none =>
                by_cases hx0 : x.length = 0
                · have hn : R = none := by
                    obtain rfl : x = [] := List.eq_nil_of_length_eq_zero hx0
                    have hTT : T' = T := HT'.out
                    rw [hTT] at HO
                    rw [HR.out, HD.out, ← shf_cons]
                    exact firstN_nil HO.out.symm
                  subst hn
                  go_wp2
                  go_ret2
                  exact ⟨_, rfl, Own.nil _ _, hB5⟩
                · have hno2 : ∀ q, q < s + 1 → shs M x bs T q = none := by
                    intro q hq
                    by_cases e : q < s
                    · exact hno.out q e
                    · obtain rfl : q = s := by omega
                      exact HYES.out
                  have HNO := Lib.hid hno2
                  have hx1 : ((x.length : Int) == 0) = false := beq_eq_false_iff_ne.2 (by omega)
                  clear hno2
                  go_wp2
                  go_roundw
                  case rel => exact ⟨s + 1, by omega, by go_num, HNO, hB5⟩
                  case measure => simp [intOf]; omega
      · obtain rfl : s = M := by omega
        have hn : R = none := by rw [HR.out, HD.out]; exact firstN_none hno.out
        subst hn
        go_wp2
        go_ret2
        exact ⟨_, rfl, Own.nil _ _, hB⟩
end Go.Proofs.Ytapkalpmnldhpaa
