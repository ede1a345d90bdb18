/-
  slices.Index, slices.Contains, impl.nextAlone, impl.PeelKeys.
-/
import Derived.Test.YtbldfhfciihddabPT
namespace Go.Proofs.Ytbldfhfciihddab
open Go.RowKit

def IdxPost (b : Bool) (w : World) (e : Ending) (w' : World) : Prop := ∃ r : Int, e = .returned (.int .i64 r) ∧ b = decide (0 ≤ r) ∧ w = w'
set_option maxHeartbeats 400000 in
theorem index2_any (a : Option Addr) (l : List Int) (n cap : Nat) (x : Int) (w : World) (hr : Reads w a l) (hn : l.length = n) (hl : n ≤ 1048586) :
    Calls Try.prog 36 #[.slice a n cap, .int .i64 x] w (IdxPost (l.contains x) w) := by
  subst hn
  obtain ⟨R, hR⟩ : ∃ R, R = l.contains x := ⟨_, rfl⟩
  rw [← hR]
  have HR := Lib.hid hR
  clear hR
  go_enter Try.func36, Try.ntmps36
  go_wp2
  go_loop [8] (fun i => ∃ k : Nat, k ≤ l.length ∧ i = .int .i64 k ∧ Hid ((l.take k).contains x = false)) (fun i => l.length - (intOf i).toNat)
  case atStart => exact ⟨0, Nat.zero_le _, rfl, (by show _ = _; simp)⟩
  case round =>
    obtain ⟨k, hk, rfl, hf⟩ := hrel
    by_cases hlt : k < l.length
    · obtain ⟨b, off, y, rfl, hbb, hcell, hy⟩ := hr.get hlt
      have hs := contains_take_succ hlt x
      rw [hf.out, hy.out] at hs
      by_cases e : y = x
      · have hd : (x == y) = true := by simp [e]
        have hd0 : (y == x) = true := by simp [e]
        have ht : R = true := by
          rw [HR.out]
          rw [hd0] at hs
          have : x ∈ l.take (k + 1) := by simpa using hs
          simpa using List.mem_of_mem_take this
        have HT := Lib.hid ht
        clear ht hs e hd0
        go_wp2
        go_ret
        exact ⟨_, rfl, by rw [HT.out]; simp, rfl⟩
      · have hd : (x == y) = false := by simp; omega
        have hd0 : (y == x) = false := by simpa using e
        rw [hd0] at hs
        have hs2 : (l.take (k + 1)).contains x = false := by rw [hs]; rfl
        have HS := Lib.hid hs2
        clear hs hs2 e hd0
        go_wp2
        go_round
        case rel => exact ⟨k + 1, by omega, by go_num, HS⟩
        case measure => simp [intOf]; omega
    · obtain rfl : k = l.length := by omega
      have ht : R = false := by rw [HR.out]; have := hf.out; rwa [List.take_length] at this
      have HT := Lib.hid ht
      clear ht
      go_wp2
      go_ret
      exact ⟨_, rfl, by rw [HT.out]; rfl, rfl⟩
theorem contains_any (a : Option Addr) (l : List Int) (n cap : Nat) (x : Int) (w : World) (hr : Reads w a l) (hn : l.length = n) (hl : n ≤ 1048586) :
    Calls Try.prog 34 #[.slice a n cap, .int .i64 x] w fun e w' => e = .returned (.bool (l.contains x)) ∧ w = w' := by
  obtain ⟨R, hR⟩ : ∃ R, R = l.contains x := ⟨_, rfl⟩
  have c := index2_any a l n cap x w hr hn hl
  rw [← hR] at c ⊢
  clear hR
  go_enter Try.func34, Try.ntmps34
  go_wp2_with fail
  refine c.mono ?_
  rintro e w' ⟨r, rfl, hb, rfl⟩
  have HB := Lib.hid hb
  clear hb c
  go_wp2
  go_ret
  exact ⟨ret_bool HB.out.symm, rfl⟩

def NAPost (w : World) (R : Option (Nat × Nat)) (e : Ending) (w' : World) : Prop :=
  (match R with
   | some r => e = .returned (.tuple #[.int .i64 (r.1 : Nat), .int .i64 (r.2 : Nat), .bool true])
   | none => e = .returned (.tuple #[.int .i64 0, .int .i64 0, .bool false])) ∧ Below w.heap.size w w'

set_option maxHeartbeats 4000000 in
set_option maxRecDepth 100000 in
theorem nextAlone_any (M : Nat) (a : Option Addr) (ts : List (List Int)) (cap : Nat) (ks : List Nat) (w : World) (hr : ReadsS w a ts) (hP : Trp M ts) :
    Calls Try.prog 29 #[.int .i64 M, .slice a ts.length cap, .agg ((gn 8 ks).map Value.bool).toArray] w (NAPost w (nxt ts ks M 0)) := by
  have hM := hP.le
  have hM1 := hP.pos
  have hlen := hP.len
  have hG : BArr (w.alloc (.cells ((gn 8 ks).map Value.bool).toArray 52)) 52 w.heap.size (gn 8 ks) := BArr.new w _ _
  have hb : Below w.heap.size w (w.alloc (.cells ((gn 8 ks).map Value.bool).toArray 52)) := (Below.refl _ _).alloc (Nat.le_refl _) _
  obtain ⟨R, hR⟩ : ∃ R, R = nxt ts ks M 0 := ⟨_, rfl⟩
  rw [← hR]
  obtain ⟨B0, hB0⟩ : ∃ B0, B0 = ((gn 8 ks).map Value.bool).toArray := ⟨_, rfl⟩
  rw [← hB0] at hG hb ⊢
  have HR := Lib.hid hR
  clear hR hB0
  go_enter Try.func29, Try.ntmps29
  go_wp2
  obtain ⟨w1, hw1⟩ : ∃ w1, w1 = w.alloc (.cells B0 52) := ⟨_, rfl⟩
  rw [← hw1] at hG hb ⊢
  clear hw1
  go_loop [15] (fun s => ∃ at0 : Nat, at0 ≤ M ∧ s = .int .i64 at0 ∧ Hid (R = nxt ts ks (M - at0) at0)) (fun s => M - (intOf s).toNat)
  case atStart => exact ⟨0, Nat.zero_le _, rfl, HR⟩
  case round =>
    obtain ⟨at0, hat, rfl, hnx⟩ := hrel
    by_cases hltM : at0 < M
    · go_wp2
      go_loop [10, 11, 20] (fun nv lv iv => ∃ i : Nat, i ≤ ts.length ∧ iv = .int .i64 i ∧ nv = .int .i64 ((lf ts ks at0 i).length : Nat) ∧ lv = .int .i64 (lastI (lf ts ks at0 i) 0)) (fun _ _ iv => ts.length - (intOf iv).toNat)
      case atStart => exact ⟨0, Nat.zero_le _, rfl, rfl, rfl⟩
      case round =>
        obtain ⟨i, hi, rfl, rfl, rfl⟩ := hrel
        have hll := lf_len ts ks at0 i
        by_cases hlti : i < ts.length
        · obtain ⟨gb, hcg, hgb⟩ := hG.get (k := i) (by rw [gn_len]; omega)
          rw [gn_get (by omega)] at hgb
          obtain ⟨L, hL⟩ : ∃ L, L = lf ts ks at0 i := ⟨_, rfl⟩
          rw [← hL] at hll ⊢
          have HL := Lib.hid hL
          have HGB := Lib.hid hgb.out
          obtain ⟨bt, off, A, C, rfl, hbb, hc0, hrow0, hcap⟩ := hr.get hlti
          have hc : w1.cell? ⟨bt, off + i, none⟩ = some (.slice A (tr ts i).length C) := (hb.cell (by exact hbb)).trans hc0
          have hrow := hrow0.below hb
          have h3 := (hP.three hlti).1
          have ch := contains_any A (tr ts i) (tr ts i).length C at0 w1 hrow rfl (by omega)
          obtain ⟨hv, hhv⟩ : ∃ hv, hv = (tr ts i).contains (at0 : Int) := ⟨_, rfl⟩
          rw [← hhv] at ch
          rw [h3] at hc ch
          have HHV := Lib.hid hhv
          clear hc0 hrow0 h3 hhv hrow hcap hL hgb
          cases gb with
          | true =>
            have e := lf_no (at_gone (ts := ts) (s := at0) HGB.out)
            rw [← HL.out] at e
            have HE := Lib.hid e
            clear e ch
            go_wp2
            go_round
            case rel => exact ⟨i + 1, by omega, by go_num, by rw [HE.out], by rw [HE.out]⟩
            case measure => simp [intOf]; omega
          | false =>
            cases hv with
            | true =>
              have e := lf_yes (ts := ts) (ks := ks) (s := at0) (n := i) (by rw [at_left HGB.out]; exact HHV.out.symm)
              rw [← HL.out] at e
              have HE := Lib.hid e
              clear e
              go_wp2_with fail
              refine ch.mono ?_
              rintro e w' ⟨rfl, rfl⟩
              clear ch
              go_wp2
              go_round
              case rel => exact ⟨i + 1, by omega, by go_num, by rw [HE.out, List.length_append]; go_num, by rw [HE.out, lastI_push]⟩
              case measure => simp [intOf]; omega
            | false =>
              have e := lf_no (ts := ts) (ks := ks) (s := at0) (n := i) (by rw [at_left HGB.out]; exact HHV.out.symm)
              rw [← HL.out] at e
              have HE := Lib.hid e
              clear e
              go_wp2_with fail
              refine ch.mono ?_
              rintro e w' ⟨rfl, rfl⟩
              clear ch
              go_wp2
              go_round
              case rel => exact ⟨i + 1, by omega, by go_num, by rw [HE.out], by rw [HE.out]⟩
              case measure => simp [intOf]; omega
        · obtain rfl : i = ts.length := by omega
          by_cases h1 : (lf ts ks at0 ts.length).length = 1
          · obtain ⟨k, hal, hlk⟩ := alone_yes h1
            have hR : R = some (k, at0) := by rw [hnx.out, show M - at0 = (M - (at0 + 1)) + 1 by omega, nxt_yes hal]
            have HRR := Lib.hid hR
            rw [hlk, show lastI [k] 0 = (k : Int) from rfl]
            clear hR hlk h1 hal hll
            go_wp2
            go_ret3
            rw [HRR.out]
            exact ⟨rfl, hb⟩
          · have hR : R = nxt ts ks (M - (at0 + 1)) (at0 + 1) := by rw [hnx.out, show M - at0 = (M - (at0 + 1)) + 1 by omega, nxt_no (alone_no h1)]
            have HRR := Lib.hid hR
            have hd1 : (((lf ts ks at0 ts.length).length : Int) == 1) = false := by simp; omega
            clear hR h1
            go_wp2
            go_round
            case rel => exact ⟨at0 + 1, by omega, by go_num, HRR⟩
            case measure => simp [intOf]; omega
    · obtain rfl : at0 = M := by omega
      have hR : R = none := by rw [hnx.out, Nat.sub_self]; rfl
      have HRR := Lib.hid hR
      clear hR
      go_wp2
      go_ret3
      rw [HRR.out]
      exact ⟨rfl, hb⟩

theorem und_b8 : Try.prog.underlying 52 = some (.array 8 4) := by kernel_rfl
theorem inf_b8 : (Try.prog.info? 52).map (·.size) = some 8 := by kernel_rfl
/-- The whole array of bools is loaded. -/
theorem load_barr {P : Program} {w : World} {ops : Array Oper} {rest : List Oper} {o : Oper} {a : Act} {Q : Exit → Act → World → Prop} (hgd : o.guard = none) (ty : TypeId) (x : Operand) (ho : o.op = .load ty x)
    (g : Nat) (hx : a.eval x = .pointer (some ⟨g, 0, none⟩)) (t e n : Nat) (l : List Bool) (hg : BArr w t g l)
    (hu : P.underlying ty = some (.array n e)) (hi : (P.info? ty).map (·.size) = some n) (hl : l.length = n)
    (h : wpList P ops Q rest (a.put o.dst (.agg (l.map Value.bool).toArray)) w) : wpList P ops Q (o :: rest) a w :=
  wpList_load_row hgd ty x ho g hx t (l.map Value.bool).toArray (0, 0) _ hg hu rfl (by rw [hi]; simp [hl]) h

set_option maxHeartbeats 4000000 in
set_option maxRecDepth 100000 in
theorem implPeelKeys_yes (M : Nat) (a : Option Addr) (ts : List (List Int)) (cap : Nat) (w : World) (hr : ReadsS w a ts) (hP : Trp M ts) :
    Calls Try.prog 9 #[.int .i64 M, .slice a ts.length cap] w (PeelPost w (plk M ts)) := by
  have hM := hP.le
  have hM1 := hP.pos
  have hlen := hP.len
  have HV := Lib.hid hP.TV
  obtain ⟨R, hR⟩ : ∃ R, R = plk M ts := ⟨_, rfl⟩
  rw [← hR]
  have hst : PelAt M ts R [] [] := by rw [hR]; exact PelAt.start M ts
  have HST := Lib.hid hst
  clear hR hst
  go_enter Try.func9, Try.ntmps9
  go_wp2_with fail
  refine (implvalidTrips_any _ _ _ _ _ hr).mono ?_
  rintro e w0 ⟨rfl, hb0⟩
  rw [HV.out]
  have hs0 := hb0.size
  have hG : BArr (w0.alloc (.cells ((gn 8 []).map Value.bool).toArray 52)) 52 w0.heap.size (gn 8 []) := BArr.new w0 _ _
  have e9 : ((gn 8 []).map Value.bool).toArray = #[.bool false, .bool false, .bool false, .bool false, .bool false, .bool false, .bool false, .bool false] := rfl
  rw [e9] at hG
  have hb1 := hb0.alloc hs0 (.cells #[.bool false, .bool false, .bool false, .bool false, .bool false, .bool false, .bool false, .bool false] 52)
  obtain ⟨g8, hg8⟩ : ∃ g8, g8 = w0.heap.size := ⟨_, rfl⟩
  have hwg : w.heap.size ≤ g8 := by omega
  clear e9
  go_wp2
  rw [← hg8] at hG ⊢
  clear hg8 hs0 hb0
  go_loopg [6, 7] (more ts [] + 1) (fun n kv sv wr => ∃ (ks ss : List Nat), Own wr w.heap.size kv (ints ks) ∧ Own wr w.heap.size sv (ints ss) ∧ Ap kv sv ∧ BArr wr 52 g8 (gn 8 ks) ∧ Hid (PelAt M ts R ks ss) ∧ Hid (Taken M ts ks ss) ∧ Hid (more ts ks < n) ∧ Below w.heap.size w wr)
  case atStart => exact ⟨[], [], Own.nil _ _, Own.nil _ _, .inl rfl, hG, HST, Taken.start M ts, (by show _ < _; omega), hb1⟩
  case round =>
    clear hG hb1
    obtain ⟨ks, ss, hk, hs, hap, hG, hpel, htak, hmo, hb⟩ := hrel
    have hsz := hb.size
    have hrr := hr.below hb
    go_wp2_with (refine load_barr rfl _ _ rfl _ rfl _ _ _ _ hG und_b8 inf_b8 (gn_len _ _) ?_)
    go_wp2_with fail
    refine (nextAlone_any M a ts cap ks _ hrr hP).mono ?_
    rintro e w2 ⟨hR2, hb2⟩
    have hb3 := hb.trans (hb2.mono hsz)
    have hk2 := hk.below hb2
    have hs2 := hs.below hb2
    have hG2 := hG.belowAll hb2
    have hz3 := hb3.size
    clear hk hs hG hb hb2 hrr
    cases hn : nxt ts ks M 0 with
    | none =>
      rw [hn] at hR2
      obtain rfl := hR2
      have hd := hpel.out.done hn
      have HD := Lib.hid hd
      clear hd hn
      go_wp2
      go_ret2
      rw [HD.out]
      exact ⟨_, _, rfl, hk2, hs2, hb3, hap⟩
    | some q =>
      obtain ⟨k, s0⟩ := q
      rw [hn] at hR2
      obtain rfl := hR2
      obtain ⟨hal, _, hs0, _⟩ := nxt_some _ _ _ _ hn
      obtain ⟨hkl, hat, _⟩ := alone_some hal
      have hml := more_lt hkl hat
      have hp2 := hpel.out.step hn
      have ht2 := htak.out.step hn
      have HP2 := Lib.hid hp2
      have HT2 := Lib.hid ht2
      have hlen2 : ks.length ≤ 8 ∧ ss.length ≤ 8 := by
        have h1 := htak.out.count
        have h2 := htak.out.len
        omega
      have HML := Lib.hid hml
      have hk8 : k < 8 := by omega
      clear hn hal hat hml hp2 ht2
      obtain ⟨gb, hcg, _⟩ := hG2.get (k := k) (by rw [gn_len]; exact hk8)
      have hfz := hG2.frozen k
      have hst := hG2.store k true
      rw [gn_set hk8] at hst
      have hk1 := hk2.otherB (hG2.ne_own hk2 (by decide)) k (.bool true)
      have hs1 := hs2.otherB (hG2.ne_own hs2 (by decide)) k (.bool true)
      have hb4 := hb3.setCell (p := ⟨g8, k, none⟩) hwg (.bool true)
      have hz4 := hb4.size
      clear hk2 hs2 hG2 hb3
      go_wp2_with (at_builtin; refine push_side rfl _ _ rfl w.heap.size u6 u7 (ints ks) (ints ss) (k : Int) rfl hk1 hs1 hap _ rfl (by simp) (by rw [ints_len]; omega) hz4 ?_)
      intro v' w3 ho1 hsb hap2 _ hg1
      have hb5 := Below.grownB hb4 hk1 hg1 hz4 (Nat.le_refl _)
      have hG5 := hst.kept hg1 (fun e => hst.ne_own hk1 (by decide) e.symm)
      rw [ints_push] at ho1
      have hz5 := hb5.size
      clear hb4 hk1 hs1 hst hg1 hz4 hap
      go_wp2_with (at_builtin; refine push_side rfl _ _ rfl w.heap.size u7 v' (ints ss) (ints (ks ++ [k])) (s0 : Int) rfl hsb ho1 hap2.symm _ rfl rfl (by rw [ints_len]; omega) hz5 ?_)
      intro v2 w4 ho2 hk3 hap3 _ hg2
      have hb6 := Below.grownB hb5 hsb hg2 hz5 (Nat.le_refl _)
      have hG6 := hG5.kept hg2 (fun e => hG5.ne_own hsb (by decide) e.symm)
      rw [ints_push] at ho2
      clear hb5 ho1 hsb hG5 hg2 hz5 hap2
      go_wp2
      go_roundg (gk - 1)
      case measure => have := hmo.out; omega
      case rel => exact ⟨ks ++ [k], ss ++ [s0], hk3, ho2, hap3.symm, hG6, HP2, HT2, (by show _ < _; have := HML.out; have := hmo.out; omega), hb6⟩

theorem implPeelKeys_any (m : Int) (a : Option Addr) (ts : List (List Int)) (cap : Nat) (w : World) (hm : In64 m) (hr : ReadsS w a ts) (_hl : bulk ts ≤ 1048586) :
    Calls Try.prog 9 #[.int .i64 m, .slice a ts.length cap] w (PKPost2 w (PK m ts)) := by
  by_cases hv : TV m ts = true
  · obtain ⟨M, rfl, hP⟩ := Trp.of_TV hv
    have e : PK M ts = (ints (plk M ts).1, ints (plk M ts).2) := by unfold PK; rw [if_pos hv]; rfl
    rw [e]
    exact implPeelKeys_yes M a ts cap w hr hP
  · have hv' : TV m ts = false := by simpa using hv
    have e : PK m ts = ([], []) := by unfold PK; rw [if_neg hv]
    rw [e]
    clear hv e
    have HV := Lib.hid hv'
    clear hv'
    go_enter Try.func9, Try.ntmps9
    go_wp2_with fail
    refine (implvalidTrips_any _ _ _ _ _ hr).mono ?_
    rintro e w0 ⟨rfl, hb0⟩
    rw [HV.out]
    go_wp2
    go_ret2
    exact ⟨_, _, rfl, Own.nil _ _, Own.nil _ _, hb0, .inl rfl⟩
end Go.Proofs.Ytbldfhfciihddab
