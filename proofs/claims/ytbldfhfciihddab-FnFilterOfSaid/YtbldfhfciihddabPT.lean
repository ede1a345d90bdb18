/-
  spec.peel, spec.PeelKeys.
-/
import Derived.Test.YtbldfhfciihddabTe
namespace Go.Proofs.Ytbldfhfciihddab
open Go.RowKit

def PeelPost (w : World) (R : List Nat × List Nat) (e : Ending) (w' : World) : Prop :=
  ∃ v1 v2, e = .returned (.tuple #[v1, v2]) ∧ Own w' w.heap.size v1 (ints R.1) ∧ Own w' w.heap.size v2 (ints R.2) ∧ Below w.heap.size w w' ∧ Ap v1 v2

set_option maxHeartbeats 4000000 in
set_option maxRecDepth 100000 in
theorem peel_any (M : Nat) (a : Option Addr) (ts : List (List Int)) (cap : Nat) (w : World) (hr : ReadsS w a ts) (hP : Trp M ts) :
    Calls Try.prog 28 #[.int .i64 M, .slice a ts.length cap] w (PeelPost w (plk M ts)) := by
  have hM := hP.le
  have hM1 := hP.pos
  have hlen := hP.len
  have hmk := run_make_row' (P := Try.prog) 59 4 (.bool false) 1 Try.underlying59 infoBool rfl .i64 .i64 ts.length (by omega) (by omega)
  rw [made_bools, ← gn_zero] at hmk
  have hG0 : BArr (w.alloc (.cells ((gn ts.length []).map Value.bool).toArray 4)) 4 w.heap.size (gn ts.length []) := BArr.new w _ _
  obtain ⟨R, hR⟩ : ∃ R, R = plk M ts := ⟨_, rfl⟩
  rw [← hR]
  have hst : PelAt M ts R [] [] := by rw [hR]; exact PelAt.start M ts
  have HST := Lib.hid hst
  clear hR hst
  obtain ⟨B0, hB0⟩ : ∃ B0, B0 = ((gn ts.length []).map Value.bool).toArray := ⟨_, rfl⟩
  rw [← hB0] at hmk hG0
  have HB0 := Lib.hid hB0
  clear hB0
  have hb1 : Below w.heap.size w (w.alloc (.cells B0 4)) := (Below.refl _ _).alloc (Nat.le_refl _) _
  have hb2 := hb1.alloc hb1.size (.cells #[] 3)
  have hb3 := hb2.alloc hb2.size (.cells #[] 3)
  have ho1 := Own.lit0 (w.alloc (.cells B0 4)) w.heap.size hb1.size
  have ho1' := ho1.below ((Below.refl _ _).alloc (Nat.le_refl _) (.cells #[] 3))
  have ho2 := Own.lit0 ((w.alloc (.cells B0 4)).alloc (.cells #[] 3)) w.heap.size hb2.size
  have hG1 := (hG0.belowAll ((Below.refl _ _).alloc (Nat.le_refl _) (.cells #[] 3))).belowAll ((Below.refl _ _).alloc (Nat.le_refl _) (.cells #[] 3))
  rw [World.size_alloc] at ho1' ho2
  rw [World.size_alloc] at ho2
  clear ho1 hG0 hb1 hb2
  go_enter Try.func28, Try.ntmps28
  go_wp2
  go_loopg [7, 8, 9] (more ts [] + 1) (fun n kv sv bv wr => ∃ (b : Bool) (ks ss : List Nat), bv = .bool b ∧ Own wr w.heap.size kv (ints ks) ∧ Own wr w.heap.size sv (ints ss) ∧ Ap kv sv ∧ BArr wr 4 w.heap.size (gn ts.length ks) ∧ Hid (PelAt M ts R ks ss) ∧ Hid (Taken M ts ks ss) ∧ Hid (b = true → more ts ks < n) ∧ Hid (b = false → nxt ts ks M 0 = none) ∧ Below w.heap.size w wr)
  case atStart => exact ⟨true, [], [], rfl, ho1', ho2, .inr (by simp [Value.ownBlock]), hG1, HST, Taken.start M ts, (fun _ => by omega), (fun h => by cases h), hb3⟩
  case round =>
    clear ho1' ho2 hG1 hb3 hmk
    obtain ⟨b, ks, ss, rfl, hk, hs, hap, hG, hpel, htak, hmo, hno, hb⟩ := hrel
    cases b with
    | false =>
      have hd := hpel.out.done (hno.out rfl)
      have HD := Lib.hid hd
      clear hd
      go_wp2
      go_ret2
      rw [HD.out]
      exact ⟨_, _, rfl, hk, hs, hb, hap⟩
    | true =>
      have hlow := hmo.out rfl
      go_wp2
      go_loopw [7, 8, 9, 10] (fun kv sv bv av wr => ∃ (b : Bool) (ks' ss' : List Nat) (at0 : Nat), bv = .bool b ∧ av = .int .i64 at0 ∧ at0 ≤ M ∧ Own wr w.heap.size kv (ints ks') ∧ Own wr w.heap.size sv (ints ss') ∧ Ap kv sv ∧ BArr wr 4 w.heap.size (gn ts.length ks') ∧ Hid (Mid M ts R ks ss at0 b ks' ss') ∧ Below w.heap.size w wr) (fun _ _ _ av _ => M - (intOf av).toNat)
      case atStart => exact ⟨false, ks, ss, 0, rfl, rfl, Nat.zero_le _, hk, hs, hap, hG, .inl ⟨rfl, rfl, rfl, rfl⟩, hb⟩
      case round =>
        clear hk hs hap hG hb
        obtain ⟨b, ks', ss', at0, rfl, rfl, hat, hk, hs, hap, hG, hmid, hb⟩ := hrel
        cases b with
        | true =>
          have hm2 : more ts ks' < more ts ks ∧ PelAt M ts R ks' ss' ∧ Taken M ts ks' ss' := by
            rcases hmid.out with h | h
            · cases h.1
            · exact h.2
          obtain ⟨h1, h2, h3⟩ := hm2
          have H2 := Lib.hid h2
          have H3 := Lib.hid h3
          clear h2 h3
          by_cases hltM : at0 < M
          · go_wp2
            go_roundg (gk - 1)
            case measure => omega
            case rel => exact ⟨true, ks', ss', rfl, hk, hs, hap, hG, H2, H3, (fun _ => by omega), (fun h => by cases h), hb⟩
          · go_wp2
            go_roundg (gk - 1)
            case measure => omega
            case rel => exact ⟨true, ks', ss', rfl, hk, hs, hap, hG, H2, H3, (fun _ => by omega), (fun h => by cases h), hb⟩
        | false =>
          have hm2 : ks' = ks ∧ ss' = ss ∧ nxt ts ks M 0 = nxt ts ks (M - at0) at0 := by
            rcases hmid.out with h | h
            · exact h.2
            · cases h.1
          obtain ⟨rfl, rfl, hnx⟩ := hm2
          have HNX := Lib.hid hnx
          clear hnx
          by_cases hltM : at0 < M
          · have hsz := hb.size
            go_wp2
            go_loop [11, 12, 13] (fun nv lv iv => ∃ i : Nat, i ≤ ts.length ∧ iv = .int .i64 i ∧ nv = .int .i64 ((lf ts ks' at0 i).length : Nat) ∧ lv = .int .i64 (lastI (lf ts ks' at0 i) (-1))) (fun _ _ iv => ts.length - (intOf iv).toNat)
            case atStart => exact ⟨0, Nat.zero_le _, rfl, rfl, rfl⟩
            case round =>
              obtain ⟨i, hi, rfl, rfl, rfl⟩ := hrel
              have hll := lf_len ts ks' at0 i
              by_cases hlti : i < ts.length
              · obtain ⟨gb, hcg, hgb⟩ := hG.get (k := i) (by rw [gn_len]; exact hlti)
                rw [gn_get hlti] at hgb
                obtain ⟨L, hL⟩ : ∃ L, L = lf ts ks' at0 i := ⟨_, rfl⟩
                rw [← hL] at hll ⊢
                have HL := Lib.hid hL
                have HGB := Lib.hid hgb.out
                clear hL hgb
                cases gb with
                | true =>
                  have e := lf_no (at_gone (ts := ts) (s := at0) HGB.out)
                  rw [← HL.out] at e
                  have HE := Lib.hid e
                  clear e
                  go_wp2
                  go_round
                  case rel => exact ⟨i + 1, by omega, by go_num, by rw [HE.out], by rw [HE.out]⟩
                  case measure => simp [intOf]; omega
                | false =>
                  obtain ⟨bt, off, A, C, rfl, hbb, hc0, hrow0, hcap⟩ := hr.get hlti
                  have hc : wr.cell? ⟨bt, off + i, none⟩ = some (.slice A (tr ts i).length C) := (hb.cell (by exact hbb)).trans hc0
                  have hrow := hrow0.below hb
                  have h3 := (hP.three hlti).1
                  have ch := has_any A (tr ts i) (tr ts i).length C at0 wr hrow rfl (by omega)
                  obtain ⟨hv, hhv⟩ : ∃ hv, hv = (tr ts i).contains (at0 : Int) := ⟨_, rfl⟩
                  rw [← hhv] at ch
                  rw [h3] at hc ch
                  have HHV := Lib.hid hhv
                  clear hc0 hrow0 h3 hhv hrow hcap
                  cases hv with
                  | true =>
                    have e := lf_yes (ts := ts) (ks := ks') (s := at0) (n := i) (by rw [at_left HGB.out]; exact HHV.out.symm)
                    rw [← HL.out] at e
                    have HE := Lib.hid e
                    clear e
                    go_wp2_with fail
                    refine ch.mono ?_
                    rintro e w' ⟨rfl, rfl⟩
                    clear ch
                    go_wp2
                    go_round
                    case rel => exact ⟨i + 1, by omega, by go_num, by rw [HE.out, List.length_append]; go_num, by rw [HE.out, lastI_push]⟩
                    case measure => simp [intOf]; omega
                  | false =>
                    have e := lf_no (ts := ts) (ks := ks') (s := at0) (n := i) (by rw [at_left HGB.out]; exact HHV.out.symm)
                    rw [← HL.out] at e
                    have HE := Lib.hid e
                    clear e
                    go_wp2_with fail
                    refine ch.mono ?_
                    rintro e w' ⟨rfl, rfl⟩
                    clear ch
                    go_wp2
                    go_round
                    case rel => exact ⟨i + 1, by omega, by go_num, by rw [HE.out], by rw [HE.out]⟩
                    case measure => simp [intOf]; omega
              · obtain rfl : i = ts.length := by omega
                by_cases h1 : (lf ts ks' at0 ts.length).length = 1
                · obtain ⟨k, hal, hlk⟩ := alone_yes h1
                  have hkl := (alone_some hal).1
                  have hmd := Mid.found hpel.out htak.out HNX.out hltM hal
                  have HMD := Lib.hid hmd
                  rw [hlk, show lastI [k] (-1) = (k : Int) from rfl]
                  clear hlk h1 hmd hal hll
                  have hlen2 : ks'.length ≤ 8 ∧ ss'.length ≤ 8 := by
                    have h1 := htak.out.count
                    have h2 := htak.out.len
                    omega
                  obtain ⟨gb, hcg, _⟩ := hG.get (k := k) (by rw [gn_len]; exact hkl)
                  have hfz := hG.frozen k
                  have hst := hG.store k true
                  rw [gn_set hkl] at hst
                  have hk1 := hk.otherB (hG.ne_own hk (by decide)) k (.bool true)
                  have hs1 := hs.otherB (hG.ne_own hs (by decide)) k (.bool true)
                  have hb4 := hb.setCell (p := ⟨w.heap.size, k, none⟩) (Nat.le_refl _) (.bool true)
                  have hz4 := hb4.size
                  clear hk hs hG hb
                  go_wp2_with (at_builtin; refine push_side rfl _ _ rfl w.heap.size u7 u8 (ints ks') (ints ss') (k : Int) rfl hk1 hs1 hap _ rfl (by simp) (by rw [ints_len]; omega) hz4 ?_)
                  intro v' w2 ho1 hsb hap2 _ hg1
                  have hb5 := Below.grownB hb4 hk1 hg1 hz4 (Nat.le_refl _)
                  have hG5 := hst.kept hg1 (fun e => hst.ne_own hk1 (by decide) e.symm)
                  rw [ints_push] at ho1
                  have hz5 := hb5.size
                  clear hb4 hk1 hs1 hst hg1 hz4 hap
                  go_wp2_with (at_builtin; refine push_side rfl _ _ rfl w.heap.size u8 v' (ints ss') (ints (ks' ++ [k])) (at0 : Int) rfl hsb ho1 hap2.symm _ rfl rfl (by rw [ints_len]; omega) hz5 ?_)
                  intro v2 w3 ho2 hk3 hap3 _ hg2
                  have hb6 := Below.grownB hb5 hsb hg2 hz5 (Nat.le_refl _)
                  have hG6 := hG5.kept hg2 (fun e => hG5.ne_own hsb (by decide) e.symm)
                  rw [ints_push] at ho2
                  clear hb5 ho1 hsb hG5 hg2 hz5 hap2
                  go_wp2
                  go_roundw
                  case rel => exact ⟨true, ks' ++ [k], ss' ++ [at0], at0 + 1, rfl, by go_num, by omega, hk3, ho2, hap3.symm, hG6, HMD, hb6⟩
                  case measure => simp [intOf]; omega
                · have hmd := Mid.skip (R := R) (ss := ss') HNX.out hltM (alone_no h1)
                  have HMD := Lib.hid hmd
                  have hd1 : (((lf ts ks' at0 ts.length).length : Int) == 1) = false := by simp; omega
                  clear hmd h1
                  go_wp2
                  go_roundw
                  case rel => exact ⟨false, ks', ss', at0 + 1, rfl, by go_num, by omega, hk, hs, hap, hG, HMD, hb⟩
                  case measure => simp [intOf]; omega
          · obtain rfl : at0 = M := by omega
            have hnone : nxt ts ks' at0 0 = none := by rw [HNX.out, Nat.sub_self]; rfl
            have HN := Lib.hid hnone
            clear hnone
            go_wp2
            go_roundg (gk - 1)
            case measure => omega
            case rel => exact ⟨false, ks', ss', rfl, hk, hs, hap, hG, hpel, htak, (fun h => by cases h), (fun _ => HN.out), hb⟩

def PKPost2 (w : World) (R : List Int × List Int) (e : Ending) (w' : World) : Prop :=
  ∃ v1 v2, e = .returned (.tuple #[v1, v2]) ∧ Own w' w.heap.size v1 R.1 ∧ Own w' w.heap.size v2 R.2 ∧ Below w.heap.size w w' ∧ Ap v1 v2

end Go.Proofs.Ytbldfhfciihddab
