/-
  laws.FnShiftsFor: the walk.
-/
import Derived.Test.YtapkalpmnldhpaaD8
import Derived.Test.YtapkalpmnldhpaaPf
import Derived.Test.YtapkalpmnldhpaaLH
namespace Go.Proofs.Ytapkalpmnldhpaa
open Go.RowKit

theorem firstN_some {α : Type} {f : Nat → Option α} {n : Nat} {r : α} (h : firstN f n = some r) : ∃ s, s < n ∧ f s = some r := by
  induction n with
  | zero => cases h
  | succ n ih =>
    rw [firstN] at h
    cases hf : firstN f n with
    | some q =>
      rw [hf] at h
      obtain ⟨s, h1, h2⟩ := ih (hf.trans h)
      exact ⟨s, by omega, h2⟩
    | none => rw [hf] at h; exact ⟨n, by omega, h⟩
theorem shf_step {M : Nat} {ts : List (List Int)} {i : Nat} {T : List Bool} {r : List Int} (hi : i < ts.length) (h : shf M (ts.drop i) T = some (r.drop i)) (hl : r.length = ts.length) :
    ∃ s T', s < M ∧ r.getD i 0 = ((s : Nat) : Int) ∧ tryS M s (tr ts i) T = some T' ∧ shf M (ts.drop (i + 1)) T' = some (r.drop (i + 1)) := by
  rw [drop_tr hi, shf_cons] at h
  obtain ⟨s, h1, h2⟩ := firstN_some h
  unfold shs at h2
  cases ht : tryS M s (tr ts i) T with
  | none => rw [ht] at h2; cases h2
  | some T' =>
    rw [ht] at h2
    simp only [Option.map_eq_some_iff] at h2
    obtain ⟨q, h3, h4⟩ := h2
    rw [List.drop_eq_getElem_cons (by omega)] at h4
    injection h4 with h5 h6
    exact ⟨s, T', h1, by simp [List.getD, show i < r.length by omega, ← h5], ht, by rw [h3, h6]⟩
theorem tryS_fits {M s : Nat} {l : List Int} {T T' : List Bool} (h : tryS M s l T = some T') : fits M s l T l.length ∧ T' = tkS M s l T l.length := by
  unfold tryS at h
  split at h
  · rename_i hf
    exact ⟨hf, (Option.some.inj h).symm⟩
  · cases h

set_option maxHeartbeats 8000000 in
set_option maxRecDepth 20000 in
theorem lawFnShiftsFor (a : Option Addr) (n cap : Nat) (w : World) (hBy : Bytes w w.heap.size a n) (hn : n ≤ 9223372036854775807) (hc : n ≤ cap) :
    Calls Try.prog 18 #[.slice a n cap] w fun e w' => e = .returned (.bool true) ∧ Below w.heap.size w w' := by
  by_cases hbig : 1048576 < n
  · go_enter Try.func18, Try.ntmps18
    go_wp2
    go_ret
    exact ⟨rfl, Below.refl _ _⟩
  go_enter Try.func18, Try.ntmps18
  go_wp2_with fail
  refine (drawShiftsFor_any a n cap w hBy hn hc).mono ?_
  rintro e w1 ⟨m, av, ts, cv, rfl, hm, hr, hcv, hbu, hb⟩
  have hm64 : In64 m := by unfold In64; omega
  have hlen := bulk_len ts
  have z1 := hb.size
  clear hBy
  have hSl := SF_len m ts
  obtain ⟨R, hR⟩ : ∃ R, R = (SF m ts).1 := ⟨_, rfl⟩
  obtain ⟨ok, hok⟩ : ∃ ok, ok = (SF m ts).2 := ⟨_, rfl⟩
  have ci := implShiftsFor_any m av ts cv w1 hm64 hr (by omega) hcv
  rw [← hR, ← hok] at ci
  have CI := Lib.hid ci
  have cs := fun w2 (h : ReadsS w2 av ts) => specShiftsFor_any m av ts cv w2 hm64 h (by omega)
  rw [← hR, ← hok] at cs
  have CS := Lib.hid cs
  have hRl : R.length ≤ 60 := by
    rw [hR]; unfold SF
    split
    · cases hs : shf m.toNat ts (List.replicate m.toNat false) with
      | none => simp [SFr]
      | some r => simp only [SFr]; rw [shf_len _ _ _ hs]; omega
    · simp
  have eR := eqL_self R
  have HR := Lib.hid hR
  have HOK := Lib.hid hok
  have HRD := Lib.hid hr
  have HBU := Lib.hid hbu
  have hts : ts.length ≤ 60 := by omega
  clear ci cs hR hok hr hSl hbu
  go_wp2_with fail
  refine CI.out.mono ?_
  rintro e w2 ⟨v1, rfl, ho1, hb2⟩
  have B2 := hb.trans (hb2.mono z1)
  have z2 := B2.size
  have hr2 := HRD.out.below hb2
  go_wp2_with fail
  refine (CS.out w2 hr2).mono ?_
  rintro e w3 ⟨v3, rfl, ho3, hb3⟩
  have ho1' := ho1.below hb3
  have B3 := B2.trans (hb3.mono z2)
  have z3 := B3.size
  have hr3 := hr2.below hb3
  obtain ⟨a1, c1, rfl, hrd1, hc1, _, _⟩ := ho1'.form
  obtain ⟨a3, c3, rfl, hrd3, _, _, _⟩ := ho3.form
  have ce := equalInts_any a1 a3 R R c1 c3 w3 hrd1 hrd3 (by omega) (by omega)
  rw [eR] at ce
  have CE := Lib.hid ce
  have HR1 := Lib.hid hrd1
  have HR3 := Lib.hid hrd3
  clear ce ho1 ho3 hr2 hb2 hb3
  go_wp2_with fail
  refine CE.out.mono ?_
  rintro e w4x ⟨rfl, n4, rfl⟩
  have b4 := below_drewN (Below.refl w3.heap.size w3) n4
  have B4 := B3.trans (b4.mono z3)
  cases ok with
  | false =>
    have ce2 := equalInts_any a1 a3 R R c1 c3 (w3.drewN n4) (HR1.out.below b4) (HR3.out.below b4) (by omega) (by omega)
    rw [eR] at ce2
    have CE2 := Lib.hid ce2
    clear ce2
    go_wp2_with fail
    refine CE2.out.mono ?_
    rintro e w5x ⟨rfl, n5, rfl⟩
    have b5 := below_drewN B3 (n4 + n5)
    go_wp2
    go_ret
    exact ⟨rfl, b5⟩
  | true =>
    have hv : VB m ts = true := by
      cases hq : VB m ts with
      | true => rfl
      | false => have := HOK.out; rw [SF_no hq] at this; cases this
    have h1 := VB_iff.1 hv
    obtain ⟨M, rfl⟩ : ∃ M : Nat, m = M := ⟨m.toNat, by omega⟩
    have hM1 : 1 ≤ M := by omega
    have hM2 : M ≤ 10 := by omega
    have hfine := Fine.of_VB hv
    have hshf : shf M (ts.drop 0) (List.replicate M false) = some (R.drop 0) := by
      have e1 := HR.out
      have e2 := HOK.out
      unfold SF at e1 e2
      rw [if_pos hv] at e1 e2
      rw [List.drop_zero, List.drop_zero]
      cases hq : shf M ts (List.replicate M false) with
      | none => rw [show (M : Int).toNat = M from rfl, hq] at e2; cases e2
      | some r => rw [show (M : Int).toNat = M from rfl, hq] at e1; rw [e1]; rfl
    have hRlen : R.length = ts.length := by
      rw [List.drop_zero, List.drop_zero] at hshf
      exact shf_len _ _ _ hshf
    have hmk := run_make_row' (P := Try.prog) 61 4 (.bool false) 1 Try.underlying61 infoBool rfl .i64 .i64 M (by omega) (by omega)
    have xA := made_tabB (w3.drewN n4) w3.heap.size M (by simp) hM2
    have bA := b4.alloc (by simp) (.cells (madeCells #[.bool false] M) 4)
    obtain ⟨BB, hBB⟩ : ∃ BB, BB = madeCells #[.bool false] M := ⟨_, rfl⟩
    rw [← hBB] at hmk xA bA
    obtain ⟨z, hz⟩ : ∃ z, z = w3.heap.size := ⟨_, rfl⟩
    have xA' : TabB ((w3.drewN n4).alloc (.cells BB 4)) w3.heap.size w3.heap.size M M (List.replicate M false) := xA
    rw [hRlen] at hc1 ⊢
    have HSH := Lib.hid hshf
    have HFI := Lib.hid hfine
    have HLN := Lib.hid hRlen
    have HR3' := Lib.hid hr3
    clear hshf hfine hRlen hBB xA h1 hv CE CI CS HR3 HOK HR HRD HBU hr3 hz z
    go_wp2_with fail
    go_loopw [10] (fun iv wr => ∃ (i : Nat) (T : List Bool), i ≤ ts.length ∧ iv = .int .i64 i ∧ Hid (shf M (ts.drop i) T = some (R.drop i)) ∧ TabB wr w3.heap.size w3.heap.size M M T ∧ Below w3.heap.size w3 wr) (fun iv _ => ts.length - (intOf iv).toNat)
    case atStart => exact ⟨0, List.replicate M false, Nat.zero_le _, rfl, HSH, xA', bA⟩
    case round =>
      clear xA' bA hmk
      obtain ⟨i, T, hi, rfl, hsh, hT, hB⟩ := hrel
      have hzB := hB.size
      by_cases hlt : i < ts.length
      · obtain ⟨s, T', hsM, hrs, htr, hsh2⟩ := shf_step hlt hsh.out HLN.out
        obtain ⟨hfit, hT'⟩ := tryS_fits htr
        obtain ⟨b, off, A, C, rfl, hbb, hcell, hrow, hrc⟩ := HR3'.out.get hlt
        obtain ⟨b1, off1, y1, rfl, hbb1, hcell1, hy1⟩ := HR1.out.get (k := i) (by rw [HLN.out]; exact hlt)
        rw [hrs] at hy1
        have hy1' := hy1.out
        subst hy1'
        obtain ⟨f1, f2⟩ := HFI.out i hlt
        obtain ⟨x, hx⟩ : ∃ x, x = tr ts i := ⟨_, rfl⟩
        rw [← hx] at hcell hrow hrc f1 f2 hfit hT'
        have HF2 := Lib.hid f2
        have HFIT := Lib.hid hfit
        have HT' := Lib.hid hT'
        have HSH2 := Lib.hid hsh2
        have hi1 : (i : Int) < (ts.length : Int) := by omega
        have hs1 : (s : Int) < (M : Int) := by omega
        clear hx f2 hfit hT' hsh2 htr hrs hy1
        have hTs : TabB wr w3.heap.size w3.heap.size M M (tkS M s x T 0) := hT
        clear hT
        have hcw := (hB.cell (p := ⟨b, off + i, none⟩) hbb).trans hcell
        go_wp2_with fail
        go_loopw [11] (fun kv wk => ∃ k : Nat, k ≤ x.length ∧ kv = .int .i64 k ∧ TabB wk w3.heap.size w3.heap.size M M (tkS M s x T k) ∧ Below w3.heap.size w3 wk) (fun kv _ => x.length - (intOf kv).toNat)
        case atStart => exact ⟨0, Nat.zero_le _, rfl, hTs, hB⟩
        case round =>
          clear hTs hB hzB hcw
          obtain ⟨k, hk, rfl, hX, hB⟩ := hrel
          have hzB := hB.size
          have hcw := (hB.cell (p := ⟨b, off + i, none⟩) hbb).trans hcell
          have hcw1 := (hB.cell (p := ⟨b1, off1 + i, none⟩) hbb1).trans hcell1
          by_cases hk2 : k < x.length
          · obtain ⟨bb, offx, y, rfl, hbx, hcellx, hy⟩ := hrow.get hk2
            have hcx := (hB.cell (p := ⟨bb, offx + k, none⟩) hbx).trans hcellx
            have hyf := HF2.out k hk2
            rw [hy.out] at hyf
            have hk1 : (k : Int) < (x.length : Int) := by omega
            obtain ⟨p, hp⟩ : ∃ p, p = pos M s y := ⟨_, rfl⟩
            have hpM : p < M := by rw [hp]; exact pos_lt (by omega)
            have hpc : (y + (s : Int)) % (M : Int) = (p : Int) := by rw [hp, pos_cast (by omega)]
            have hpc2 : (y + (s : Int)).tmod (M : Int) = (p : Int) := by rw [Int.tmod_eq_emod_of_nonneg (by omega)]; exact hpc
            have hneM : ((M : Int) == 0) = false := by simp; omega
            have hfree : (tkS M s x T k).getD p false = false := by
              have := HFIT.out k hk2
              rw [hy.out, ← hp] at this
              exact this
            obtain ⟨q, hcq, hq⟩ := hX.get (k := p) (by omega)
            have hqf : false = q := hfree.symm.trans hq.out
            subst hqf
            have hfz := hX.frozen p
            have hst := hX.store p true
            have hst2 : TabB (wr.setCell ⟨w3.heap.size, p, none⟩ (.bool true)) w3.heap.size w3.heap.size M M (tkS M s x T (k + 1)) := by rw [tkS, hy.out, ← hp]; exact hst
            have hB2 := hB.setCell (p := ⟨w3.heap.size, p, none⟩) (Nat.le_refl _) (.bool true)
            clear hp hcellx hy hst hX hB hq hfree
            have hsum : IntKind.i64.wrap (y + (s : Int)) = y + (s : Int) := IntWalk.i64_in _ (by omega)
            go_upto_region 15 with fail
            go_region
            all_goals
              go_wp2_with fail
              refine ⟨⟨k + 1, by omega, by go_num, hst2, hB2.drew⟩, ?_⟩
              simp [intOf]; omega
          · obtain rfl : k = x.length := by omega
            have hT2 : TabB wr w3.heap.size w3.heap.size M M T' := by rw [HT'.out]; exact hX
            clear hX
            go_wp2
            go_roundw
            case rel => exact ⟨i + 1, T', by omega, by go_num, HSH2, hT2, hB⟩
            case measure => simp [intOf]; omega
      · obtain rfl : i = ts.length := by omega
        have B5 := B3.trans (hB.mono z3)
        go_wp2
        go_ret
        exact ⟨by first | rfl | (simp; done), B5⟩
end Go.Proofs.Ytapkalpmnldhpaa
