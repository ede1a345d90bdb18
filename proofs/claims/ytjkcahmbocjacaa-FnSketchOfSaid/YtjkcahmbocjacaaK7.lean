/-
  spec.SketchOf.
-/
import Derived.Test.YtjkcahmbocjacaaK6
import Derived.Test.YtjkcahmbocjacaaTc
namespace Go.Proofs.Ytjkcahmbocjacaa
open Go.RowKit

theorem quiet_pd {P : Program} {f : FuncId} {args : Array Value} {w : World} {n : Nat} {v : Value}
    (h : Calls P f args (w.drewN n) fun e w' => e = .returned v ∧ ∃ q, w' = (w.drewN n).drewN q) :
    Calls P f args (w.drewN n) fun e w'' => e = .returned v ∧ ∃ m, w'' = w.drewN m :=
  h.mono fun _ _ ⟨he, q, hm⟩ => ⟨he, n + q, by rw [hm, World.drewN_drewN]⟩
theorem quiet_pf {P : Program} {f : FuncId} {args : Array Value} {w : World} {n : Nat} {v : Value}
    (h : Calls P f args (w.drewN n) fun e w' => e = .returned v ∧ w.drewN n = w') :
    Calls P f args (w.drewN n) fun e w'' => e = .returned v ∧ ∃ m, w'' = w.drewN m :=
  h.mono fun _ _ ⟨he, hm⟩ => ⟨he, n, hm.symm⟩
set_option maxHeartbeats 8000000 in
theorem specSketchOf_any (a : Option Addr) (ts : List (List Int)) (cap : Nat) (set : Int) (w : World) (hr : ReadsS w a ts) (hl : bulk ts ≤ 1048586) (_hs : In64 set) :
    Calls Try.prog 50 #[.slice a ts.length cap, .int .i64 set] w fun e w' => ∃ v, e = .returned v ∧ Own w' w.heap.size v (SKO ts set) ∧ Below w.heap.size w w' := by
  have hblen := bulk_len ts
  by_cases h6 : ts.length ≤ 6
  rotate_left
  · have e : SKO ts set = [] := by unfold SKO; exact if_neg fun h => h6 h.1
    rw [e]
    have h6' : (ts.length : Int) > 6 := by omega
    go_enter Try.func50, Try.ntmps50
    go_wp2
    go_ret
    exact ⟨_, rfl, Own.nil _ _, Below.refl _ _⟩
  have h6' : ¬ (ts.length : Int) > 6 := by omega
  obtain ⟨R, hR⟩ : ∃ R, R = SKO ts set := ⟨_, rfl⟩
  rw [← hR]
  have HR := Lib.hid hR
  clear hR
  obtain ⟨N, hN⟩ : ∃ N, N = (tr ts 0).length := ⟨_, rfl⟩
  have HN := Lib.hid hN
  clear hN
  have BAD : ∀ i, i < ts.length → ¬ OK5 N set (tr ts i) → R = [] := fun i hi h => by
    rw [HR.out]; unfold SKO; refine if_neg fun hv => h ?_
    rw [HN.out]; exact hv.2 i hi
  have HBAD := Lib.hid BAD
  clear BAD
  have ho1 : Own (w.alloc (.cells #[] 3)) w.heap.size (.slice (some ⟨w.heap.size, 0, none⟩) 0 0) [] := Own.lit0 w w.heap.size (Nat.le_refl _)
  have hB1 := (Below.refl w.heap.size w).alloc (Nat.le_refl _) (.cells #[] 3)
  go_enter Try.func50, Try.ntmps50
  go_wp2
  go_loopw [5, 6] (fun v iv wr => ∃ (i : Nat), i ≤ ts.length ∧ iv = .int .i64 (i : Int) ∧ Hid (∀ j, j < i → OK5 N set (tr ts j)) ∧ Own wr w.heap.size v ((ts.take i).map (fi set.toNat)) ∧ Below w.heap.size w wr) (fun _ iv _ => ts.length - (intOf iv).toNat)
  case atStart => exact ⟨0, by omega, rfl, (fun j hj => by omega), by simpa using ho1, hB1⟩
  case round =>
    clear ho1 hB1
    rename World => wo
    obtain ⟨i, hi, rfl, hok, ho, hB⟩ := hrel
    by_cases hlt : i < ts.length
    · have hi1 : (i : Int) < (ts.length : Int) := by omega
      have hi0 : (0 : Int) < (ts.length : Int) := by omega
      have hro := hr.below hB
      obtain ⟨b, off, A0, C0, rfl, hb, hc0, _, _⟩ := hro.get (r := 0) (by omega)
      rw [Nat.add_zero, ← HN.out] at hc0
      obtain ⟨A, C, hcj, hrj, hlej⟩ := hro.at_ hlt
      have hbk := bulk_row hlt
      have htk : (ts.take (i + 1)).map (fi set.toNat) = (ts.take i).map (fi set.toNat) ++ [fi set.toNat (tr ts i)] := by
        rw [List.take_succ_eq_append_getElem hlt, List.map_append, ← tr_eq hlt]; rfl
      have HTK := Lib.hid htk
      obtain ⟨t, ht⟩ : ∃ t, t = tr ts i := ⟨_, rfl⟩
      rw [← ht] at hcj hrj hlej hbk
      have HT := Lib.hid ht
      clear ht htk
      have cv := fun q => specValidOrder_any A t C (wo.drewN q) hrj (by omega) hlej
      obtain ⟨V, hV⟩ : ∃ V, V = VO5 t := ⟨_, rfl⟩
      rw [← hV] at cv
      have HV := Lib.hid hV
      have D1 := Lib.hid cv
      clear hV cv
      obtain ⟨L, hL⟩ : ∃ L, L = t.length := ⟨_, rfl⟩
      have HL := Lib.hid hL
      rw [← hL] at hcj hlej D1 hbk
      clear hL
      cases V with
      | false =>
        have e : R = [] := HBAD.out i hlt fun h => by
          have h2 := HV.out
          rw [← HT.out] at h
          unfold VO5 at h2
          have : (1 ≤ t.length ∧ t.length ≤ 5) ∧ VOn t.length t := by rw [h.1]; exact ⟨h.2.1, h.2.2.1⟩
          rw [decide_eq_true this] at h2; cases h2
        subst e
        clear hok ho
        go_wp2_with fail
        go_quiet ((with_reducible first | (go_at_call 90; exact quiet_pd (D1.out _))))
        all_goals
          go_wp2
          go_ret
          exact ⟨_, rfl, Own.nil _ _, below_drewN hB _⟩
      | true =>
        have hvo : (1 ≤ t.length ∧ t.length ≤ 5) ∧ VOn t.length t := by
          have h2 := HV.out
          unfold VO5 at h2
          simpa using h2.symm
        rw [← HL.out] at hvo
        by_cases hn : L = N
        rotate_left
        · have e : R = [] := HBAD.out i hlt fun h => hn (by rw [HL.out, HT.out]; exact h.1)
          have hne : ((L : Int) != (N : Int)) = true := by simp; omega
          subst e
          clear hok ho hvo
          go_wp2_with fail
          go_quiet ((with_reducible first | (go_at_call 90; exact quiet_pd (D1.out _))))
          all_goals
            go_wp2
            go_ret
            exact ⟨_, rfl, Own.nil _ _, below_drewN hB _⟩
        subst hn
        have hne : ((L : Int) != (L : Int)) = false := by simp
        have hLb := hvo.1
        have hp := pow_small (n := L) (by omega)
        have hp5 : (2 ^ L : Nat) ≤ 2 ^ 5 := Nat.pow_le_pow_right (by omega) hvo.1.2
        obtain ⟨T, hT⟩ : ∃ T, T = 2 ^ L := ⟨_, rfl⟩
        have cp := fun wx => power_any L wx (by omega)
        rw [← hT] at cp hp5 hp
        have D2 := Lib.hid (fun q => cp (wo.drewN q))
        have HT2 := Lib.hid hT
        have ci := fun wx => inRange_any set 1 ((T : Int) - 1) wx
        clear hT cp
        by_cases hin : inR set 1 ((T : Int) - 1) = true
        rotate_left
        · have e : R = [] := HBAD.out i hlt fun h => hin (inR_iff.2 (by
            have h1 := h.2.2.2
            rw [← HT2.out] at h1
            omega))
          rw [show inR set 1 ((T : Int) - 1) = false by simpa using hin] at ci
          have D3 := Lib.hid (fun q => ci (wo.drewN q))
          subst e
          clear hok ho hvo ci hin
          go_wp2_with fail
          go_quiet ((with_reducible first | (go_at_call 90; exact quiet_pd (D1.out _)) | (go_at_call 86; exact quiet_pf (D2.out _)) | (go_at_call 75; exact quiet_pf (D3.out _))))
          all_goals
            go_wp2
            go_ret
            exact ⟨_, rfl, Own.nil _ _, below_drewN hB _⟩
        have hin' := inR_iff.1 hin
        rw [hin] at ci
        have D3 := Lib.hid (fun q => ci (wo.drewN q))
        have ok : OK5 L set (tr ts i) := by
          rw [← HT.out]
          refine ⟨HL.out.symm, hvo.1, hvo.2, hin'.1, ?_⟩
          rw [← HT2.out]; omega
        have HOK : Hid (∀ j, j < i + 1 → OK5 L set (tr ts j)) := fun j hj => by
          by_cases e : j = i
          · subst e; exact ok
          · exact hok.out j (by omega)
        obtain ⟨S, rfl⟩ : ∃ S : Nat, set = S := ⟨set.toNat, by omega⟩
        have cf := fun q => specFirstIn_any S A t C (wo.drewN q) hrj (by have := HL.out; omega) (by omega) (fun x hx => by rw [HT.out] at hx; have := ok.2.2.1.all.2 x hx; omega)
        obtain ⟨y, hy⟩ : ∃ y, y = fi S t := ⟨_, rfl⟩
        rw [← hy, ← HL.out] at cf
        have HY := Lib.hid hy
        have CF := Lib.hid cf
        clear cf hy ci hin hok ok hvo
        have hSK : fi ((S : Int).toNat) (tr ts i) = y := by rw [Int.toNat_natCast, ← HT.out, HY.out]
        have htk := HTK.out
        rw [hSK] at htk
        obtain ⟨kl, hkl⟩ : ∃ kl, kl = (ts.take i).map (fi ((S : Int).toNat)) := ⟨_, rfl⟩
        rw [← hkl] at ho htk
        have hln : kl.length ≤ 6 := by rw [hkl]; simp; omega
        clear hkl
        have HTK2 := Lib.hid htk
        clear htk hSK
        go_wp2_with fail
        go_quiet ((with_reducible first | (go_at_call 90; exact quiet_pd (D1.out _)) | (go_at_call 86; exact quiet_pf (D2.out _)) | (go_at_call 75; exact quiet_pf (D3.out _))))
        all_goals
          have ho2 := ho.below (below_drewN (Below.refl wo.heap.size wo) nq)
          have hB2 := below_drewN hB nq
          have hz2 := hB2.size
          clear hB ho D1 D2 D3
          go_wp2_with fail
          refine (CF.out _).mono ?_
          rintro e w' ⟨rfl, rfl⟩
          go_wp2_with (at_builtin; refine push_int rfl (.tmp 47) (.tmp 54) rfl w.heap.size _ _ y rfl ho2 rfl (by omega) hz2 ?_)
          intro v' we oe ne ge
          rw [← HTK2.out] at oe
          have hB3 := hB2.grown ge hB2.size (fun k hk => (ho2.lt k hk).1)
          clear ho2 hB2 ge
          go_wp2
          go_roundw
          case rel => exact ⟨i + 1, by omega, by go_num, HOK, oe, hB3⟩
          case measure => simp [intOf]; omega
    · obtain rfl : i = ts.length := by omega
      have e : R = (ts.take ts.length).map (fi set.toNat) := by
        rw [HR.out]; unfold SKO
        rw [List.take_length]
        exact if_pos ⟨h6, fun j hj => by rw [show (ts.getD 0 []).length = N from HN.out.symm]; exact hok.out j hj⟩
      rw [← e] at ho
      clear e
      go_wp2
      go_ret
      exact ⟨_, rfl, ho, hB⟩
end Go.Proofs.Ytjkcahmbocjacaa
