/-
  impl.validScores, scoreOf, scores.ownerOf, impl.FirstFor.
-/
import Derived.Test.YtbldfhfciihddaaZ3
import Derived.Test.YtbldfhfciihddaaY4
namespace Go.Proofs.Ytbldfhfciihddaa
open Go.RowKit

/-- The least number that the next server may have. -/
def lst (l : List Int) (k : Nat) : Int := if k = 0 then 0 else l.getD (k - 1) 0 + 1
theorem lst_succ (l : List Int) (k : Nat) : lst l (k + 1) = l.getD k 0 + 1 := by simp [lst]
theorem lst_bounds {l : List Int} {k : Nat} (h : FitS l k) : 0 ≤ lst l k ∧ lst l k ≤ 41 := by
  unfold lst
  split
  · omega
  · have := h (k - 1) (by omega); omega

set_option maxHeartbeats 2000000 in
theorem validScores_any (a : Option Addr) (l : List Int) (cap : Nat) (w : World) (hr : Reads w a l) :
    Calls Try.prog 94 #[.slice a l.length cap] w fun e w' => e = .returned (.bool (VS l)) ∧ Below w.heap.size w w' := by
  by_cases h1 : l.length < 1
  · have hv : VS l = false := VS_false fun h => by have := h.1; omega
    have h0 : l.length = 0 := by omega
    rw [hv, h0]
    go_enter Try.func94, Try.ntmps94
    go_wp2
    go_ret
    exact ⟨rfl, Below.refl _ _⟩
  · by_cases h6 : 6 < l.length
    · have hv : VS l = false := VS_false fun h => by have := h.2.1; omega
      have HV := Lib.hid hv
      clear hv
      have g1 : ¬ (l.length : Int) < 1 := by omega
      have g2 : (6 : Int) < (l.length : Int) := by omega
      go_enter Try.func94, Try.ntmps94
      go_wp2
      go_ret
      exact ⟨ret_bool HV.out.symm, Below.refl _ _⟩
    · have g1 : ¬ (l.length : Int) < 1 := by omega
      have g2 : ¬ (6 : Int) < (l.length : Int) := by omega
      have HL := Lib.hid (show 1 ≤ l.length ∧ l.length ≤ 6 from by omega)
      go_enter Try.func94, Try.ntmps94
      go_wp2
      go_loop [3, 16] (fun mv i => ∃ (k : Nat) (m : Int), k ≤ l.length ∧ i = .int .i64 k ∧ mv = .int .i64 m ∧ Hid (FitS l k) ∧ Hid (m = lst l k)) (fun _ i => l.length - (intOf i).toNat)
      case atStart => exact ⟨0, 0, Nat.zero_le _, rfl, rfl, FitS.zero l, rfl⟩
      case round =>
        obtain ⟨k, m, hk, rfl, rfl, hf, hm⟩ := hrel
        by_cases hlt : k < l.length
        · obtain ⟨b, off, y, rfl, hbb, hcell, hy⟩ := hr.get hlt
          have hk2 : (k : Int) < (l.length : Int) := by omega
          have hmb := lst_bounds hf.out
          rw [← hm.out] at hmb
          by_cases g3 : y < m
          · have hv : VS l = false := VS_false fun h => by
              have h2 := h.2.2 k hlt
              rw [hy.out] at h2
              have h3 := hm.out
              unfold lst at h3
              by_cases hk0 : k = 0
              · rw [if_pos hk0] at h3; omega
              · rw [if_neg hk0] at h3; have := h2.2.2 (by omega); omega
            have HV := Lib.hid hv
            clear hv hy
            go_wp2
            go_ret
            exact ⟨ret_bool HV.out.symm, Below.refl _ _⟩
          · by_cases g4 : 40 < y
            · have hv : VS l = false := VS_false fun h => by
                have h2 := h.2.2 k hlt
                rw [hy.out] at h2
                omega
              have HV := Lib.hid hv
              clear hv hy
              go_wp2
              go_ret
              exact ⟨ret_bool HV.out.symm, Below.refl _ _⟩
            · have hn : FitS l (k + 1) := hf.out.succ (by rw [hy.out]; omega) (by rw [hy.out]; omega) (fun hk0 => by
                rw [hy.out]
                have h3 := hm.out
                unfold lst at h3
                rw [if_neg (by omega)] at h3
                omega)
              have HN := Lib.hid hn
              have HLS := Lib.hid (show lst l (k + 1) = y + 1 by rw [lst_succ, hy.out])
              have hyw : IntKind.i64.wrap (y + 1) = y + 1 := IntWalk.i64_in _ (by omega)
              clear hn hy
              go_wp2
              go_round
              case rel => exact ⟨k + 1, y + 1, by omega, by go_num, rfl, HN, Lib.hid HLS.out.symm⟩
              case measure => simp [intOf]; omega
        · obtain rfl : k = l.length := by omega
          have hv : VS l = true := VS_iff.2 ⟨HL.out.1, HL.out.2, hf.out⟩
          have HV := Lib.hid hv
          clear hv
          go_wp2
          go_ret
          exact ⟨ret_bool HV.out.symm, Below.refl _ _⟩

theorem sco_eq2 (s k : Int) : sco s k = (7 * s * s + 5 * s * k + 3 * k + s) % 97 := rfl
set_option maxHeartbeats 1000000 in
theorem scoreOf_any (s k : Int) (w : World) (hs : 0 ≤ s) (hs' : s ≤ 40) (hk : 0 ≤ k) (hk' : k ≤ 63) :
    Calls Try.prog 134 #[.int .i64 s, .int .i64 k] w fun e w' => e = .returned (.int .i64 (sco s k)) ∧ w = w' := by
  obtain ⟨b1, b2, b3, b4⟩ := sco_bounds hs hs' hk hk'
  have e1 : 7 * s * s = 7 * (s * s) := Int.mul_assoc _ _ _
  have e2 : 5 * s * k = 5 * (s * k) := Int.mul_assoc _ _ _
  have n1 : 0 ≤ 7 * s * s ∧ 7 * s * s ≤ 11200 := by rw [e1]; omega
  have n2 : 0 ≤ 5 * s * k ∧ 5 * s * k ≤ 12600 := by rw [e2]; omega
  obtain ⟨n3, n4⟩ := n1
  obtain ⟨n5, n6⟩ := n2
  clear e1 e2 b1 b2 b3 b4
  go_enter Try.func134, Try.ntmps134
  go_wp2
  go_ret
  exact ⟨rfl, rfl⟩

set_option maxHeartbeats 2000000 in
theorem cmpScore_any (Bk : Nat) (x y k : Int) (w : World) (hk : w.cell? ⟨Bk, 0, none⟩ = some (.int .i64 k)) (k0 : 0 ≤ k) (k1 : k ≤ 63) (x0 : 0 ≤ x) (x1 : x ≤ 40) (y0 : 0 ≤ y) (y1 : y ≤ 40) :
    Calls Try.prog 133 #[.int .i64 x, .int .i64 y, .pointer (some ⟨Bk, 0, none⟩)] w fun e w' => e = .returned (.int .i64 (cpi (sco x k) (sco y k))) ∧ ∃ n, w' = w.drewN n := by
  have c1 := fun wx => scoreOf_any x k wx x0 x1 k0 k1
  have c2 := fun wx => scoreOf_any y k wx y0 y1 k0 k1
  have c3 := fun wx => compare_any (sco x k) (sco y k) wx
  obtain ⟨T1, hT1⟩ : ∃ T, T = sco x k := ⟨_, rfl⟩
  obtain ⟨T2, hT2⟩ : ∃ T, T = sco y k := ⟨_, rfl⟩
  rw [← hT1] at c1 c3 ⊢
  rw [← hT2] at c2 c3 ⊢
  obtain ⟨R, hR⟩ : ∃ R, R = cpi T1 T2 := ⟨_, rfl⟩
  rw [← hR] at c3 ⊢
  have D1 := Lib.hid (fun n => c1 (w.drewN n))
  have D2 := Lib.hid (fun n => c2 (w.drewN n))
  have D3 := Lib.hid (fun n => c3 (w.drewN n))
  clear c1 c2 c3 hT1 hT2 hR
  go_enter Try.func133, Try.ntmps133
  go_wp2_with fail
  go_quiet ((with_reducible first | (go_at_call 92; exact quiet_l0 (D3.out _)) | (go_at_call 134; exact quiet_l0 (D1.out _)) | (go_at_call 134; exact quiet_l0 (D2.out _))))
  all_goals
    go_wp2
    go_ret
    exact ⟨rfl, _, rfl⟩

set_option maxHeartbeats 4000000 in
theorem maxFunc_any (Bk : Nat) (a : Option Addr) (l : List Int) (cap : Nat) (k : Int) (w : World) (hr : Reads w a l) (hv : VS l = true) (hc : w.cell? ⟨Bk, 0, none⟩ = some (.int .i64 k)) (hk : 0 ≤ k) (hk' : k ≤ 63) :
    Calls Try.prog 132 #[.slice a l.length cap, .func (.func 133) #[] #[.pointer (some ⟨Bk, 0, none⟩)]] w fun e w' => e = .returned (.int .i64 (l.getD (fst' l k) 0)) ∧ ∃ n, w' = w.drewN n := by
  have hl1 := (VS_iff.1 hv).1
  have hl6 := (VS_iff.1 hv).2.1
  have HF := Lib.hid (VS_iff.1 hv).2.2
  clear hv
  obtain ⟨b, off, y0, rfl, hb, hc0, hy0⟩ := hr.get (k := 0) (by omega)
  rw [Nat.add_zero] at hc0
  have h0l : 0 < l.length := by omega
  have h0n : ¬ (l.length : Int) < 1 := by omega
  obtain ⟨f, hf⟩ : ∃ f : Nat → Int, f = fun i => - sco (l.getD i 0) k := ⟨_, rfl⟩
  have HFF := Lib.hid hf
  clear hf
  go_enter Try.func132, Try.ntmps132
  go_wp2
  go_loopw [5, 6] (fun bv i wr => ∃ (t t1 q : Nat) (x : Int), t + 1 ≤ l.length ∧ i = .int .i64 (t1 : Int) ∧ bv = .int .i64 x ∧ Hid (t1 = t + 1) ∧ Hid (l.getD (bsm f t) 0 = x) ∧ wr = w.drewN q) (fun _ i _ => l.length - (intOf i).toNat)
  case atStart => exact ⟨0, 1, 0, y0, by omega, rfl, rfl, rfl, hy0, rfl⟩
  case round =>
    clear hc0 hy0
    obtain ⟨t, t1, q, x, ht, rfl, rfl, HT1, HX, rfl⟩ := hrel
    by_cases hlt : t + 1 < l.length
    · have hbt := bsm_le f t
      obtain ⟨y, hcy, hy⟩ := hr.at_ hlt
      have hnew : bsm f (t + 1) = if f (t + 1) < f (bsm f t) then t + 1 else bsm f t := rfl
      have e1 : f (t + 1) = - sco y k := by rw [HFF.out]; show - sco (l.getD (t + 1) 0) k = _; rw [hy.out]
      have e2 : f (bsm f t) = - sco x k := by
        conv => lhs; rw [show f = fun i => - sco (l.getD i 0) k from HFF.out]
        show - sco (l.getD (bsm (fun i => - sco (l.getD i 0) k) t) 0) k = _
        rw [← HFF.out, HX.out]
      rw [e1, e2] at hnew
      have ry := HF.out _ hlt
      have rx := HF.out (bsm f t) (by omega)
      rw [hy.out] at ry
      rw [HX.out] at rx
      have cc := fun n => cmpScore_any Bk y x k (w.drewN n) hc hk hk' ry.1 ry.2.1 rx.1 rx.2.1
      have hcp := cpi_gt (x := sco y k) (y := sco x k)
      obtain ⟨c, hce⟩ : ∃ c, c = cpi (sco y k) (sco x k) := ⟨_, rfl⟩
      rw [← hce] at cc hcp
      have CC := Lib.hid cc
      have ht1 : (t1 : Int) < (l.length : Int) := by have := HT1.out; omega
      rw [← HT1.out] at hcy
      have HY := Lib.hid (show l.getD t1 0 = y by rw [HT1.out]; exact hy.out)
      clear cc hce e1 e2 ry rx hy
      by_cases hgt : 0 < c
      · rw [if_pos (by have := hcp.1 hgt; omega)] at hnew
        have HN := Lib.hid hnew
        clear hnew hcp
        go_wp2_with fail
        refine (CC.out q).mono ?_
        rintro e w2 ⟨rfl, n, rfl⟩
        go_wp2
        go_roundw
        case rel => exact ⟨t1, t1 + 1, _, y, by have := HT1.out; omega, by first | rfl | go_num, rfl, rfl, Lib.hid (by rw [HT1.out, HN.out, ← HT1.out]; exact HY.out), rfl⟩
        case measure => simp [intOf]; omega
      · rw [if_neg (by intro h; exact hgt (hcp.2 (by omega)))] at hnew
        have HN := Lib.hid hnew
        clear hnew hcp
        go_wp2_with fail
        refine (CC.out q).mono ?_
        rintro e w2 ⟨rfl, n, rfl⟩
        go_wp2
        go_roundw
        case rel => exact ⟨t1, t1 + 1, _, x, by have := HT1.out; omega, by first | rfl | go_num, rfl, rfl, Lib.hid (by rw [HT1.out, HN.out]; exact HX.out), rfl⟩
        case measure => simp [intOf]; omega
    · have ht1 : ¬ (t1 : Int) < (l.length : Int) := by have := HT1.out; omega
      have e : l.getD (fst' l k) 0 = x := by
        unfold fst'
        rw [← HFF.out, show l.length - 1 = t from by omega]; exact HX.out
      have E := Lib.hid e
      clear e
      go_wp2
      go_ret
      exact ⟨ret_int E.out.symm, _, rfl⟩

set_option maxHeartbeats 1000000 in
theorem scoresOwner_any (a : Option Addr) (l : List Int) (cap : Nat) (k : Int) (w : World) (hr : Reads w a l) (hv : VS l = true) (k0 : 0 ≤ k) (k1 : k ≤ 63) :
    Calls Try.prog 131 #[.slice a l.length cap, .int .i64 k] w fun e w' => e = .returned (.int .i64 (l.getD (fst' l k) 0)) ∧ Below w.heap.size w w' := by
  have bA := (Below.refl w.heap.size w).alloc (Nat.le_refl _) (.cells #[.int .i64 k] 3)
  have hck : (w.alloc (.cells #[.int .i64 k] 3)).cell? ⟨w.heap.size, 0, none⟩ = some (.int .i64 k) := by simp
  have C := Lib.hid (maxFunc_any w.heap.size a l cap k _ (hr.below bA) hv hck k0 k1)
  obtain ⟨R, hR⟩ : ∃ R, R = l.getD (fst' l k) 0 := ⟨_, rfl⟩
  rw [← hR] at C ⊢
  clear hR hck
  go_enter Try.func131, Try.ntmps131
  go_wp2_with fail
  refine C.out.mono ?_
  rintro e w' ⟨rfl, n, rfl⟩
  go_wp2
  go_ret
  exact ⟨rfl, below_drewN bA n⟩

set_option maxRecDepth 100000 in
set_option maxHeartbeats 1000000 in
theorem spreadScores_any (a : Option Addr) (l : List Int) (cap : Nat) (w : World) (hr : Reads w a l) :
    Calls Try.prog 85 #[.iface 62 (.slice a l.length cap)] w fun e w' => e = .returned (.bool (VS l)) ∧ Below w.heap.size w w' := by
  have C := Lib.hid (validScores_any a l cap w hr)
  obtain ⟨R, hR⟩ : ∃ R, R = VS l := ⟨_, rfl⟩
  rw [← hR] at C ⊢
  clear hR
  go_enter Try.func85, Try.ntmps85
  go_wp2_with fail
  refine C.out.mono ?_
  rintro e w' ⟨rfl, hB⟩
  go_wp2
  go_ret
  exact ⟨rfl, hB⟩

set_option maxRecDepth 100000 in
set_option maxHeartbeats 1000000 in
theorem ownerByScores_any (a : Option Addr) (l : List Int) (cap : Nat) (k : Int) (w : World) (hr : Reads w a l) :
    Calls Try.prog 63 #[.iface 62 (.slice a l.length cap), .int .i64 k] w fun e w' => e = .returned (.int .i64 (FF l k)) ∧ Below w.heap.size w w' := by
  have cP := fun wx => isPlace_any k wx
  have cS := spreadScores_any a l cap w hr
  obtain ⟨R, hR⟩ : ∃ R, R = FF l k := ⟨_, rfl⟩
  rw [← hR]
  have HR := Lib.hid hR
  clear hR
  by_cases g : inR k 0 63 = true
  · have r := inR_iff.1 g
    rw [g] at cP
    have CP := Lib.hid cP
    clear cP g
    by_cases hv : VS l = true
    · rw [hv] at cS
      have CS := Lib.hid cS
      have e : R = l.getD (fst' l k) 0 := by rw [HR.out]; exact FF_yes hv r.1 r.2
      have CO := Lib.hid (fun wx h => scoresOwner_any a l cap k wx h hv r.1 r.2)
      rw [← e] at CO
      clear cS hv e
      go_enter Try.func63, Try.ntmps63
      go_wp2_with fail
      refine (CP.out _).mono ?_
      rintro e w' ⟨rfl, rfl⟩
      go_wp2_with fail
      refine CS.out.mono ?_
      rintro e w1 ⟨rfl, b1⟩
      have hr1 := hr.below b1
      go_wp2_with fail
      refine (CO.out w1 hr1).mono ?_
      rintro e w2 ⟨rfl, b2⟩
      have b := b1.trans (b2.mono b1.size)
      go_wp2
      go_ret
      exact ⟨rfl, b⟩
    · have e : R = -1 := by rw [HR.out]; exact FF_no fun h => hv h.1
      subst e
      rw [show VS l = false from by simpa using hv] at cS
      have CS := Lib.hid cS
      clear cS hv
      go_enter Try.func63, Try.ntmps63
      go_wp2_with fail
      refine (CP.out _).mono ?_
      rintro e w' ⟨rfl, rfl⟩
      go_wp2_with fail
      refine CS.out.mono ?_
      rintro e w1 ⟨rfl, b1⟩
      go_wp2
      go_ret
      exact ⟨rfl, b1⟩
  · have e : R = -1 := by rw [HR.out]; exact FF_no fun h => g (inR_iff.2 h.2)
    subst e
    rw [show inR k 0 63 = false from by simpa using g] at cP
    have CP := Lib.hid cP
    clear cP g cS
    go_enter Try.func63, Try.ntmps63
    go_wp2_with fail
    refine (CP.out _).mono ?_
    rintro e w' ⟨rfl, rfl⟩
    go_wp2
    go_ret
    exact ⟨rfl, Below.refl _ _⟩

theorem implFirstFor_any (a : Option Addr) (l : List Int) (cap : Nat) (k : Int) (w : World) (hr : Reads w a l) (_hi : ∀ n ∈ l, In64 n) (_hl : l.length ≤ 1048586) (_hk : In64 k) :
    Calls Try.prog 37 #[.slice a l.length cap, .int .i64 k] w fun e w' => e = .returned (.int .i64 (FF l k)) ∧ Below w.heap.size w w' := by
  have C := Lib.hid (ownerByScores_any a l cap k w hr)
  obtain ⟨R, hR⟩ : ∃ R, R = FF l k := ⟨_, rfl⟩
  rw [← hR] at C ⊢
  clear hR
  go_enter Try.func37, Try.ntmps37
  go_wp2_with fail
  refine C.out.mono ?_
  rintro e w' ⟨rfl, hB⟩
  go_wp2
  go_ret
  exact ⟨rfl, hB⟩
end Go.Proofs.Ytbldfhfciihddaa
