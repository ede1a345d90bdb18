/-
  spec.roomy, spec.IsRoomy.
-/
import Derived.Test.YtlkhobofbkoliaaPG
import Derived.Test.YtlkhobofbkoliaaG2
namespace Go.Proofs.Ytlkhobofbkoliaa
open Go.RowKit

set_option maxHeartbeats 2000000 in
set_option maxRecDepth 100000 in
theorem roomy_any (M : Nat) (a : Option Addr) (l : List (Int × Int)) (cap : Nat) (w : World) (hr : ReadsP w a l) (hP : Prs M l) :
    Calls Try.prog 91 #[.int .i64 M, .slice a l.length cap] w fun e w' => e = .returned (.bool (rmy M l)) ∧ Below w.heap.size w w' := by
  have hM := hP.le
  have hM1 := hP.pos
  have hlen := hP.len
  obtain ⟨hG, _⟩ := gra_inv hP
  have hgl := hG.len
  have HGL := Lib.hid hgl
  clear hgl
  go_enter Try.func91, Try.ntmps91
  go_wp2_with fail
  refine (groups_any M _ l _ _ hr hP).mono ?_
  rintro e w1 ⟨v, rfl, ho, hb⟩
  obtain ⟨gv, cv, rfl, hT⟩ := ho.tab (by rw [HGL.out]; omega)
  rw [HGL.out] at hT ⊢
  clear ho
  obtain ⟨X, hX⟩ : ∃ X, X = gra M l := ⟨_, rfl⟩
  rw [← hX] at hT HGL
  have HX := Lib.hid hX
  clear hX hG
  go_wp2
  go_loop [6] (fun gg => ∃ g : Nat, g ≤ M ∧ gg = .int .i64 g ∧ ∀ i, i < g → cK l X i ≤ cS X i) (fun gg => M - (intOf gg).toNat)
  case atStart => exact ⟨0, Nat.zero_le _, rfl, fun i hi => by omega⟩
  case round =>
    obtain ⟨g, hg, rfl, hok⟩ := hrel
    have HOK := Lib.hid hok
    clear hok
    by_cases hlt : g < M
    · go_wp2
      go_loop [7, 8] (fun n i => ∃ k : Nat, k ≤ M ∧ i = .int .i64 k ∧ n = .int .i64 (nS X g k : Nat)) (fun _ i => M - (intOf i).toNat)
      case atStart => exact ⟨0, Nat.zero_le _, rfl, by rw [nS_zero]; rfl⟩
      case round =>
        obtain ⟨k, hk, rfl, rfl⟩ := hrel
        have hnb := nS_le X g k
        rw [HGL.out] at hnb
        by_cases hlt2 : k < M
        · obtain ⟨y, hc, hy⟩ := hT.get hlt2
          by_cases e : y = g
          · have hb1 : (y == (g : Int)) = true := by simp [e]
            have hn := nS_yes (X := X) (g := g) (k := k) (by rw [HGL.out]; exact hlt2) (by rw [hy.out]; exact e)
            have HN := Lib.hid hn
            clear hn e
            go_wp2
            go_round
            case rel => exact ⟨k + 1, by omega, by go_num, by rw [HN.out]; go_num⟩
            case measure => simp [intOf]; omega
          · have hb1 : (y == (g : Int)) = false := by simpa using e
            have hn := nS_no (X := X) (g := g) (k := k) (by rw [HGL.out]; exact hlt2) (by rw [hy.out]; exact e)
            have HN := Lib.hid hn
            clear hn e
            go_wp2
            go_round
            case rel => exact ⟨k + 1, by omega, by go_num, by rw [HN.out]⟩
            case measure => simp [intOf]; omega
        · obtain rfl : M = k := by omega
          obtain ⟨c, hc⟩ : ∃ c, c = nS X g M := ⟨_, rfl⟩
          rw [← hc] at hnb ⊢
          have HC := Lib.hid hc
          clear hc
          go_wp2
          go_loop [7, 9] (fun n i => ∃ j : Nat, j ≤ l.length ∧ i = .int .i64 j ∧ n = .int .i64 ((c : Int) - (nK l X g j : Nat))) (fun _ i => l.length - (intOf i).toNat)
          case atStart => exact ⟨0, Nat.zero_le _, rfl, by rw [nK_zero]; simp⟩
          case round =>
            obtain ⟨j, hj, rfl, rfl⟩ := hrel
            have hkb := nK_le l X g j
            by_cases hlt3 : j < l.length
            · obtain ⟨b, off, x, x2, rfl, hbb, hcx, hcy, hx, hx2⟩ := hr.get hlt3
              have fx := hP.cA hlt3
              have lx := hP.lA hlt3
              obtain ⟨p, hp⟩ : ∃ p, p = hA l j := ⟨_, rfl⟩
              rw [hx.out, ← hp] at fx
              rw [← hp] at lx
              have HP := Lib.hid hp
              clear hp hx hx2
              subst fx
              have c1 : w1.cell? ⟨b, off + j * 2, none⟩ = some (.int .i64 p) := (hb.cell (by exact hbb)).trans hcx
              clear hcx hcy
              obtain ⟨y, hcy, hy⟩ := hT.get lx
              by_cases e : y = g
              · have hb1 : (y == (g : Int)) = true := by simp [e]
                have hn := nK_yes (l := l) (X := X) (g := g) (k := j) hlt3 (by rw [← HP.out, hy.out]; exact e)
                have HN := Lib.hid hn
                clear hn e
                go_wp2
                go_round
                case rel => exact ⟨j + 1, by omega, by go_num, by rw [HN.out]; go_num⟩
                case measure => simp [intOf]; omega
              · have hb1 : (y == (g : Int)) = false := by simpa using e
                have hn := nK_no (l := l) (X := X) (g := g) (k := j) hlt3 (by rw [← HP.out, hy.out]; exact e)
                have HN := Lib.hid hn
                clear hn e
                go_wp2
                go_round
                case rel => exact ⟨j + 1, by omega, by go_num, by rw [HN.out]⟩
                case measure => simp [intOf]; omega
            · obtain rfl : j = l.length := by omega
              have hcS : c = cS X g := by rw [HC.out, ← HGL.out, nS_all]
              have hcK := nK_all l X g
              have HS := Lib.hid hcS
              have HK := Lib.hid hcK
              clear hcS hcK
              obtain ⟨d, hd⟩ : ∃ d, d = nK l X g l.length := ⟨_, rfl⟩
              rw [← hd] at hkb ⊢
              have HD := Lib.hid hd
              clear hd
              by_cases hneg : c < d
              · have hv : rmy M l = false := rmy_no hlt (by rw [← HX.out, ← HS.out, ← HK.out, ← HD.out]; exact hneg)
                have HV := Lib.hid hv
                clear hv
                go_wp2
                go_ret
                exact ⟨ret_bool HV.out.symm, hb⟩
              · go_wp2
                go_round
                case rel =>
                  refine ⟨g + 1, by omega, by go_num, fun i hi => ?_⟩
                  by_cases e : i = g
                  · subst e; rw [← HS.out, ← HK.out, ← HD.out]; omega
                  · exact HOK.out i (by omega)
                case measure => simp [intOf]; omega
    · obtain rfl : M = g := by omega
      have hv : rmy M l = true := rmy_yes (by rw [← HX.out]; exact HOK.out)
      have HV := Lib.hid hv
      clear hv
      go_wp2
      go_ret
      exact ⟨ret_bool HV.out.symm, hb⟩

theorem specIsRoomy_any (m : Int) (a : Option Addr) (l : List (Int × Int)) (cap : Nat) (w : World) (hm : In64 m) (hr : ReadsP w a l) (_hl : l.length ≤ 1048586) :
    Calls Try.prog 41 #[.int .i64 m, .slice a l.length cap] w fun e w' => e = .returned (.bool (IRm m l)) ∧ Below w.heap.size w w' := by
  by_cases hv : VP m l = true
  · obtain ⟨M, rfl, hP⟩ := Prs.of_VP hv
    have e : IRm M l = rmy M l := by unfold IRm; rw [hv]; simp
    rw [e]
    have HV := Lib.hid hv
    clear hv e
    go_enter Try.func41, Try.ntmps41
    go_wp2_with fail
    refine (specvalidPairs_any _ _ _ _ _ hr hm _hl).mono ?_
    rintro e w0 ⟨rfl, rfl⟩
    rw [HV.out]
    go_wp2_with fail
    refine (roomy_any M _ _ _ _ hr hP).mono ?_
    rintro e w0 ⟨rfl, hb⟩
    go_wp2
    go_ret
    exact ⟨rfl, hb⟩
  · have hv' : VP m l = false := by simpa using hv
    have e : IRm m l = false := by unfold IRm; rw [hv']; rfl
    rw [e]
    clear hv e
    have HV := Lib.hid hv'
    clear hv'
    go_enter Try.func41, Try.ntmps41
    go_wp2_with fail
    refine (specvalidPairs_any _ _ _ _ _ hr hm _hl).mono ?_
    rintro e w0 ⟨rfl, rfl⟩
    rw [HV.out]
    go_wp2
    go_ret
    exact ⟨rfl, Below.refl _ _⟩
end Go.Proofs.Ytlkhobofbkoliaa
