/-
  spec.FirstFor, jump, JumpTo.
-/
import Derived.Test.YtbldfhfciihddaaY4
namespace Go.Proofs.Ytbldfhfciihddaa
open Go.RowKit

set_option maxHeartbeats 2000000 in
theorem specFirstFor_any (a : Option Addr) (l : List Int) (cap : Nat) (k : Int) (w : World) (hr : Reads w a l) (_hi : ∀ n ∈ l, In64 n) (hl : l.length ≤ 1048586) (_hk : In64 k) :
    Calls Try.prog 38 #[.slice a l.length cap, .int .i64 k] w fun e w' => e = .returned (.int .i64 (FF l k)) ∧ Below w.heap.size w w' := by
  have cV := specvalidServers_any a l cap w hr hl
  obtain ⟨R, hR⟩ : ∃ R, R = FF l k := ⟨_, rfl⟩
  rw [← hR]
  have HR := Lib.hid hR
  clear hR
  by_cases hv : VS l = true
  · rw [hv] at cV
    have CV := Lib.hid cV
    clear cV
    by_cases g2 : inR k 0 63 = true
    · obtain ⟨k0, k1⟩ := inR_iff.1 g2
      have e := FF_yes hv k0 k1
      rw [← HR.out] at e
      have cI := fun wx => inRange_any k 0 63 wx
      rw [g2] at cI
      have CI := Lib.hid cI
      have CO := Lib.hid (fun n => specfirst_any a l cap k (w.drewN n) hr hv k0 k1)
      have E := Lib.hid e
      clear cI e g2 hv
      go_enter Try.func38, Try.ntmps38
      go_wp2_with fail
      refine CV.out.mono ?_
      rintro e w' ⟨rfl, n, rfl⟩
      go_wp2_with fail
      refine (CI.out _).mono ?_
      rintro e w2 ⟨rfl, rfl⟩
      go_wp2_with fail
      refine (CO.out n).mono ?_
      rintro e w2 ⟨rfl, rfl⟩
      rw [← E.out]
      go_wp2
      go_ret
      exact ⟨rfl, below_drewN (Below.refl _ _) _⟩
    · have e : R = -1 := by rw [HR.out]; exact FF_no fun h => g2 (inR_iff.2 h.2)
      subst e
      have cI := fun wx => inRange_any k 0 63 wx
      rw [show inR k 0 63 = false from by simpa using g2] at cI
      have CI := Lib.hid cI
      clear cI g2 hv
      go_enter Try.func38, Try.ntmps38
      go_wp2_with fail
      refine CV.out.mono ?_
      rintro e w' ⟨rfl, n, rfl⟩
      go_wp2_with fail
      refine (CI.out _).mono ?_
      rintro e w2 ⟨rfl, rfl⟩
      go_wp2
      go_ret
      exact ⟨rfl, below_drewN (Below.refl _ _) n⟩
  · have e : R = -1 := by rw [HR.out]; exact FF_no fun h => hv h.1
    subst e
    rw [show VS l = false from by simpa using hv] at cV
    have CV := Lib.hid cV
    clear cV hv
    go_enter Try.func38, Try.ntmps38
    go_wp2_with fail
    refine CV.out.mono ?_
    rintro e w' ⟨rfl, n, rfl⟩
    go_wp2
    go_ret
    exact ⟨rfl, below_drewN (Below.refl _ _) n⟩

theorem jump_num {x t : Nat} (hx : x < 97) (ht : t ≤ 20) : ∃ X Y : Int, ∃ x' r : Nat, x' = (x * 13 + 7) % 97 ∧ r = x' % (t + 2) ∧ IntKind.i64.wrap ((x : Int) * 13) = X ∧ IntKind.i64.wrap (X + 7) = Y ∧ Y.tmod 97 = (x' : Int) ∧ (x' : Int).tmod ((t + 2 : Nat) : Int) = (r : Int) ∧ 0 ≤ X ∧ X ≤ 2000 ∧ 0 ≤ Y ∧ Y ≤ 2000 ∧ x' < 97 ∧ r < 97 := by
  refine ⟨(x : Int) * 13, (x : Int) * 13 + 7, (x * 13 + 7) % 97, (x * 13 + 7) % 97 % (t + 2), rfl, rfl, IntWalk.i64_in _ (by omega), IntWalk.i64_in _ (by omega), ?_, ?_, by omega, by omega, by omega, by omega, by omega, ?_⟩
  · rw [Int.tmod_eq_emod_of_nonneg (by omega)]; omega
  · rw [Int.tmod_eq_emod_of_nonneg (by omega)]; exact (Int.natCast_emod _ _).symm
  · have := Nat.mod_le ((x * 13 + 7) % 97) (t + 2); omega

set_option maxHeartbeats 2000000 in
theorem jump_any (k n : Nat) (w : World) (hk : k ≤ 63) (h1 : 1 ≤ n) (h2 : n ≤ 20) :
    Calls Try.prog 70 #[.int .i64 (k : Int), .int .i64 (n : Int)] w fun e w' => e = .returned (.int .i64 (ja k n : Nat)) ∧ w = w' := by
  go_enter Try.func70, Try.ntmps70
  go_wp2
  go_loopw [5, 6, 7] (fun av xv kv wr => ∃ t t1 x A : Nat, t + 1 ≤ n ∧ kv = .int .i64 (t1 : Int) ∧ av = .int .i64 (A : Int) ∧ xv = .int .i64 (x : Int) ∧ Hid (t1 = t + 1) ∧ Hid (A = ja k (t + 1)) ∧ Hid (x = jx k t) ∧ w = wr) (fun _ _ kv _ => n - (intOf kv).toNat)
  case atStart => exact ⟨0, 1, k, 0, by omega, rfl, rfl, rfl, rfl, Lib.hid (by simp [ja]), rfl, rfl⟩
  case round =>
    obtain ⟨t, t1, x, A, ht, rfl, rfl, rfl, HT1, HA, HX, rfl⟩ := hrel
    have hx := jx_lt k t (by omega)
    rw [← HX.out] at hx
    by_cases hlt : t + 1 < n
    · obtain ⟨X, Y, x', r, hx', hr, e1, e2, e3, e4, n1, n2, n3, n4, n5, n6⟩ := jump_num hx (t := t) (by omega)
      have hxs : jx k (t + 1) = x' := by rw [hx', HX.out]; rfl
      have hja : ja k (t + 2) = if t + 1 ≠ 0 ∧ jx k (t + 1) % (t + 1 + 1) = 0 then t + 1 else ja k (t + 1) := rfl
      rw [hxs, show t + 1 + 1 = t + 2 from rfl, ← hr] at hja
      obtain ⟨t2, ht2⟩ : ∃ t2, t2 = t + 2 := ⟨_, rfl⟩
      rw [← ht2] at e4
      have HT2 := Lib.hid ht2
      have ht1 : (t1 : Int) < (n : Int) := by have := HT1.out; omega
      have e5 : IntKind.i64.wrap ((t1 : Int) + 1) = (t2 : Int) := by rw [IntWalk.i64_in _ (by have := HT1.out; omega)]; have := HT1.out; omega
      have hne : ¬ t2 = 0 := by omega
      have HXS := Lib.hid hxs
      have HA2 := Lib.hid ht2
      clear hx' hr ht2 hxs
      by_cases hc : r = 0
      · rw [if_pos ⟨by omega, hc⟩] at hja
        have HJ := Lib.hid hja
        clear hja
        subst hc
        go_wp2
        refine ⟨⟨t1, t2, x', t1, by omega, by first | rfl | go_num, rfl, rfl, Lib.hid (by rw [HT2.out, HT1.out]), Lib.hid (by rw [HT1.out]; exact HJ.out.symm), Lib.hid (by rw [HT1.out]; exact HXS.out.symm), by first | rfl | trivial⟩, ?_⟩
        have := HT1.out
        have := HT2.out
        simp [intOf]; omega
      · rw [if_neg (fun h => hc h.2)] at hja
        have HJ := Lib.hid hja
        clear hja
        go_wp2
        refine ⟨⟨t1, t2, x', A, by omega, by first | rfl | go_num, rfl, rfl, Lib.hid (by rw [HT2.out, HT1.out]), Lib.hid (by rw [HT1.out, HA.out]; exact HJ.out.symm), Lib.hid (by rw [HT1.out]; exact HXS.out.symm), by first | rfl | trivial⟩, ?_⟩
        have := HT1.out
        have := HT2.out
        simp [intOf]; omega
    · have ht1 : ¬ (t1 : Int) < (n : Int) := by have := HT1.out; omega
      have e : A = ja k n := by rw [HA.out, show t + 1 = n from by omega]
      have E := Lib.hid e
      clear e
      go_wp2
      go_ret
      exact ⟨by first | rfl | (rw [E.out]; rfl), by first | rfl | trivial⟩

set_option maxHeartbeats 2000000 in
theorem specJumpTo_any (k n : Int) (w : World) (_hk : In64 k) (_hn : In64 n) :
    Calls Try.prog 41 #[.int .i64 k, .int .i64 n] w fun e w' => e = .returned (.int .i64 (JT k n)) ∧ Below w.heap.size w w' := by
  obtain ⟨R, hR⟩ : ∃ R, R = JT k n := ⟨_, rfl⟩
  rw [← hR]
  have HR := Lib.hid hR
  clear hR
  have cI := fun wx => inRange_any k 0 63 wx
  have cJ := fun wx => inRange_any n 1 20 wx
  by_cases g1 : inR k 0 63 = true
  · obtain ⟨k0, k1⟩ := inR_iff.1 g1
    rw [g1] at cI
    have CI := Lib.hid cI
    clear cI g1
    by_cases g2 : inR n 1 20 = true
    · obtain ⟨n0, n1⟩ := inR_iff.1 g2
      rw [g2] at cJ
      have CJ := Lib.hid cJ
      clear cJ g2
      obtain ⟨k', rfl⟩ : ∃ k' : Nat, k = k' := ⟨k.toNat, by omega⟩
      obtain ⟨n', rfl⟩ : ∃ n' : Nat, n = n' := ⟨n.toNat, by omega⟩
      have e : R = (ja k' n' : Int) := by rw [HR.out]; exact JT_yes (by omega) (by omega) (by omega)
      have CO := Lib.hid (fun wx => jump_any k' n' wx (by omega) (by omega) (by omega))
      have E := Lib.hid e
      clear e
      go_enter Try.func41, Try.ntmps41
      go_wp2_with fail
      refine (CI.out _).mono ?_
      rintro e w2 ⟨rfl, rfl⟩
      go_wp2_with fail
      refine (CJ.out _).mono ?_
      rintro e w2 ⟨rfl, rfl⟩
      go_wp2_with fail
      refine (CO.out _).mono ?_
      rintro e w2 ⟨rfl, rfl⟩
      rw [← E.out]
      go_wp2
      go_ret
      exact ⟨rfl, Below.refl _ _⟩
    · have e : R = -1 := by rw [HR.out]; exact JT_no fun h => g2 (inR_iff.2 h.2)
      subst e
      rw [show inR n 1 20 = false from by simpa using g2] at cJ
      have CJ := Lib.hid cJ
      clear cJ g2
      go_enter Try.func41, Try.ntmps41
      go_wp2_with fail
      refine (CI.out _).mono ?_
      rintro e w2 ⟨rfl, rfl⟩
      go_wp2_with fail
      refine (CJ.out _).mono ?_
      rintro e w2 ⟨rfl, rfl⟩
      go_wp2
      go_ret
      exact ⟨rfl, Below.refl _ _⟩
  · have e : R = -1 := by rw [HR.out]; exact JT_no fun h => g1 (inR_iff.2 h.1)
    subst e
    rw [show inR k 0 63 = false from by simpa using g1] at cI
    have CI := Lib.hid cI
    clear cI g1 cJ
    go_enter Try.func41, Try.ntmps41
    go_wp2_with fail
    refine (CI.out _).mono ?_
    rintro e w2 ⟨rfl, rfl⟩
    go_wp2
    go_ret
    exact ⟨rfl, Below.refl _ _⟩
end Go.Proofs.Ytbldfhfciihddaa
